import Derived.Test.YtpnbgdbkiokooaaFkStep
/- FlightKeeps. -/
namespace Go.Proofs.Ytpnbgdbkiokooaa.Fl
open Go.RowKit Go.Sort Go.Proofs.Ytpnbgdbkiokooaa
set_option linter.unusedVariables false

abbrev tk : ByteArray := ⟨#[107]⟩
theorem bm_start {W w w2 : World} {p : Nat} (h : Fl w W.heap.size p (.slice none 0 0) []) (hb : Below W.heap.size W w) (hw2 : w2 = w.alloc (.cells #[.slice none 0 0, .slice none 0 0] 29)) : Bm W w2 w2 p w.heap.size (.slice none 0 0) (.slice none 0 0) (.slice none 0 0) (.slice none 0 0) (.slice none 0 0) (.slice none 0 0) [] [] := by
  have hb2 : Below w.heap.size w w2 := by rw [hw2]; exact Below.al (Below.refl _ _) _
  refine ⟨h.later hb2, ⟨by rw [hw2]; exact World.alloc_heap_new _ _, RowF.nil _ _, World.ownsRow_nil _ _ _ _, hb.size⟩, ?_, Below.on hb hb2, Onl.refl _ _, fun k hk => .inl hk⟩
  rintro k (rfl | hk) (e | e | e)
  · have := h.lt; omega
  · cases e
  · cases e
  · cases hk
  · cases hk
  · cases hk
/-- what holds between two steps -/
def Gd (W w : World) (p q : Nat) (m : Nat) : Prop := ∃ ys T, Bn W w p q ys T ∧ Tg T ys ∧ ys.length ≤ m ∧ T.length ≤ m
theorem Gd.books {W w : World} {p q m : Nat} (h : Gd W w p q m) (s : Sp) (hs : Rd W s.v s.l) (hm : m + (s.l.length + 1) ≤ 1073741824) :
    Calls Try.prog 7 #[pt q, pt p, s.val] w fun e w' => e = .returned (.bool true) ∧ Hid (Gd W w' p q (m + (s.l.length + 1))) := by
  obtain ⟨ys, T, hB, hg, h1, h2⟩ := h
  refine (books_is hB hg s hs (by omega) (by omega) (by omega)).mono ?_
  rintro e w' ⟨rfl, ys', T', hB', hg', h1', h2'⟩
  exact ⟨rfl, ys', T', hB', hg', by omega, by omega⟩
theorem Gd.all {W w : World} {p q m : Nat} (h : Gd W w p q m) (hm : m ≤ 1073741824) :
    Calls Try.prog 9 #[pt p] w fun e w1 => ∃ a n c, e = .returned (.slice a n c) ∧ Hid (Below W.heap.size W w1) ∧
      Hid (Calls Try.prog 8 #[pt q, .slice a n c] w1 fun e w2 => e = .returned (.bool true) ∧ Hid (Gd W w2 p q m)) := by
  obtain ⟨ys, T, hB, hg, h1, h2⟩ := h
  obtain ⟨v, vt, vn, hB⟩ := hB
  refine (Bs.all ⟨v, vt, vn, hB⟩ (by omega) hg (by omega)).mono ?_
  rintro e w1 ⟨a, n, c, rfl, h3, h4⟩
  refine ⟨a, n, c, rfl, by obtain ⟨_, _, _, h3⟩ := h3.out; exact h3.bl, ?_⟩
  refine h4.out.mono ?_
  rintro e w2 ⟨rfl, T', hB', hg', hl'⟩
  exact ⟨rfl, ys, T', hB'.bn, hg', h1, by omega⟩
theorem Gd.bl {W w : World} {p q m : Nat} (h : Gd W w p q m) : Below W.heap.size W w := by
  obtain ⟨ys, T, ⟨_, _, _, hB⟩, _⟩ := h
  exact hB.bl

set_option maxHeartbeats 8000000 in
theorem law_keeps {W : World} {a : Option Addr} {c : Nat} {xs : List Sp} (hrow : RowP W a xs) (hrd : ∀ s ∈ xs, Rd W s.v s.l) (hsz : sz xs ≤ 1048576) :
    Calls Try.prog 3 #[.slice a xs.length c] W fun e w' => e = .returned (.bool true) ∧ Below W.heap.size W w' := by
  have HROW := hid hrow
  have HRD := hid hrd
  have HSZ := hid hsz
  have hm20 := Nat.le_trans (sz_len xs) hsz
  obtain ⟨m, hm⟩ : ∃ m, m = xs.length := ⟨_, rfl⟩
  have HM := hid hm
  rw [← hm] at hm20 ⊢
  clear hrow hrd hsz hm
  go_enter Try.func3, Try.ntmps3
  go_wp2_with fail
  refine (new_is W).mono ?_
  rintro e w1 ⟨p, rfl, HF, HB⟩
  obtain ⟨w2, hw2⟩ : ∃ w2, w2 = w1.alloc (.cells #[.slice none 0 0, .slice none 0 0] 29) := ⟨_, rfl⟩
  have hb2 := bm_start HF.out HB.out hw2
  obtain ⟨w3, hw3⟩ : ∃ w3, w3 = w2.alloc (.cells #[.string tk] 9) := ⟨_, rfl⟩
  have hb3 := hb2.later (w' := w3) (by rw [hw3]; exact Below.al (Below.refl _ _) _)
  obtain ⟨q, hq⟩ : ∃ q, q = w1.heap.size := ⟨_, rfl⟩
  rw [← hq] at hb2 hb3
  have hb3' : w2.heap.size = q + 1 := by rw [hw2, World.size_alloc, hq]
  have HSE := hid (Bs.send ⟨_, _, _, hb3⟩ (u := .slice (some ⟨q + 1, 0, none⟩) 1 1) (ys := [tk]) (by rw [hw3, ← hb3']; exact rd_one w2 tk) (by decide))
  clear hb2 hb3
  have HW2 := hid hw2
  have HW3 := hid hw3
  have HQ := hid hq
  clear hw2 hw3 hq hb3' HF HB
  go_wp2_with fail
  rw [← HW2.out, ← HQ.out, ← HW3.out]
  refine HSE.out.mono ?_
  rintro e w4 ⟨rfl, HS4⟩
  have HAD := hid (HS4.out.add tk 1 (by omega) (fun e he => by simp at he) (by simp))
  clear HSE HW2 HW3 HQ
  go_wp2_with fail
  refine HAD.out.mono ?_
  rintro e w5 ⟨rfl, HS5⟩
  have HG5 : Hid (Gd W w5 p q 1) := ⟨[tk], [(tk, 1)], HS5.out.bn, ⟨by simp [ky], fun k => by simp [val, cnt]⟩, by simp, by simp⟩
  clear HAD HS4 HS5
  go_wp2_with fail
  go_loopg [5] m (fun g s5 wr => ∃ i : Nat, i ≤ m ∧ g = m - i ∧ s5 = .int .i64 i ∧ Hid (Gd W wr p q (1 + sz (xs.take i))))
  case atStart => exact ⟨0, by omega, by omega, rfl, by rw [List.take_zero]; exact HG5.out⟩
  case round =>
    obtain ⟨i, hi, rfl, rfl, HG⟩ := hrel
    clear HG5
    by_cases hlt : i < m
    · have hlt' : i < xs.length := by rw [← HM.out]; exact hlt
      obtain ⟨b, off, rfl, hc⟩ := RowP.later HROW.out HG.out.bl i hlt'
      have hc : ∀ o u, (spc (nthP xs i))[o]? = some u → wr.cell? ⟨b, off + i * 4 + o, none⟩ = some u := hc
      have hle := sz_le xs (i + 1)
      rw [sz_take hlt'] at hle
      have hs3 := HSZ.out
      have HBK := hid (HG.out.books (nthP xs i) (HRD.out _ (nthP_mem hlt')) (by omega))
      rw [Nat.add_assoc, ← sz_take hlt'] at HBK
      have HNX : Hid (1 + sz (xs.take (i + 1)) ≤ 1073741824) := by show _ ≤ _; rw [sz_take hlt']; omega
      obtain ⟨s, hs⟩ : ∃ s, s = nthP xs i := ⟨_, rfl⟩
      rw [← hs] at hc HBK
      have g0 : wr.cell? ⟨b, off + i * 4, none⟩ = some (.int .i64 s.k) := by have := hc 0 _ rfl; simpa using this
      have g1 : wr.cell? ⟨b, off + i * 4 + 1, none⟩ = some (.int .i64 s.o) := by have := hc 1 _ rfl; simpa using this
      have g2 : wr.cell? ⟨b, off + i * 4 + 2, none⟩ = some (.int .i64 s.i) := by have := hc 2 _ rfl; simpa using this
      have g3 : wr.cell? ⟨b, off + i * 4 + 3, none⟩ = some s.v := by have := hc 3 _ rfl; simpa using this
      obtain ⟨a4, c4, hv4, _⟩ := HRD.out _ (nthP_mem hlt')
      rw [← hs] at hv4
      rw [hv4] at g3
      have e4 : s.val = .agg #[.int .i64 s.k, .int .i64 s.o, .int .i64 s.i, .slice a4 s.l.length c4] := by show Value.agg #[_, _, _, s.v] = _; rw [hv4]
      rw [e4] at HBK
      clear hc hle hs3 hs hv4 e4
      go_wp2_with fail
      refine HBK.out.mono ?_
      rintro e w6 ⟨rfl, HG6⟩
      clear HBK g0 g1 g2 g3
      go_wp2_with fail
      refine (HG6.out.all HNX.out).mono ?_
      rintro e w7 ⟨a7, n7, c7, rfl, HB7, HC7⟩
      go_wp2_with fail
      refine HC7.out.mono ?_
      rintro e w8 ⟨rfl, HG8⟩
      go_wp2_with fail
      go_roundg (m - (i + 1))
      case measure => omega
      case rel => exact ⟨i + 1, by omega, rfl, by go_num, HG8.out⟩
    · obtain rfl : m = i := by omega
      have hz := sz_le xs m
      have hs3 := HSZ.out
      have HAL := hid (HG.out.all (by omega))
      clear hlt hi hz hs3
      go_wp2_with fail
      refine HAL.out.mono ?_
      rintro e w7 ⟨a7, n7, c7, rfl, HB7, HC7⟩
      go_wp2_with fail
      refine HC7.out.mono ?_
      rintro e w8 ⟨rfl, HG8⟩
      go_wp2_with fail
      go_ret
      exact ⟨rfl, HG8.out.bl⟩
end Go.Proofs.Ytpnbgdbkiokooaa.Fl
