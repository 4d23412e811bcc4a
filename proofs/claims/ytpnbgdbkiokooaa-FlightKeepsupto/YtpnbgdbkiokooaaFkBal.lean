import Derived.Test.YtpnbgdbkiokooaaFkAdd
/- balanced. -/
namespace Go.Proofs.Ytpnbgdbkiokooaa.Fl
open Go.RowKit Go.Sort Go.Proofs.Ytpnbgdbkiokooaa
set_option linter.unusedVariables false

theorem cnt_take (m : ByteArray) (xs : List ByteArray) {i : Nat} (h : i < xs.length) : cnt m (xs.take (i + 1)) = cnt m (xs.take i) + if nthT xs i = m then 1 else 0 := by
  rw [List.take_add_one, nthT_get h, cnt_app]; simp [cnt]
theorem cnt_take_le (m : ByteArray) (xs : List ByteArray) (i : Nat) : 0 ≤ cnt m (xs.take i) ∧ cnt m (xs.take i) ≤ cnt m xs := by
  have h1 := cnt_app m (xs.take i) (xs.drop i)
  rw [List.take_append_drop] at h1
  have h2 := cnt_bd m (xs.take i)
  have h3 := cnt_bd m (xs.drop i)
  omega
/-- the tally while it is worked on -/
def Wk (w wr : World) (B q : Nat) (vt vn : Value) (T : Tl) (K : Nat) (f : ByteArray → Int) : Prop := ∃ vt' vn' T', Mt w wr B q vt vn vt' vn' T' ∧ Tz T T' K f
theorem Wk.step {w wr : World} {B q : Nat} {vt vn : Value} {T : Tl} {K : Nat} {f g : ByteArray → Int} (h : Wk w wr B q vt vn T K f) (hB : B ≤ w.heap.size) {m : ByteArray} {b : Int} (hm : m ∈ ky T) (hg : ∀ k, g k = f k + if m = k then b else 0) (hbd : ∀ m, - (K : Int) ≤ g m ∧ g m ≤ K) (hb : -1 ≤ b ∧ b ≤ 1) (hl : (T.length + 1) * 64 ≤ 140737488355328) (hK : K ≤ 1099511627776) :
    Calls Try.prog 6 #[pt q, .string m, .int .i64 b] wr fun e w' => e = .returned (.tuple #[]) ∧ Hid (Wk w w' B q vt vn T K g) := by
  obtain ⟨vt', vn', T', hM, hz⟩ := h
  refine (add_is hM.ta m b hb (fun e he => ?_) (by rw [hz.len]; exact hl) (Nat.le_trans hB hM.onl.size)).mono ?_
  · have := hz.nums e he
    omega
  · rintro e w' ⟨rfl, vt2, vn2, hM2⟩
    exact ⟨rfl, vt2, vn2, _, hM.trans hM2, hz.add hm hg hbd⟩
theorem Wk.row {w wr : World} {B B' q : Nat} {vt vn u : Value} {T : Tl} {K : Nat} {f : ByteArray → Int} {xs : List ByteArray} (h : Wk w wr B q vt vn T K f) (hr : RowF w B' u xs) (hu : ∀ g, u.ownBlock = some g → ¬ ItT q vt vn g) : RowF wr B' u xs := by
  obtain ⟨vt', vn', T', hM, hz⟩ := h
  exact hr.keep fun g hg => hM.onl.block g (hr.lt g hg).2 (hu g hg)
theorem Wk.start {w : World} {B q : Nat} {vt vn : Value} {T : Tl} {xs : List ByteArray} (h : Ta w B q vt vn T) (hg : Tg T xs) : Wk w w B q vt vn T xs.length (fun m => cnt m xs - cnt m (xs.take 0)) :=
  ⟨vt, vn, T, Mt.refl h (Below.refl _ _), hg.nod, rfl, fun m => by rw [List.take_zero]; simp [cnt, hg.val], fun m => by
    have h1 := cnt_bd m xs
    have h2 := cnt_take_le m xs 0
    omega⟩
theorem Wk.eq {w wr : World} {B q : Nat} {vt vn : Value} {T : Tl} {K : Nat} {f g : ByteArray → Int} (h : Wk w wr B q vt vn T K f) (e : ∀ m, f m = g m) : Wk w wr B q vt vn T K g := by
  have : f = g := funext e
  rw [← this]; exact h
/-- one number of the tally, where all are nought -/
theorem Wk.read {w wr : World} {B q : Nat} {vt vn : Value} {T : Tl} {K : Nat} {f : ByteArray → Int} (h : Wk w wr B q vt vn T K f) (hf : ∀ m, f m = 0) : ∃ a c, wr.cell? ⟨q, 1, none⟩ = some (.slice a T.length c) ∧ T.length ≤ 9223372036854775807 ∧ ∀ i, i < T.length → ∃ g, a = some ⟨g, 0, none⟩ ∧ wr.cell? ⟨g, i, none⟩ = some (.int .i64 0) := by
  obtain ⟨vt', vn', T', hM, hz⟩ := h
  obtain ⟨a, c, rfl⟩ := owns_slice hM.ta.nm
  have x1 : wr.cell? ⟨q, 1, none⟩ = some (.slice a T'.length c) := cell_obj hM.ta.blk rfl
  have hcap : T'.length ≤ 9223372036854775807 := by
    rcases hM.ta.nm.2 with ⟨_, h0⟩ | ⟨g, cap, cur, _, _, _, hle, hcm, _⟩
    · omega
    · unfold maxLen at hcm; omega
  refine ⟨a, c, by rw [← hz.len]; exact x1, by rw [← hz.len]; exact hcap, fun i hi => ?_⟩
  rw [← hz.len] at hi
  have hta := hM.ta
  rcases hM.ta.nm.2 with ⟨hv, h0⟩ | ⟨g, cap, cur, hv, _⟩
  · omega
  · injection hv with hv1 _ hv3
    subst hv1
    subst hv3
    refine ⟨g, rfl, ?_⟩
    rw [hta.num hi]
    obtain ⟨e, he, hee⟩ := nthN_mem hi
    rw [← hee, hz.zero hf e he]

set_option maxHeartbeats 4000000 in
theorem balanced_is {w : World} {B B' q : Nat} {vt vn u : Value} {T : Tl} {xs : List ByteArray} (h : Ta w B q vt vn T) (hg : Tg T xs) (hr : RowF w B' u xs) (hu : ∀ g, u.ownBlock = some g → ¬ ItT q vt vn g) (hl : (T.length + 1) * 64 ≤ 140737488355328) (hK : xs.length ≤ 1099511627776) (hB : B ≤ w.heap.size) :
    Calls Try.prog 8 #[pt q, u] w fun e w' => e = .returned (.bool true) ∧ Hid (∃ vt' vn' T', Mt w w' B q vt vn vt' vn' T' ∧ Tg T' xs ∧ T'.length = T.length) := by
  have HW := hid (Wk.start h hg)
  have HR := hid hr
  have HU := hid hu
  have HL := hid hl
  have HK := hid hK
  have HB := hid hB
  have HM : Hid (∀ i, i < xs.length → nthT xs i ∈ ky T) := fun i hi => mem_of_val (by
    rw [hg.val]
    have := cnt_pos (m := nthT xs i) (a := xs) (List.mem_iff_getElem?.2 ⟨i, nthT_get hi⟩)
    omega)
  obtain ⟨a, c, hv, hc, hcm⟩ := hr.slice
  obtain ⟨n, hn⟩ : ∃ n, n = xs.length := ⟨_, rfl⟩
  have HN := hid hn
  rw [← hn] at hv hc
  subst hv
  unfold maxLen at hcm
  have hn63 : n ≤ 9223372036854775807 := by omega
  have RD : Hid (∀ (wr : World) (f : ByteArray → Int) (i : Nat), Wk w wr B q vt vn T xs.length f → i < n → ∃ g off, a = some ⟨g, off, none⟩ ∧ wr.cell? ⟨g, off + i, none⟩ = some (.string (nthT xs i))) := fun wr f i hW hi => by
    have hr2 := hW.row hr hu
    rw [hn] at hi
    rcases hr2 with ⟨_, e0⟩ | ⟨g, off, c2, e, _, hr2⟩
    · rw [e0] at hi; simp at hi
    · injection e with e1 e2 e3
      exact ⟨g, off, e1, hr2.at_ i _ (nthT_get hi)⟩
  clear h hg hr hu hl hK hB hn hc hcm
  go_enter Try.func8, Try.ntmps8
  go_wp2_with fail
  go_loopg [5] n (fun g s5 wr => ∃ i : Nat, i ≤ n ∧ g = n - i ∧ s5 = .int .i64 i ∧ Hid (Wk w wr B q vt vn T xs.length (fun m => cnt m xs - cnt m (xs.take i))))
  case atStart => exact ⟨0, by omega, by omega, rfl, HW.out⟩
  case round =>
    obtain ⟨i, hi, rfl, rfl, HI⟩ := hrel
    clear HW
    by_cases hlt : i < n
    · have hlt' : i < xs.length := by rw [← HN.out]; exact hlt
      obtain ⟨g, off, rfl, y0⟩ := RD.out wr _ i HI.out hlt
      have hadd := hid (HI.out.step (g := fun m => cnt m xs - cnt m (xs.take (i + 1))) (b := -1) HB.out (HM.out i hlt') (fun k => by
        have := cnt_take k xs hlt'
        rw [this]; split <;> omega) (fun m => by
        have h1 := cnt_bd m xs
        have h2 := cnt_take_le m xs (i + 1)
        omega) (by omega) HL.out HK.out)
      generalize nthT xs i = t at y0 hadd
      go_wp2_with fail
      refine hadd.out.mono ?_
      rintro e w1 ⟨rfl, HI2⟩
      go_wp2_with fail
      go_roundg (n - (i + 1))
      case measure => omega
      case rel => exact ⟨i + 1, by omega, rfl, by go_num, HI2.out⟩
    · obtain rfl : n = i := by omega
      have hz : ∀ m, cnt m xs - cnt m (xs.take n) = 0 := fun m => by rw [HN.out, List.take_of_length_le (Nat.le_refl _)]; omega
      obtain ⟨an, cn, x1, hT63, RN⟩ := HI.out.read hz
      have RN := hid RN
      obtain ⟨t, ht⟩ : ∃ t, t = T.length := ⟨_, rfl⟩
      rw [← ht] at x1 hT63
      have HTL := hid ht
      have HI2 : Hid (Wk w wr B q vt vn T xs.length (fun m => cnt m (xs.take 0))) := HI.out.eq fun m => by rw [hz, List.take_zero]; rfl
      clear hlt hi HI hz ht
      go_wp2_with fail
      go_loopg [6, 7] t (fun g s6 s7 ws => ∃ j : Nat, j ≤ t ∧ g = t - j ∧ s7 = .int .i64 j ∧ s6 = .bool true ∧ ws = wr)
      case atStart => exact ⟨0, by omega, by omega, rfl, rfl, rfl⟩
      case round =>
        obtain ⟨j, hj, rfl, rfl, rfl, rfl⟩ := hrel
        by_cases hlt : j < t
        · obtain ⟨g, rfl, y0⟩ := RN.out j (by rw [← HTL.out]; exact hlt)
          go_wp2_with fail
          go_roundg (t - (j + 1))
          case measure => omega
          case rel => exact ⟨j + 1, by omega, rfl, by go_num, rfl, rfl⟩
        · obtain rfl : t = j := by omega
          clear hlt hj
          go_wp2_with fail
          go_loopg [8] n (fun g s8 wy => ∃ i : Nat, i ≤ n ∧ g = n - i ∧ s8 = .int .i64 i ∧ Hid (Wk w wy B q vt vn T xs.length (fun m => cnt m (xs.take i))))
          case atStart => exact ⟨0, by omega, by omega, rfl, HI2.out⟩
          case round =>
            obtain ⟨i, hi, rfl, rfl, HI⟩ := hrel
            clear HI2 x1 RN
            by_cases hlt : i < n
            · have hlt' : i < xs.length := by rw [← HN.out]; exact hlt
              obtain ⟨g, off, rfl, y0⟩ := RD.out wr _ i HI.out hlt
              have hadd := hid (HI.out.step (g := fun m => cnt m (xs.take (i + 1))) (b := 1) HB.out (HM.out i hlt') (fun k => by
                have := cnt_take k xs hlt'
                rw [this]) (fun m => by
                have h1 := cnt_bd m xs
                have h2 := cnt_take_le m xs (i + 1)
                omega) (by omega) HL.out HK.out)
              generalize nthT xs i = t2 at y0 hadd
              go_wp2_with fail
              refine hadd.out.mono ?_
              rintro e w1 ⟨rfl, HI3⟩
              go_wp2_with fail
              go_roundg (n - (i + 1))
              case measure => omega
              case rel => exact ⟨i + 1, by omega, rfl, by go_num, HI3.out⟩
            · obtain rfl : n = i := by omega
              clear hlt hi
              go_wp2_with fail
              go_ret
              obtain ⟨vt', vn', T', hM, hz⟩ := HI.out
              exact ⟨rfl, vt', vn', T', hM, ⟨hz.nod, fun m => by rw [hz.val, HN.out, List.take_of_length_le (Nat.le_refl _)]⟩, hz.len⟩
end Go.Proofs.Ytpnbgdbkiokooaa.Fl
