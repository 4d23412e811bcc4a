import Derived.Test.YtmhpakbkmddfeaaIMirP
import Derived.Test.YtmhpakbkmddfeaaIOrderLaw
namespace Go.Proofs.Ytmhpakbkmddfeaa
open Go.RowKit Go.Sort Go.Shelf
set_option linter.unusedVariables false

abbrev viewV (a : Option Addr) (n c : Nat) (lo hi key : ByteArray) : Value := .agg #[.slice a n c, .string lo, .string hi, .string key]
/-- an index behind a script, at last with the key set to 1 -/
def bix (l : List Ao) (key : ByteArray) : List En := setX (ixL (chs l)) key 1
theorem bix_len (l : List Ao) (key : ByteArray) : (bix l key).length ≤ l.length + 1 := by
  have h1 := setX_len (ixL (chs l)) key 1
  have h2 := ixL_len (chs l)
  have h3 := chs_len l
  unfold bix; omega

set_option maxRecDepth 16000 in
set_option maxHeartbeats 4000000 in
theorem built_is {W : World} {a : Option Addr} {c : Nat} {l : List Ao} {lo hi key : ByteArray} (h : RowO W a l) (hl : (l.length + 2) * 64 ≤ 140737488355328) :
    Calls Try.prog 17 #[viewV a l.length c lo hi key] W fun e w' => ∃ p, e = .returned (.pointer (some ⟨p, 0, none⟩)) ∧ W.heap.size ≤ p ∧ Xi w' p (bix l key) ∧ Below W.heap.size W w' := by
  have HR := hid h
  clear h
  have b0 : Below W.heap.size W (W.alloc (.cells #[.slice a l.length c, .string lo, .string hi, .string key] 40)) := Below.al (Below.refl _ _) _
  have vb := World.alloc_heap_new W (.cells #[.slice a l.length c, .string lo, .string hi, .string key] 40)
  have hsz0 : (W.alloc (.cells #[.slice a l.length c, .string lo, .string hi, .string key] 40)).heap.size = W.heap.size + 1 := by simp
  obtain ⟨W0, hW0⟩ : ∃ W0, W0 = W.alloc (.cells #[.slice a l.length c, .string lo, .string hi, .string key] 40) := ⟨_, rfl⟩
  rw [← hW0] at b0 vb hsz0
  obtain ⟨B, hB⟩ : ∃ B, B = W.heap.size := ⟨_, rfl⟩
  rw [← hB] at vb
  have v0 : W0.cell? ⟨B, 0, none⟩ = some (.slice a l.length c) := cell_of_obj vb rfl
  have v3 : W0.cell? ⟨B, 3, none⟩ = some (.string key) := cell_of_obj vb rfl
  obtain ⟨p, hp⟩ : ∃ p, p = W0.heap.size := ⟨_, rfl⟩
  have NE : Hid (Calls Try.prog 9 #[] W0 fun e w' => e = .returned (.pointer (some ⟨p, 0, none⟩)) ∧ w'.cell? ⟨B, 0, none⟩ = some (.slice a l.length c) ∧ Hid (Xi w' p []) ∧ Hid (Below W0.heap.size W0 w')) := by
    rw [hp]; exact (new_is W0).mono fun e w' hh => ⟨hh.1, cell_later hh.2.2 v0, hh.2.1, hh.2.2⟩
  have HP : Hid (p = W.heap.size + 1) := by show _ = _; omega
  have HP0 := hid hp
  have HB0 := hid b0
  clear hp b0 hsz0
  go_enter Try.func17, Try.ntmps17
  go_wp2_with fail
  rw [← hW0, ← hB]
  clear hW0 hB
  go_wp2_with (go_at_call 9; refine NE.out.mono ?_; rintro e w1 ⟨rfl, v0', hx0, hb0⟩)
  have hbW : Hid (Below W0.heap.size W0 w1) := hb0
  go_loopg [13] l.length (fun g s13 wr => ∃ i : Nat, i ≤ l.length ∧ g = l.length - i ∧ s13 = .int .i64 i ∧ Hid (Xi wr p (ixL (chs (l.take i)))) ∧ Hid (Below W0.heap.size W0 wr))
  case atStart => exact ⟨0, by omega, by omega, rfl, hx0, hb0⟩
  case round =>
    obtain ⟨i, hi, rfl, rfl, HX, HBr⟩ := hrel
    have HB : Hid (Below W.heap.size W wr) := Below.on HB0.out HBr.out
    clear hx0 hb0 NE hbW v0'
    have hlen : (ixL (chs (l.take i))).length + 1 ≤ l.length + 1 := by
      have h1 := ixL_len (chs (l.take i)); have h2 := chs_len (l.take i); have h3 := List.length_take_le i l
      omega
    by_cases hlt : i < l.length
    · obtain ⟨b, off, rfl, d0, d1, d2, d3, d4, d5⟩ := HR.out i hlt
      have HT : Hid (l.take (i + 1) = l.take i ++ [nthO l i]) := nthO_take hlt
      obtain ⟨x, hx⟩ : ∃ x, x = nthO l i := ⟨_, rfl⟩
      rw [← hx] at d0 d2 d4 HT
      clear hx d1 d3 d5
      have q0 := cell_later HB0.out d0
      have q2 := cell_later HB0.out d2
      have q4 := cell_later HB0.out d4
      have e0 := cell_later HB.out d0
      have e2 := cell_later HB.out d2
      have e4 := cell_later HB.out d4
      clear d0 d2 d4
      by_cases h2 : x.k = 2
      · have SE : Hid (∀ w, Below wr.heap.size wr w → Calls Try.prog 10 #[.pointer (some ⟨p, 0, none⟩), .string x.key, .int .i64 x.v] w fun e w' => ∃ u : Bool, e = .returned (.bool u) ∧ Hid (Xi w' p (ixL (chs (l.take (i + 1))))) ∧ Below W0.heap.size W0 w') := fun w hb =>
          (set_is (HX.out.later hb) x.key x.v (by omega)).mono fun e w' ⟨he, hx', ho⟩ => ⟨_, he, by show Xi _ _ _; rw [HT.out, ixL_chs_snoc, if_pos h2]; exact hx', Onl.on_below (Below.on HBr.out hb) ho (by have := HP0.out; omega)⟩
        rw [h2] at q0 e0
        have hBw := HBr.out
        clear h2 hlen
        go_wp2_with fail
        go_region_held3 (fun w' => w'.cell? ⟨b, off + i * 6 + 2, none⟩ = some (.string x.key) ∧ w'.cell? ⟨b, off + i * 6 + 4, none⟩ = some (.int .i64 x.v) ∧ Below W0.heap.size W0 w')
          ((refine (fun (hB : Below W0.heap.size W0 _) => ⟨cell_later hB q2, cell_later hB q4, hB⟩) ?_; (repeat (first | exact Below.refl _ _ | assumption | refine Below.drew ?_ | refine Below.al ?_ _ | refine Below.setCell ?_ (by first | exact Nat.le_refl _ | (simp; omega) | (simp; done)) _ | refine Below.on ?_ (by assumption)))))
          (first | (go_at_call 10; refine (SE.out _ ?_).mono ?_; ((repeat (first | exact Below.refl _ _ | assumption | refine Below.drew ?_ | refine Below.al ?_ _ | refine Below.setCell ?_ (by first | exact Nat.le_refl _ | (simp; omega) | (simp; done)) _ | refine Below.on ?_ (by assumption)))); rintro e w2 ⟨u, rfl, hx2, hb2⟩; have e0' := cell_later hb2 q0))
        go_wp2_with fail
        go_roundg (l.length - (i + 1))
        case measure => omega
        case rel => exact ⟨i + 1, by omega, rfl, by go_num, hx2, hb2⟩
      · have p2 : (x.k == 2) = false := by simpa using h2
        by_cases h4 : x.k = 4
        · have DE : Hid (Calls Try.prog 11 #[.pointer (some ⟨p, 0, none⟩), .string x.key] wr fun e w' => ∃ u : Bool, e = .returned (.bool u) ∧ Hid (Xi w' p (ixL (chs (l.take (i + 1))))) ∧ Hid (Below W0.heap.size W0 w')) :=
            (del_is HX.out x.key (by omega)).mono fun e w' ⟨he, hx', ho⟩ => ⟨_, he, by show Xi _ _ _; rw [HT.out, ixL_chs_snoc, if_neg h2, if_pos h4]; exact hx', Onl.on_below HBr.out ho (by have := HP0.out; omega)⟩
          rw [h4] at e0
          clear h2 h4 p2 hlen q0 q2 q4
          go_wp2_with (go_at_call 11; refine DE.out.mono ?_; rintro e w2 ⟨u, rfl, hx2, hb2⟩)
          go_roundg (l.length - (i + 1))
          case measure => omega
          case rel => exact ⟨i + 1, by omega, rfl, by go_num, hx2, hb2⟩
        · have p4 : (x.k == 4) = false := by simpa using h4
          have HX2 : Hid (Xi wr p (ixL (chs (l.take (i + 1))))) := by show Xi _ _ _; rw [HT.out, ixL_chs_snoc, if_neg h2, if_neg h4]; exact HX.out
          clear h2 h4 hlen q0 q2 q4
          go_wp2_with fail
          go_roundg (l.length - (i + 1))
          case measure => omega
          case rel => exact ⟨i + 1, by omega, rfl, by go_num, HX2, HBr⟩
    · obtain rfl : i = l.length := by omega
      have HX' : Hid (Xi wr p (ixL (chs l))) := by have := HX.out; rw [List.take_of_length_le (Nat.le_refl _)] at this; exact this
      have SE : Hid (Calls Try.prog 10 #[.pointer (some ⟨p, 0, none⟩), .string key, .int .i64 1] wr fun e w' => ∃ u : Bool, e = .returned (.bool u) ∧ Hid (Xi w' p (bix l key)) ∧ Hid (Below W0.heap.size W0 w')) :=
        (set_is HX'.out key 1 (by have := ixL_len (chs l); have := chs_len l; omega)).mono fun e w' ⟨he, hx', ho⟩ => ⟨_, he, hx', Onl.on_below HBr.out ho (by have := HP0.out; omega)⟩
      have v3' := cell_later HBr.out v3
      clear HX hlen hlt hi
      go_wp2_with (go_at_call 10; refine SE.out.mono ?_; rintro e w2 ⟨u, rfl, hx2, hb2⟩)
      go_ret
      exact ⟨p, rfl, by have := HP.out; omega, hx2.out, Below.on HB0.out hb2.out⟩

set_option maxHeartbeats 2000000 in
theorem same_is {w : World} {a b : Option Addr} {c d : Nat} {l m : List ByteArray} {u : Bool} (hu : decide (l = m) = u) (h : RowT w a l) (k : RowT w b m) (hl : l.length ≤ 9223372036854775806) :
    Calls Try.prog 20 #[.slice a l.length c, .slice b m.length d] w fun e w' => e = .returned (.bool u) ∧ Below w.heap.size w w' := by
  have HA := hid h
  have HK := hid k
  have HU := hid hu
  clear h k hu
  by_cases hlen : l.length = m.length
  · have q0 : (l.length == m.length) = true := by simp [hlen]
    have hm : m.length ≤ 9223372036854775806 := by omega
    have HL := hid hlen
    obtain ⟨n, hn⟩ : ∃ n, n = l.length := ⟨_, rfl⟩
    have hmn : m.length = n := by omega
    have HN := hid hn
    have HMN := hid hmn
    rw [hmn, ← hn]
    rw [← hn] at hl
    clear hm hlen q0 hn hmn
    go_enter Try.func20, Try.ntmps20
    go_wp2_with fail
    go_loopg [13] n (fun g s13 wr => ∃ i : Nat, i ≤ n ∧ g = n - i ∧ s13 = .int .i64 i ∧ Hid (l.take i = m.take i) ∧ Hid (Below w.heap.size w wr))
    case atStart => exact ⟨0, by omega, by omega, rfl, rfl, Below.refl _ _⟩
    case round =>
      obtain ⟨i, hi, rfl, rfl, HT, HB⟩ := hrel
      by_cases hlt : i < n
      · have hil : i < l.length := by have := HN.out; omega
        have him : i < m.length := by have := HMN.out; omega
        obtain ⟨ba, offa, rfl, c0⟩ := HA.out i hil
        obtain ⟨bb, offb, rfl, d0⟩ := HK.out i him
        have c0' := cell_later HB.out c0
        have d0' := cell_later HB.out d0
        have HTL : Hid (l.take (i + 1) = l.take i ++ [nthT l i]) := by show _ = _; rw [List.take_add_one, nthT, List.getElem?_eq_getElem hil]; rfl
        have HTM : Hid (m.take (i + 1) = m.take i ++ [nthT m i]) := by show _ = _; rw [List.take_add_one, nthT, List.getElem?_eq_getElem him]; rfl
        have HNE : Hid (nthT l i ≠ nthT m i → l ≠ m) := fun hne e => hne (by rw [e])
        obtain ⟨x, hx⟩ : ∃ x, x = nthT l i := ⟨_, rfl⟩
        obtain ⟨y, hy⟩ : ∃ y, y = nthT m i := ⟨_, rfl⟩
        rw [← hx] at c0' HTL HNE
        rw [← hy] at d0' HTM HNE
        clear hx hy c0 d0 hil him
        by_cases hxy : x = y
        · have q1 := toList_beq' (decide_eq_true hxy)
          have HT2 : Hid (l.take (i + 1) = m.take (i + 1)) := by show _ = _; rw [HTL.out, HTM.out, HT.out, hxy]
          clear hxy
          go_wp2_with fail
          go_quiet (fail)
          go_wp2_with fail
          go_roundg (n - (i + 1))
          case measure => omega
          case rel => exact ⟨i + 1, by omega, rfl, by go_num, HT2, Below.drewN HB.out _⟩
        · have q1 := toList_beq' (decide_eq_false hxy)
          have HF : Hid (u = false) := by show _ = _; rw [← HU.out]; exact decide_eq_false (HNE.out hxy)
          clear hxy
          go_wp2_with fail
          go_quiet (fail)
          go_wp2_with fail
          go_ret
          exact ⟨retB' HF.out.symm, Below.drewN HB.out _⟩
      · obtain rfl : i = n := by omega
        have HF : Hid (u = true) := by
          show _ = _
          have h1 := HT.out
          rw [HN.out, List.take_of_length_le (Nat.le_refl _)] at h1
          have h2 : l.length = m.length := HL.out
          rw [h2, List.take_of_length_le (Nat.le_refl _)] at h1
          rw [← HU.out]; exact decide_eq_true h1
        go_wp2_with fail
        go_ret
        exact ⟨retB' HF.out.symm, HB.out⟩
  · have q0 : (l.length == m.length) = false := by simp [hlen]
    have HF : Hid (u = false) := by show _ = _; rw [← HU.out]; exact decide_eq_false (fun e => hlen (by rw [e]))
    clear hlen
    go_enter Try.func20, Try.ntmps20
    go_wp2_with fail
    go_ret
    exact ⟨retB' HF.out.symm, Below.refl _ _⟩

end Go.Proofs.Ytmhpakbkmddfeaa
