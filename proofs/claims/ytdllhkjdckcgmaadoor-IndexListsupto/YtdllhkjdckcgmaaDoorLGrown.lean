import Derived.Test.YtdllhkjdckcgmaaDoorLGrowP
namespace Go.Proofs.YtdllhkjdckcgmaaDoor
open Go.RowKit Go.Sort
set_option linter.unusedVariables false

theorem nthT_take' {l : List ByteArray} {i : Nat} (h : i < l.length) : l.take (i + 1) = l.take i ++ [nthT l i] := by
  rw [List.take_add_one, nthT, List.getElem?_eq_getElem h]; rfl
theorem OwnT.grown {w w' : World} {B : Nat} {v : Value} {T : List ByteArray} {a : World} (h : OwnT w B v T) (hg : w.grownBy w' v.ownBlock) (ha : Below B a w) (hB : B ≤ a.heap.size) : Below B a w' :=
  grown_below hg ha hB fun k hk => (World.ownsRow.lt h k hk).1

set_option maxHeartbeats 4000000 in
theorem kept_is {w : World} {ka : Option Addr} {kc : Nat} {T : List ByteArray} (h : RowT w ka T) (hl : T.length ≤ 1000000) :
    Calls Tryd.prog 13 #[.slice ka T.length kc] w fun e w' => ∃ v, e = .returned v ∧ OwnT w' w.heap.size v T ∧ Below w.heap.size w w' := by
  have HR := hid h
  clear h
  go_enter Tryd.func13, Tryd.ntmps13
  go_wp2_with fail
  go_loopg [3, 7] T.length (fun g s3 s7 wr => ∃ k : Nat, k ≤ T.length ∧ g = T.length - k ∧ s7 = .int .i64 k ∧ Hid (OwnT wr w.heap.size s3 (T.take k)) ∧ Hid (Below w.heap.size w wr))
  case atStart => exact ⟨0, by omega, by omega, rfl, World.ownsRow_nil _ _ _ _, Below.refl _ _⟩
  case round =>
    obtain ⟨k, hk, rfl, rfl, HO, HB⟩ := hrel
    obtain ⟨v5, hv5⟩ : ∃ v5, v5 = u3 := ⟨_, rfl⟩
    rw [← hv5] at HO ⊢
    clear hv5
    by_cases hlt : k < T.length
    · obtain ⟨b, off, rfl, d0⟩ := HR.out k hlt
      have d0 := cell_later HB.out d0
      have HT : Hid (T.take (k + 1) = T.take k ++ [nthT T k]) := nthT_take' hlt
      have HL1 : Hid (((T.take k).length + 1) * 64 ≤ 140737488355328) := by show _ ≤ _; rw [List.length_take]; omega
      obtain ⟨x, hx⟩ : ∃ x, x = nthT T k := ⟨_, rfl⟩
      rw [← hx] at d0 HT
      clear hx
      go_wp2_with (at_builtin; refine append_T rfl _ _ rfl x rfl (HO.out.later (Below.al (Below.refl _ _) _)) rfl (cell1_new _ _ _) HL1.out (by have := HB.out.size; simp; omega) ?_; intro v6 w6 ho6 hg6 _ _; have ho6 := hid ho6; have hb6 := hid (OwnT.grown (HO.out.later (Below.al (Below.refl _ _) (.cells #[.string x] 9))) hg6 (Below.al HB.out _) (Nat.le_refl _)); clear hg6)
      go_roundg (T.length - (k + 1))
      case measure => omega
      case rel => exact ⟨k + 1, by omega, rfl, by go_num, by rw [HT.out]; exact ho6.out, hb6⟩
    · obtain rfl : k = T.length := by omega
      have HO2 : Hid (OwnT wr w.heap.size v5 T) := by have := HO.out; rw [List.take_of_length_le (Nat.le_refl _)] at this; exact this
      clear hlt HO
      go_wp2_with fail
      go_ret
      exact ⟨_, rfl, HO2.out, HB.out⟩

theorem kept_at {w : World} {B n kc : Nat} {ka : Option Addr} {T : List ByteArray} (hn : n = T.length) (h : OwnT w B (.slice ka n kc) T) (hl : T.length ≤ 1000000) :
    Calls Tryd.prog 13 #[.slice ka n kc] w fun e w' => ∃ a5 c5, e = .returned (.slice a5 n c5) ∧ Hid (OwnT w' w.heap.size (.slice a5 n c5) T) ∧ Below w.heap.size w w' := by
  obtain ⟨a, c, e, hr⟩ := rowT_of_owns h
  rw [e, hn]
  refine (kept_is hr hl).mono ?_
  rintro e w' ⟨v, rfl, ho, hb⟩
  obtain ⟨a5, c5, rfl, _⟩ := ho.slice
  exact ⟨a5, c5, rfl, ho, hb⟩

set_option maxHeartbeats 4000000 in
theorem grown_is {w : World} {B : Nat} {v : Value} {T : List ByteArray} (h : OwnT w B v T) (t : ByteArray) (hl : T.length ≤ 1000000) (hB : B ≤ w.heap.size) :
    Calls Tryd.prog 33 #[v, .string t] w fun e w' => ∃ v', e = .returned v' ∧ Longer w w' B v v' T (List.replicate 70 t) := by
  have HR := hid h
  clear h
  go_enter Tryd.func33, Tryd.ntmps33
  go_wp2_with fail
  go_loopg [0, 5] 70 (fun g s0 s5 wr => ∃ k : Nat, k ≤ 70 ∧ g = 70 - k ∧ s5 = .int .i64 k ∧ Hid (Longer w wr B v s0 T (List.replicate k t)))
  case atStart => exact ⟨0, by omega, by omega, rfl, Longer.start HR.out⟩
  case round =>
    obtain ⟨k, hk, rfl, rfl, HO⟩ := hrel
    obtain ⟨v5, hv5⟩ : ∃ v5, v5 = u0 := ⟨_, rfl⟩
    rw [← hv5] at HO ⊢
    clear hv5
    by_cases hlt : k < 70
    · have HO1 : Hid (Longer w (wr.alloc (.cells #[.string t] 9)) B v v5 T (List.replicate k t)) := HO.out.later (Below.al (Below.refl _ _) _)
      have HBB : Hid (B ≤ (wr.alloc (.cells #[.string t] 9)).heap.size) := by show _ ≤ _; have := HO1.out.gr.size; omega
      have HL1 : Hid (((T ++ List.replicate k t).length + 1) * 64 ≤ 140737488355328) := by show _ ≤ _; simp; omega
      have HRE : Hid (List.replicate (k + 1) t = List.replicate k t ++ [t]) := List.replicate_succ'
      clear HO
      go_wp2_with (at_builtin; refine append_T rfl _ _ rfl t rfl HO1.out.own rfl (cell1_new _ _ _) HL1.out HBB.out ?_; intro v6 w6 ho6 hg6 hk6 hn6; have hs6 := hid (HO1.out.step ho6 hg6 hk6 hn6); clear ho6 hg6 hk6 hn6)
      go_roundg (70 - (k + 1))
      case measure => omega
      case rel => exact ⟨k + 1, by omega, rfl, by go_num, by rw [HRE.out]; exact hs6.out⟩
    · obtain rfl : k = 70 := by omega
      clear hlt
      go_wp2_with fail
      go_ret
      exact ⟨_, rfl, HO.out⟩

end Go.Proofs.YtdllhkjdckcgmaaDoor
