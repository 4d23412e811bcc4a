import Derived.Test.YtchfoipkaookmabDoorWGot
import Derived.Test.YtchfoipkaookmabDoorWList
import Derived.Test.YtchfoipkaookmabDoorWBack8
namespace Go.Proofs.YtchfoipkaookmabDoor
open Go.RowKit Go.Sort
set_option linter.unusedVariables false

theorem owns_trow {w : World} {B : Nat} {v : Value} {l : List (List Nat)} (h : w.ownsRow B 9 1 v l.length (tvals l)) (hb : ∀ t ∈ l, B8 t) : ∃ a cap, v = .slice a l.length cap ∧ TRow w a l := by
  obtain ⟨h1, ⟨rfl, h2⟩ | ⟨g, cap, cur, rfl, hg, hh, r⟩⟩ := h
  · have : l = [] := List.eq_nil_of_length_eq_zero h2
    subst this
    exact ⟨none, 0, rfl, fun i t e => by simp at e⟩
  · refine ⟨some ⟨g, 0, none⟩, cap, rfl, fun i t e => ⟨hb t (List.mem_of_getElem? e), g, 0, rfl, ?_⟩⟩
    rw [Nat.zero_add]
    exact owns_cells (B := B) (e := 9) ⟨h1, .inr ⟨g, cap, cur, rfl, hg, hh, r⟩⟩ i _ (by simp [tvals, e])
theorem text_le (l : List (List Nat)) : ∀ t ∈ l, t.length ≤ (l.flatMap eText).length := by
  intro t ht
  induction l with
  | nil => simp at ht
  | cons y ys ih =>
    rw [List.flatMap_cons, List.length_append]
    rcases List.mem_cons.1 ht with h | h
    · subst h; rw [eText, List.length_append]; omega
    · have := ih h; omega

set_option maxHeartbeats 4000000 in
theorem got_5 {W w : World} {b o : Nat} {r : List Nat} {x : It} (hk : x.kind = 5) (hx : x.ok W) (hW : Below W.heap.size W w) (hbW : W.heap.size ≤ b) (h : DecAt w b o (.at (x.bytes ++ r))) (hl : (x.bytes ++ r).length ≤ 1099511627776) :
    Calls Tryd.prog 10 #[.pointer (some ⟨b, o, none⟩), x.val] w fun e w' => e = .returned (.bool true) ∧ Cel b o 2 w w' ∧ DecAt w' b o (.at r) := by
  have hb : x.bytes = eTexts x.l := by unfold It.bytes; simp [hk]
  rw [hb] at h hl
  clear hb
  obtain ⟨wa, hwa⟩ : ∃ wa, wa = w.alloc (.cells x.cells 41) := ⟨_, rfl⟩
  have hvl : x.val = .agg x.cells := rfl
  have hba : Below w.heap.size w wa := by rw [hwa]; exact Below.al (Below.refl _ _) _
  have hbx : BoxI wa w.heap.size x := by rw [hwa]; exact boxI w x _
  have ⟨c0, c1, c2, c3, c4, c5, c6⟩ := hbx
  have HX := hid hx
  have HD := hid (h.later hba)
  have HB := hid hba
  have HWB : Hid (Below W.heap.size W wa.drew) := (hW.trans (hba.mono hW.size)).drew
  have HWA := hid hwa
  have hbl := h.lt
  have HLN := hid hl
  have hbk : x.s.length + x.l.length + (x.l.flatMap eText).length + 30 ≤ 1099511627776 := hx.bulk
  have HTL := text_le x.l
  have hll : x.l.length ≤ 1099511627776 := by omega
  have HLL := hid hll
  have HL2 : Hid (∀ t ∈ x.l, t.length ≤ 1099511627776) := fun t ht => Nat.le_trans (HTL t ht) (by omega)
  have hlg : longestN x.l ≤ 1099511627776 := longest_le HL2.out
  have HT : Hid (tTexts (x.l.length : Int).toNat (longestN x.l : Int).toNat (.at (eTexts x.l ++ r)) = (x.l, .at r)) := (by
    show tTexts (x.l.length : Int).toNat (longestN x.l : Int).toNat (.at (eTexts x.l ++ r)) = (x.l, .at r)
    rw [Int.toNat_natCast, Int.toNat_natCast]
    exact tTexts_app x.l r (by omega) (Nat.le_refl _) (fun s hs => ⟨by have := HL2.out s hs; omega, (longest_ge x.l 0).2 s hs⟩))
  have HBB := hid hbW
  rw [hk] at c0
  have hwd : (w.alloc (.cells x.cells 41)).drew = wa.drew := by rw [HWA.out]
  clear hx h hba hbx hl hwa hW hbW HTL hbk
  go_enter Tryd.func10, Tryd.ntmps10
  go_wp2_with fail
  rw [← HWA.out]
  go_region_with (first
    | (go_at_call 30; refine (longest_any (HX.out.l.later HWB.out) HLL.out HL2.out).mono ?_; rintro e w1 ⟨rfl, rfl⟩)
    | (go_at_call 24; refine (dtexts_is HD.out.drew (by omega) (by omega) (by omega) (by omega) (by have := HLN.out; show (eTexts x.l ++ r).length ≤ _; omega) HT.out).mono ?_; rintro e w1 ⟨v, rfl, hown, hc, hd⟩; obtain ⟨a', cap', rfl, hrow⟩ := owns_trow hown HX.out.l.b8; have d3 := hc.cell (.inl (by omega)) c3; have HC := hid hc; have HD1 := hid hd; have HR1 := hid hrow; have HWB1 : Hid (Below W.heap.size W w1) := HWB.out.trans (hc.below HBB.out HWB.out.size); clear hown hc hd hrow)
    | (go_at_call 29; refine (same_eq HR1.out (HX.out.l.later HWB1.out) HLL.out).mono ?_; rintro e w2 ⟨rfl, hb2⟩; have HB2 := hid hb2; clear hb2))
  all_goals go_wp2_with fail
  all_goals go_ret
  all_goals exact ⟨by simp [Act.put], ((Cel.of_below HB.out).drew.trans HC.out).on HB2.out, HD1.out.later HB2.out⟩

/-- an item is taken back -/
theorem got_any {W w : World} {b o : Nat} {r : List Nat} {x : It} (hx : x.ok W) (hW : Below W.heap.size W w) (hbW : W.heap.size ≤ b) (h : DecAt w b o (.at (x.bytes ++ r))) (hl : (x.bytes ++ r).length ≤ 1099511627776) :
    Calls Tryd.prog 10 #[.pointer (some ⟨b, o, none⟩), x.val] w fun e w' => e = .returned (.bool true) ∧ Cel b o 2 w w' ∧ DecAt w' b o (.at r) := by
  have hx' := hx.later hW
  by_cases h0 : 1 ≤ x.kind ∧ x.kind ≤ 7
  · have : x.kind = 1 ∨ x.kind = 2 ∨ x.kind = 3 ∨ x.kind = 4 ∨ x.kind = 5 ∨ x.kind = 6 ∨ x.kind = 7 := by omega
    rcases this with hk | hk | hk | hk | hk | hk | hk
    · exact got_1 hk hx' h hl
    · exact got_2 hk hx' h hl
    · exact got_3 hk hx' h hl
    · exact got_4 hk hx' h hl
    · exact got_5 hk hx hW hbW h hl
    · exact got_6 hk hx' h hl
    · exact got_7 hk hx' h hl
  · exact got_0 h0 hx' h hl

end Go.Proofs.YtchfoipkaookmabDoor
