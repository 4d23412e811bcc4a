import Derived.Test.YtdllhkjdckcgmaaDoorIAsk
import Derived.Test.YtdllhkjdckcgmaaDoorIKeysT
import Derived.Test.YtdllhkjdckcgmaaDoorISame
namespace Go.Proofs.YtdllhkjdckcgmaaDoor
open Go.RowKit Go.Sort
set_option linter.unusedVariables false

abbrev OwnS (w : World) (B : Nat) (v : Value) (l : List En) : Prop := w.ownsRow B 9 1 v l.length (txs l)
theorem OwnS.later {w w' : World} {B : Nat} {v : Value} {l : List En} (h : OwnS w B v l) (hb : Below w.heap.size w w') : OwnS w' B v l := owns_keep h fun g hg => hb.block g (World.ownsRow.lt h g hg).2
theorem OwnS.grown {w w' : World} {B : Nat} {v : Value} {l : List En} {a : World} (h : OwnS w B v l) (hg : w.grownBy w' v.ownBlock) (ha : Below B a w) (hB : B ≤ a.heap.size) : Below B a w' :=
  ha.trans ⟨hg.os, hg.tape, hg.output, hg.size, fun k hk => hg.block k (by have := ha.size; omega) (fun e => by have := (World.ownsRow.lt h k e.symm).1; omega)⟩
theorem new2s (w : World) (a b : ByteArray) (t : TypeId) : (w.alloc (.cells #[.string a, .string b] t)).cell? ⟨w.heap.size, 0, none⟩ = some (.string a) ∧ (w.alloc (.cells #[.string a, .string b] t)).cell? ⟨w.heap.size, 1, none⟩ = some (.string b) := by
  have h := World.alloc_heap_new w (.cells #[.string a, .string b] t)
  exact ⟨cell_of_obj h rfl, cell_of_obj h rfl⟩
theorem cell1_new (w : World) (v : Value) (t : TypeId) : (w.alloc (.cells #[v] t)).cell? ⟨w.heap.size, 0, none⟩ = some v := cell_of_obj (World.alloc_heap_new w (.cells #[v] t)) rfl
theorem append_S {w : World} {ops : Array Oper} {rest : List Oper} {o : Oper} {a : Act} {Q : Exit → Act → World → Prop} (hg : o.guard = none) (s x : Operand)
    (hop : o.op = Op.call { callee := Callee.builtin Builtin.append, args := #[s, x], argTypes := #[36, 36] }) {B : Nat} {v : Value} {l : List En} (e : En) (hs : a.eval s = v) (hown : OwnS w B v l)
    {g : Nat} (hx : a.eval x = .slice (some ⟨g, 0, none⟩) 1 1) (c : w.cell? ⟨g, 0, none⟩ = some (.string e.1)) (hl : (l.length + 1) * 64 ≤ 140737488355328) (hB : B ≤ w.heap.size)
    (hK : ∀ v' w', OwnS w' B v' (l ++ [e]) → w.grownBy w' v.ownBlock → wpList Tryd.prog ops Q rest (a.put o.dst v') w') : wpList Tryd.prog ops Q (o :: rest) a w := by
  obtain ⟨i0, hi, hz0, hz1, hz2⟩ := info_ofI infoStr
  refine wpList_append_own _ hg s x 36 hop B 9 i0 (.string ⟨#[]⟩) 1 16 Tryd.underlying36 hi hz0 hz1 hz2 rfl (by decide) v l.length (txs l) hs hown ⟨g, 0, none⟩ 1 1 [.string e.1] hx rfl ?_ ?_ (by unfold maxLen; omega) (by omega) hB ?_
  · intro j u hj
    match j, hj with
    | 0, hj => simp at hj; subst hj; exact c
    | j + 1, hj => simp at hj
  · intro u hu; simp at hu; subst hu; rfl
  · intro v' w' ho hgr _
    refine hK v' w' ?_ hgr
    show w'.ownsRow B _ 1 v' (l ++ [e]).length (txs (l ++ [e]))
    rw [List.length_append, show txs (l ++ [e]) = txs l ++ [.string e.1] by simp [txs]]
    exact ho

set_option maxHeartbeats 4000000 in
theorem refkeys_is {w : World} {p : Nat} {v : Value} {log : List Ch} (h : Ri w p v log) (lo hi : ByteArray) (hl : (log.length + 2) * 64 ≤ 140737488355328) {E : List En} (hE : rangeX (ixL log) lo hi = E) :
    Calls Tryd.prog 12 #[.pointer (some ⟨p, 0, none⟩), .agg #[.string lo, .string hi]] w fun e w' =>
      ∃ ka kc, e = .returned (.slice ka (ks E).length kc) ∧ RowT w' ka (ks E) ∧ Below w.heap.size w w' := by
  have hEl : E.length ≤ log.length := by rw [← hE]; exact Nat.le_trans (List.length_filter_le _ _) (ixL_len _)
  have EN : Hid (∀ W, Below w.heap.size w W → Calls Tryd.prog 31 #[.pointer (some ⟨p, 0, none⟩), .agg #[.string lo, .string hi]] W fun e w' => ∃ a c, e = .returned (.slice a E.length c) ∧ RowE w' a E ∧ Below W.heap.size W w') := fun W hb => refent_is (h.later hb) lo hi hE
  clear h hE
  have hb0 : Below w.heap.size w (w.alloc (.cells #[.string lo, .string hi] 39)) := Below.al (Below.refl _ _) _
  have c0 := (new2s w lo hi 39).1
  have c1 := (new2s w lo hi 39).2
  go_enter Tryd.func12, Tryd.ntmps12
  go_wp2_with (go_at_call 31; refine (EN.out _ hb0).mono ?_; rintro e w1 ⟨a, c, rfl, hr1, hb1⟩; have hr1 := hid hr1; have hb1 := hid hb1)
  go_loopg [5, 7] E.length (fun g s5 s7 wr => ∃ k : Nat, k ≤ E.length ∧ g = E.length - k ∧ s7 = .int .i64 k ∧ Hid (OwnS wr w1.heap.size s5 (E.take k)) ∧ Hid (Below w1.heap.size w1 wr))
  case atStart => exact ⟨0, by omega, by omega, rfl, World.ownsRow_nil _ _ _ _, Below.refl _ _⟩
  case round =>
    obtain ⟨k, hk, rfl, rfl, HO, HB⟩ := hrel
    obtain ⟨v5, hv5⟩ : ∃ v5, v5 = u5 := ⟨_, rfl⟩
    rw [← hv5] at HO ⊢
    clear hv5
    by_cases hlt : k < E.length
    · obtain ⟨b, off, rfl, d0, d1⟩ := hr1.out k hlt
      have d0 := cell_later HB.out d0
      have HT : Hid (E.take (k + 1) = E.take k ++ [nthE E k]) := nthE_take hlt
      have HL1 : Hid (((E.take k).length + 1) * 64 ≤ 140737488355328) := by show _ ≤ _; rw [List.length_take]; omega
      obtain ⟨x, hx⟩ : ∃ x, x = nthE E k := ⟨_, rfl⟩
      rw [← hx] at d0 HT
      clear hx d1
      go_wp2_with (at_builtin; refine append_S rfl _ _ rfl x rfl (HO.out.later (Below.al (Below.refl _ _) _)) rfl (cell1_new _ _ _) HL1.out (by have := HB.out.size; simp; omega) ?_; intro v6 w6 ho6 hg6; have ho6 := hid ho6; have hb6 := hid (OwnS.grown (HO.out.later (Below.al (Below.refl _ _) (.cells #[.string x.1] 9))) hg6 (Below.al HB.out _) (Nat.le_refl _)); clear hg6)
      go_roundg (E.length - (k + 1))
      case measure => omega
      case rel => exact ⟨k + 1, by omega, rfl, by go_num, by rw [HT.out]; exact ho6.out, hb6⟩
    · obtain rfl : k = E.length := by omega
      have HO2 : Hid (OwnS wr w1.heap.size v5 E) := by have := HO.out; rw [List.take_of_length_le (Nat.le_refl _)] at this; exact this
      clear hlt HO
      have hrow : wr.ownsRow w1.heap.size 9 1 v5 (ks E).length ((ks E).map Value.string) := by rw [List.length_map, ks_txs]; exact HO2.out
      obtain ⟨ka, kc, rfl, hT⟩ := rowT_of_owns hrow
      have hT := hid hT
      clear hrow
      go_wp2_with fail
      go_ret
      exact ⟨ka, kc, rfl, hT.out, Below.on (Below.on hb0 hb1.out) HB.out⟩

end Go.Proofs.YtdllhkjdckcgmaaDoor
