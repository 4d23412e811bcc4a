import Derived.Test.YtmhpakbkmddfeaaIFrz0
import Derived.Test.YtmhpakbkmddfeaaIRise
import Derived.Test.YtmhpakbkmddfeaaIRanged
namespace Go.Proofs.Ytmhpakbkmddfeaa
open Go.RowKit Go.Sort Go.Shelf
set_option linter.unusedVariables false

/-- a row of numbers of one's own -/
def OwnI (w : World) (B : Nat) (v : Value) (l : List Int) : Prop := w.ownsRow B 3 1 v l.length (l.map (Value.int .i64))
theorem OwnI.later {w w' : World} {B : Nat} {v : Value} {l : List Int} (h : OwnI w B v l) (hb : Below w.heap.size w w') : OwnI w' B v l := owns_keep h fun g hg => hb.block g (World.ownsRow.lt h g hg).2
theorem infoIn : (Try.prog.info? 3).map (fun i => (i.zero, i.size, i.bytes)) = some (some (.int .i64 0), 1, 8) := by kernel_rfl
theorem cell1_newI (w : World) (n : Int) (t : TypeId) : (w.alloc (.cells #[.int .i64 n] t)).cell? ⟨w.heap.size, 0, none⟩ = some (.int .i64 n) := by
  have h := World.alloc_heap_new w (.cells #[.int .i64 n] t)
  simp only [World.cell?, h]; rfl
theorem append_I {w : World} {ops : Array Oper} {rest : List Oper} {o : Oper} {a : Act} {Q : Exit → Act → World → Prop} (hg : o.guard = none) (s x : Operand)
    (hop : o.op = Op.call { callee := Callee.builtin Builtin.append, args := #[s, x], argTypes := #[76, 76] }) {B : Nat} {v : Value} {l : List Int} (e : Int) (hs : a.eval s = v) (hown : OwnI w B v l)
    {g : Nat} (hx : a.eval x = .slice (some ⟨g, 0, none⟩) 1 1) (c : w.cell? ⟨g, 0, none⟩ = some (.int .i64 e)) (hl : (l.length + 1) * 8 ≤ 140737488355328) (hB : B ≤ w.heap.size)
    (hK : ∀ g' cap' w', OwnI w' B (.slice (some ⟨g', 0, none⟩) (l.length + 1) cap') (l ++ [e]) → w.grownBy w' v.ownBlock → wpList Try.prog ops Q rest (a.put o.dst (.slice (some ⟨g', 0, none⟩) (l.length + 1) cap')) w') : wpList Try.prog ops Q (o :: rest) a w := by
  obtain ⟨i0, hi, hz0, hz1, hz2⟩ := info_ofI infoIn
  have g1 : l.length + 1 ≤ maxLen := by unfold maxLen; exact Nat.le_trans (Nat.le_mul_of_pos_right _ (by decide : 0 < 8)) (Nat.le_trans hl (by decide))
  refine wpList_append_own _ hg s x 76 hop B 3 i0 (.int .i64 0) 1 8 Try.underlying76 hi hz0 hz1 hz2 rfl (by decide) v l.length (l.map (Value.int .i64)) hs hown ⟨g, 0, none⟩ 1 1 [.int .i64 e] hx rfl ?_ ?_ g1 hl hB ?_
  · intro j u hj
    match j, hj with
    | 0, hj => simp at hj; subst hj; exact c
    | j + 1, hj => simp at hj
  · intro u hu; simp at hu; subst hu; rfl
  · intro v' w' ho hgr _
    obtain ⟨g', cap', rfl⟩ := ownsRow_succ ho
    refine hK g' cap' w' ?_ hgr
    show w'.ownsRow B _ 1 _ (l ++ [e]).length ((l ++ [e]).map (Value.int .i64))
    rw [List.map_append, List.length_append]
    exact ho
theorem take_vals {E : List En} {i : Nat} (hi : i < E.length) : (E.take (i + 1)).map (fun e => e.2) = (E.take i).map (fun e => e.2) ++ [(nthE E i).2] := by
  rw [nthE_take hi, List.map_append]; rfl
theorem nthT_ks {E : List En} {i : Nat} (hi : i < E.length) : nthT (ks E) i = (nthE E i).1 := by
  simp [nthT, nthE, ks, List.getElem?_eq_getElem hi]
theorem nthE_inE {E : List En} {i : Nat} (hi : i < E.length) : nthE E i ∈ E := by
  rw [nthE, List.getElem?_eq_getElem hi]; exact List.getElem_mem hi
/-- where the keys of frozen's index lie -/
def Uof (l : List En) (ops : List Ao) (E : List En) : List ByteArray := ks l ++ ops.map (fun o => o.key) ++ (ks E).map zb
theorem U_ops {l E : List En} {ops : List Ao} {i : Nat} (hi : i < ops.length) : (nthO ops i).key ∈ Uof l ops E :=
  List.mem_append.2 (.inl (List.mem_append.2 (.inr (List.mem_map.2 ⟨_, nthO_mem hi, rfl⟩))))
theorem U_self {l E : List En} {ops : List Ao} : InU (Uof l ops E) l := fun e he => List.mem_append.2 (.inl (List.mem_append.2 (.inl (List.mem_map.2 ⟨e, he, rfl⟩))))
theorem U_zb {l E : List En} {ops : List Ao} {e : En} (he : e ∈ E) : zb e.1 ∈ Uof l ops E := List.mem_append.2 (.inr (List.mem_map.2 ⟨e.1, List.mem_map.2 ⟨e, he, rfl⟩, rfl⟩))
theorem U_len {l E : List En} {ops : List Ao} (h : E.length ≤ l.length) : (Uof l ops E).length ≤ l.length + ops.length + l.length := by
  simp only [Uof, ks, List.length_append, List.length_map]; omega
/-- numbers stand beside the keys: the box of vals behind an append -/
theorem vals_put {wr w6 : World} {B b8 i vc g cap : Nat} {va : Option Addr} {l : List Int} {n : Int} {tmp : Obj} (hb : Boxed wr b8 76 (.slice va i vc)) (ho : OwnI wr B (.slice va i vc) l) (ho6 : OwnI w6 B (.slice (some ⟨g, 0, none⟩) (i + 1) cap) (l ++ [n])) (hg : (wr.alloc tmp).grownBy w6 (Value.ownBlock (.slice va i vc))) :
    Boxed w6 b8 76 (.slice va i vc) ∧ Boxed (w6.setCell ⟨b8, 0, none⟩ (.slice (some ⟨g, 0, none⟩) (i + 1) cap)) b8 76 (.slice (some ⟨g, 0, none⟩) (i + 1) cap) ∧ OwnI (w6.setCell ⟨b8, 0, none⟩ (.slice (some ⟨g, 0, none⟩) (i + 1) cap)) B (.slice (some ⟨g, 0, none⟩) (i + 1) cap) (l ++ [n]) := by
  have h1 : Boxed w6 b8 76 (.slice va i vc) := (hg.block b8 (by have := hb.lt; simp; omega) (hb.not_row (by decide) ho)).trans ((Below.heap_alloc wr tmp b8 hb.lt).trans hb)
  exact ⟨h1, h1.set _, owns_box ho6 h1 (by decide)⟩
theorem box_kept {wr w6 : World} {B b i vc : Nat} {va : Option Addr} {l : List Int} {t : TypeId} {u : Value} {tmp : Obj} (hb : Boxed wr b t u) (ht : t ≠ 3) (ho : OwnI wr B (.slice va i vc) l) (hg : (wr.alloc tmp).grownBy w6 (Value.ownBlock (.slice va i vc))) : Boxed w6 b t u :=
  (hg.block b (by have := hb.lt; simp; omega) (hb.not_row ht ho)).trans ((Below.heap_alloc wr tmp b hb.lt).trans hb)
theorem below_grownI {w1 wr w6 : World} {B i vc : Nat} {va : Option Addr} {l : List Int} {tmp : Obj} (h : Below B w1 wr) (hB : B ≤ w1.heap.size) (ho : OwnI wr B (.slice va i vc) l) (hg : (wr.alloc tmp).grownBy w6 (Value.ownBlock (.slice va i vc))) : Below B w1 w6 :=
  (h.trans ((Below.al (Below.refl _ _) tmp).mono (Nat.le_trans hB h.size))).trans ((onl_of_grownF hg).below (fun k e => (World.ownsRow.lt ho k e).1) (by have := h.size; simp; omega))

end Go.Proofs.Ytmhpakbkmddfeaa
