import Derived.Test.YtneojeidpfjpbaaGreatDoorB03
import Derived.Carry
set_option linter.unusedVariables false
set_option maxHeartbeats 2000000
namespace Go.Proofs.YtneojeidpfjpbaaGreatDoor.Lg
open Go.RowKit Go.Sort Lk
structure En where
 id : Ix
 home : Int
 oc : Int
 w : Int
 l : Int
 n : Int
abbrev En.val (e : En) : Value := .agg #[.int .u32 e.id.1, .int .u32 e.id.2, .int .u32 e.home, .int .i64 e.oc, .int .u64 e.w, .int .u32 e.l, .int .u32 e.n]
abbrev ecs (e : En) : List Value := [.int .u32 e.id.1, .int .u32 e.id.2, .int .u32 e.home, .int .i64 e.oc, .int .u64 e.w, .int .u32 e.l, .int .u32 e.n]
abbrev En.zero : En := ⟨(0, 0), 0, 0, 0, 0, 0⟩
def mayB (e : En) : Bool := e.oc == 1 || (e.oc == 2 && sameB e.w e.l e.n 0 0 0)
def agrB (a b : En) : Bool := a.oc == b.oc && sameB a.w a.l a.n b.w b.l b.n
theorem agrB_self (a : En) : agrB a a = true := by simp [agrB, sameB_self]
theorem run_eqS (a b c x y z : Int) (w : World) : (binOp .eql 28 (.agg #[.int .u64 a, .int .u32 b, .int .u32 c]) (.agg #[.int .u64 x, .int .u32 y, .int .u32 z])).run Tryz.prog w = .ok (.bool (sameB a b c x y z)) w := by
 by_cases h1 : a = x <;> by_cases h2 : b = y <;> by_cases h3 : c = z <;> simp [sameB, h1, h2, h3, go_sem, Tryz.underlying28]
def outM (M : List En) (t : Ix) : Option En := M.find? (fun e => sameI e.id t)
def decM (M : List En) (e : En) : List En := if mayB e then (match outM M e.id with | none => M ++ [e] | some _ => M) else M
def decE (M : List En) (e : En) : En := if mayB e then (outM M e.id).getD e else En.zero
def decX (M : List En) (e : En) : Int := if mayB e then (if agrB e ((outM M e.id).getD e) then 0 else 110) else 1
theorem sameI_iff {a b : Ix} : sameI a b = true ↔ a = b := by simp [sameI]
theorem outM_some {M : List En} {t : Ix} {f : En} (h : outM M t = some f) : f ∈ M ∧ f.id = t := by
 have h1 : sameI f.id t = true := List.find?_some (p := fun e : En => sameI e.id t) h; exact ⟨List.mem_of_find?_eq_some h, sameI_iff.1 h1⟩
theorem outM_none {M : List En} {t : Ix} : outM M t = none ↔ t ∉ M.map En.id := by
 rw [outM, List.find?_eq_none]; simp only [Bool.not_eq_true, List.mem_map, not_exists, not_and]; constructor
 ·intro h e he ht; have := h e he; rw [← Bool.not_eq_true, sameI_iff] at this; exact this ht
 ·intro h e he; rw [← Bool.not_eq_true, sameI_iff]; exact fun ht => h e he ht
theorem outM_mem {M : List En} (hn : (M.map En.id).Nodup) {f : En} (h : f ∈ M) : outM M f.id = some f := by
 cases ho : outM M f.id with
 | none => exact absurd (List.mem_map.2 ⟨f, h, rfl⟩) (outM_none.1 ho)
 | some g =>
  obtain ⟨h1, h2⟩ := outM_some ho; rw [nodup_inj hn h1 h h2]
theorem decM_nodup {M : List En} (hn : (M.map En.id).Nodup) (e : En) : ((decM M e).map En.id).Nodup := by
 unfold decM; split
 ·cases ho : outM M e.id with
  | some f => exact hn
  | none =>
   simp only [List.map_append, List.map_cons, List.map_nil]; rw [List.nodup_append]; refine ⟨hn, by simp, fun a ha b hb => ?_⟩; simp at hb; subst hb
   rintro rfl; exact outM_none.1 ho ha
 ·exact hn
theorem cell_of_obj {w : World} {b o : Nat} {cs : Array Value} {t : TypeId} {z : Nat × Nat} {v : Value} (h : w.heap[b]? = some (.cells cs t z)) (hv : cs[o]? = some v) : w.cell? ⟨b, o, none⟩ = some v := by
 simp [World.cell?, h, hv]
abbrev prsE (M : List En) : List (Ix × En) := M.map fun e => (e.id, e)
structure LgO (W : World) (p oo : Nat) (ty : TypeId) (m : Option Nat) (M : List En) : Prop where
 obj : ∃ cs, W.heap[p]? = some (.cells cs ty (0, 0)) ∧ cs[oo]? = some (.map m)
 ents : MapO ixv En.val W m (prsE M)
def ItsL (p : Nat) (m : Option Nat) (b : Nat) : Prop := b = p ∨ m = some b
section
variable {w w' : World} {p oo : Nat} {ty : TypeId} {m : Option Nat} {M : List En}
theorem LgO.blk (h : LgO w p oo ty m M) : ∃ cs, w.heap[p]? = some (.cells cs ty (0, 0)) := by obtain ⟨cs, hc, _⟩ := h.obj; exact ⟨cs, hc⟩
theorem LgO.c0 (h : LgO w p oo ty m M) : w.cell? ⟨p, oo, none⟩ = some (.map m) := by obtain ⟨cs, hc, x0⟩ := h.obj; exact cell_of_obj hc x0
theorem LgO.loose (h : LgO w p oo ty m M) (j : Nat) : w.frozen? ⟨p, j, none⟩ = false := by obtain ⟨cs, hc, _⟩ := h.obj; simp [World.frozen?, hc]
theorem LgO.lt (h : LgO w p oo ty m M) : p < w.heap.size := by obtain ⟨cs, hc, _⟩ := h.obj; exact (Array.getElem?_eq_some_iff.1 hc).1
theorem LgO.objs (h : LgO w p oo ty m M) (e : w'.heap[p]? = w.heap[p]?) : ∃ cs, w'.heap[p]? = some (.cells cs ty (0, 0)) ∧ cs[oo]? = some (.map m) := by
 obtain ⟨cs, hc, x⟩ := h.obj; exact ⟨cs, e.trans hc, x⟩
theorem LgO.later (h : LgO w p oo ty m M) (hb : Below w.heap.size w w') : LgO w' p oo ty m M := ⟨h.objs (hb.block p h.lt), h.ents.later hb⟩
theorem LgO.onl {F : Nat → Prop} (h : LgO w p oo ty m M) (ho : Onl F w w') (hF : ∀ b, ItsL p m b → ¬ F b) : LgO w' p oo ty m M :=
 ⟨h.objs (ho.block p h.lt (hF p (.inl rfl))), h.ents.same fun b e => ho.block b (h.ents.lt b e) (hF b (.inr e))⟩
theorem LgO.its_lt (h : LgO w p oo ty m M) {b : Nat} (hb : ItsL p m b) : b < w.heap.size := by
 rcases hb with rfl | e
 ·exact h.lt
 ·exact h.ents.lt b e
theorem prsE_keys (M : List En) : (prsE M).map (·.1) = M.map En.id := by simp [prsE, List.map_map, Function.comp_def]
theorem LgO.nodup (h : LgO w p oo ty m M) : (M.map En.id).Nodup := by
 have := h.ents.nodup (P := Tryz.prog) ids; rwa [prsE_keys] at this
theorem prsE_mem {t : Ix} {e : En} (h : (t, e) ∈ prsE M) : e ∈ M ∧ e.id = t := by
 obtain ⟨x, hx, k⟩ := List.mem_map.1 h; injection k with k1 k2
 subst k2; exact ⟨hx, k1⟩
end
theorem zero_en (W : World) : (zeroValue 91).run Tryz.prog W = .ok (En.val En.zero) W := by kernel_rfl
theorem run_nilMap (m : Option Nat) (W : World) : (binOp .eql 72 (.map m) (.map none)).run Tryz.prog W = .ok (.bool m.isNone) W := by
 cases m with
 | none => kernel_rfl
 | some b => kernel_rfl
theorem mapat_ne {α β : Type} {ev : α → Value} {fv : β → Value} {w : World} {b : Nat} {ps : List (α × β)} {cs : Array Value} {t : TypeId} {z : Nat × Nat} {q : Nat} (h : MapO ev fv w (some b) ps) (hq : w.heap[q]? = some (.cells cs t z)) : q ≠ b := by
 rintro rfl; obtain ⟨es, clock, hb, _⟩ := h.at; rw [hb] at hq; cases hq
theorem LgO.ne {w : World} {p oo b : Nat} {ty : TypeId} {M : List En} (T : LgO w p oo ty (some b) M) : p ≠ b := by
 obtain ⟨cs, hc⟩ := T.blk; exact mapat_ne T.ents hc
theorem putA_new {α β : Type} [DecidableEq α] {ps : List (α × β)} {a : α} (h : a ∉ ps.map (·.1)) (v : β) : putA ps a v = ps ++ [(a, v)] := by simp only [putA, if_neg h]
theorem stored {w w8 : World} {q : Nat} {z u : En} (hz : w.heap[q]? = some (.cells #[.int .u32 z.id.1, .int .u32 z.id.2, .int .u32 z.home, .int .i64 z.oc, .int .u64 z.w, .int .u32 z.l, .int .u32 z.n] 91)) (h : w8 = (((((((w).setCell ⟨q, 0, none⟩ (.int .u32 u.id.1)).setCell ⟨q, 1, none⟩ (.int .u32 u.id.2)).setCell ⟨q, 2, none⟩ (.int .u32 u.home)).setCell ⟨q, 3, none⟩ (.int .i64 u.oc)).setCell ⟨q, 4, none⟩ (.int .u64 u.w)).setCell ⟨q, 5, none⟩ (.int .u32 u.l)).setCell ⟨q, 6, none⟩ (.int .u32 u.n)) :
  w8.heap[q]? = some (.cells #[.int .u32 u.id.1, .int .u32 u.id.2, .int .u32 u.home, .int .i64 u.oc, .int .u64 u.w, .int .u32 u.l, .int .u32 u.n] 91) ∧ Onl (fun b => b = q) w w8 ∧ w8.heap.size = w.heap.size := by
 subst h; refine ⟨?_, ?_, by simp⟩
 ·have h0 := heap_setCell_same w q 0 _ _ (.int .u32 u.id.1) hz; have h1 := heap_setCell_same _ q 1 _ _ (.int .u32 u.id.2) h0; have h2 := heap_setCell_same _ q 2 _ _ (.int .u32 u.home) h1; have h3 := heap_setCell_same _ q 3 _ _ (.int .i64 u.oc) h2; have h4 := heap_setCell_same _ q 4 _ _ (.int .u64 u.w) h3; have h5 := heap_setCell_same _ q 5 _ _ (.int .u32 u.l) h4; have h6 := heap_setCell_same _ q 6 _ _ (.int .u32 u.n) h5; simpa using h6
 ·repeat refine Onl.set ?_ (by rfl) _ _
  exact Onl.refl _ _
theorem may_is {e : En} {u : Bool} (hu : mayB e = u) (w : World) : Calls Tryz.prog 179 #[.agg #[.int .u32 e.id.1, .int .u32 e.id.2, .int .u32 e.home, .int .i64 e.oc, .int .u64 e.w, .int .u32 e.l, .int .u32 e.n]] w fun r w' => r = .returned (.bool u) ∧ Below w.heap.size w w' := by
 obtain ⟨⟨ec, eq⟩, eh, eo, ew, el, en⟩ := e; by_cases h1 : eo = 1
 ·subst h1; have e1 : u = true := by rw [← hu]; simp [mayB]
  subst e1; clear hu; go_enter Tryz.func179, Tryz.ntmps179
  go_wp2_with fail
  go_ret
  exact ⟨rfl, by (repeat (first | exact Below.refl _ _ | assumption | refine Below.drew ?_ | refine Below.al ?_ _ | refine Below.setCell ?_ (by first | exact Nat.le_refl _ | (simp; omega) | (simp; done)) _ | refine Below.on ?_ (by assumption)))⟩
 ·have h1' : (eo == 1) = false := by simpa using h1
  by_cases h2 : eo = 2
  ·subst h2; obtain ⟨z, hz⟩ : ∃ z, sameB ew el en 0 0 0 = z := ⟨_, rfl⟩; have e1 : u = z := by rw [← hu, ← hz]; simp [mayB]
   subst e1; have qq : ∀ W, (binOp .eql 28 (.agg #[.int .u64 ew, .int .u32 el, .int .u32 en]) (.agg #[.int .u64 0, .int .u32 0, .int .u32 0])).run Tryz.prog W = .ok (.bool u) W := fun W => by rw [← hz]; exact run_eqS ew el en 0 0 0 W
   clear hu hz h1 h1'; go_enter Tryz.func179, Tryz.ntmps179
   go_wp2_with fail
   go_ret
   exact ⟨rfl, by (repeat (first | exact Below.refl _ _ | assumption | refine Below.drew ?_ | refine Below.al ?_ _ | refine Below.setCell ?_ (by first | exact Nat.le_refl _ | (simp; omega) | (simp; done)) _ | refine Below.on ?_ (by assumption)))⟩
  ·have h2' : (eo == 2) = false := by simpa using h2
   have e1 : u = false := by rw [← hu]; simp [mayB, h1, h2]
   subst e1; clear hu; go_enter Tryz.func179, Tryz.ntmps179
   go_wp2_with fail
   go_ret
   exact ⟨rfl, by (repeat (first | exact Below.refl _ _ | assumption | refine Below.drew ?_ | refine Below.al ?_ _ | refine Below.setCell ?_ (by first | exact Nat.le_refl _ | (simp; omega) | (simp; done)) _ | refine Below.on ?_ (by assumption)))⟩
theorem agree_is {e f : En} {u : Bool} (hu : agrB e f = u) (w : World) : Calls Tryz.prog 181 #[.agg #[.int .u32 e.id.1, .int .u32 e.id.2, .int .u32 e.home, .int .i64 e.oc, .int .u64 e.w, .int .u32 e.l, .int .u32 e.n], .agg #[.int .u32 f.id.1, .int .u32 f.id.2, .int .u32 f.home, .int .i64 f.oc, .int .u64 f.w, .int .u32 f.l, .int .u32 f.n]] w fun r w' => r = .returned (.bool u) ∧ Below w.heap.size w w' := by
 obtain ⟨⟨ec, eq⟩, eh, eo, ew, el, en⟩ := e; obtain ⟨⟨fc, fq⟩, fh, fo, fw, fl, fn⟩ := f; by_cases h1 : eo = fo
 ·subst h1; have h1' : (eo == eo) = true := by simp
  obtain ⟨z, hz⟩ : ∃ z, sameB ew el en fw fl fn = z := ⟨_, rfl⟩; have e1 : u = z := by rw [← hu, ← hz]; simp [agrB]
  subst e1; have qq : ∀ W, (binOp .eql 28 (.agg #[.int .u64 ew, .int .u32 el, .int .u32 en]) (.agg #[.int .u64 fw, .int .u32 fl, .int .u32 fn])).run Tryz.prog W = .ok (.bool u) W := fun W => by rw [← hz]; exact run_eqS ew el en fw fl fn W
  clear hu hz; go_enter Tryz.func181, Tryz.ntmps181
  go_wp2_with fail
  go_ret
  exact ⟨rfl, by (repeat (first | exact Below.refl _ _ | assumption | refine Below.drew ?_ | refine Below.al ?_ _ | refine Below.setCell ?_ (by first | exact Nat.le_refl _ | (simp; omega) | (simp; done)) _ | refine Below.on ?_ (by assumption)))⟩
 ·have h1' : (eo == fo) = false := by simpa using h1
  have e1 : u = false := by rw [← hu]; simp [agrB, h1]
  subst e1; clear hu; go_enter Tryz.func181, Tryz.ntmps181
  go_wp2_with fail
  go_ret
  exact ⟨rfl, by (repeat (first | exact Below.refl _ _ | assumption | refine Below.drew ?_ | refine Below.al ?_ _ | refine Below.setCell ?_ (by first | exact Nat.le_refl _ | (simp; omega) | (simp; done)) _ | refine Below.on ?_ (by assumption)))⟩
theorem LgO.made {w : World} {p oo : Nat} {ty : TypeId} {M : List En} (T : LgO w p oo ty none M) :
  LgO ((w.setCell ⟨p, oo, none⟩ (.map (some w.heap.size))).alloc (.map #[] 0)) p oo ty (some w.heap.size) M := by
 have hM : M = [] := by have : prsE M = [] := T.ents; simpa [prsE] using this
 subst hM; have hlt := T.lt; obtain ⟨w2, h2⟩ : ∃ w2, w2 = w.setCell ⟨p, oo, none⟩ (.map (some w.heap.size)) := ⟨_, rfl⟩; have hs : w2.heap.size = w.heap.size := by rw [h2]; simp
 obtain ⟨cs, hc, y0⟩ := T.obj; have l0 := (Array.getElem?_eq_some_iff.1 y0).1; have b0 : w2.heap[p]? = some (.cells (cs.setIfInBounds oo (.map (some w.heap.size))) ty (0, 0)) := by rw [h2]; exact heap_put _ hc
 rw [← h2, ← hs]; rw [← hs] at b0 hlt; clear h2; refine ⟨⟨_, ((MapKept.heap_alloc _ _).2 p hlt).trans b0, by simp [l0]⟩, ?_⟩
 ·refine ⟨#[], 0, ?_, MapKept.stamped_empty 0, by simp [prsE], by simp [prsE]⟩; exact (MapKept.heap_alloc _ _).1
theorem layO_is {w : World} {p oo : Nat} {ty : TypeId} {m : Option Nat} {M : List En} {e : En} (T : LgO w p oo ty m M) (hn : e.id ∉ M.map En.id) :
  Calls Tryz.prog 180 #[.pointer (some ⟨p, oo, none⟩), .agg #[.int .u32 e.id.1, .int .u32 e.id.2, .int .u32 e.home, .int .i64 e.oc, .int .u64 e.w, .int .u32 e.l, .int .u32 e.n]] w fun r w' => r = .returned (.tuple #[]) ∧
   ∃ b, Hid (LgO w' p oo ty (some b) (M ++ [e])) ∧ Hid (m = some b ∨ w.heap.size ≤ b) ∧ Hid (Onl (ItsL p m) w w') ∧ Hid (Part p oo 1 w w') := by
 obtain ⟨wx, hwx⟩ : ∃ wx, wx = w.alloc (.cells #[.int .u32 e.id.1, .int .u32 e.id.2, .int .u32 e.home, .int .i64 e.oc, .int .u64 e.w, .int .u32 e.l, .int .u32 e.n] 91) := ⟨_, rfl⟩; have hbx : Below w.heap.size w wx := by rw [hwx]; exact Below.al (Below.refl _ _) _
 have hblk : wx.heap[w.heap.size]? = some (.cells #[.int .u32 e.id.1, .int .u32 e.id.2, .int .u32 e.home, .int .i64 e.oc, .int .u64 e.w, .int .u32 e.l, .int .u32 e.n] 91) := by rw [hwx]; exact (MapKept.heap_alloc _ _).1
 have T0 := T.later hbx; have c0 := T0.c0; have c0' : (w.alloc (.cells #[.int .u32 e.id.1, .int .u32 e.id.2, .int .u32 e.home, .int .i64 e.oc, .int .u64 e.w, .int .u32 e.l, .int .u32 e.n] 91)).cell? ⟨p, oo, none⟩ = some (.map m) := by rw [← hwx]; exact c0
 have hnm := run_nilMap m; have hsx : w.heap.size < wx.heap.size := by rw [hwx]; simp
 have HT := hid T; have HT0 := hid T0; have HBX := hid hbx; have HBK := hid hblk; have HN := hid hn; clear T T0 hbx hblk hn; go_enter Tryz.func180, Tryz.ntmps180
 go_upto_if 8 with fail
 rw [← hwx]; clear hwx c0'; go_cut [] (fun wE => ∃ b, Hid (LgO wE p oo ty (some b) M) ∧ Hid (Part p oo 1 w wE) ∧ Hid (Onl (ItsL p m) w wE) ∧ Hid (wE.heap[w.heap.size]? = wx.heap[w.heap.size]?) ∧ Hid (m = some b ∨ w.heap.size ≤ b))
 case first =>
  cases m with
  | some b =>
   go_wp2_with fail
   go_meet
   exact ⟨b, HT0, hid (Part.below HBX.out), Onl.of_below HBX.out, rfl, .inl rfl⟩
  | none =>
   have f0 : ∀ o, wx.frozen? ⟨p, o, none⟩ = false := fun o => HT0.out.loose o
   have hpl := HT0.out.lt; have hne : p ≠ wx.heap.size := by omega
   have mk1 : ∀ W, (Instr.makeMap 72 none).run Tryz.prog W = .ok (.map (some W.heap.size)) (W.alloc (.map #[] 0)) := fun W => run_makeMap _ W
   go_wp2_with fail
   go_meet
   refine ⟨wx.heap.size, HT0.out.made, hid (((Part.below HBX.out).trans (Part.set _ p oo _)).al _), ?_, ?_, .inr (Nat.le_of_lt hsx)⟩
   ·exact hid (Onl.al (Onl.set (Onl.of_below HBX.out) (Or.inl rfl) _ _) _)
   ·show _ = _
    have hpn : w.heap.size ≠ p := by have := HT.out.lt; omega
    rw [(MapKept.heap_alloc _ _).2 _ (by simpa using hsx), Below.heap_setCell _ _ _ _ (by exact hpn)]
 case rest =>
  obtain ⟨b, HE, HPE, HO, HX, H1⟩ := hcut; rename World => wE
  clear c0; have hblk := HX.out.trans HBK.out; have x0 : wE.cell? ⟨w.heap.size, 0, none⟩ = some (.int .u32 e.id.1) := cell_of_obj hblk rfl; have x1 : wE.cell? ⟨w.heap.size, 1, none⟩ = some (.int .u32 e.id.2) := cell_of_obj hblk rfl; have x2 : wE.cell? ⟨w.heap.size, 2, none⟩ = some (.int .u32 e.home) := cell_of_obj hblk rfl; have x3 : wE.cell? ⟨w.heap.size, 3, none⟩ = some (.int .i64 e.oc) := cell_of_obj hblk rfl; have x4 : wE.cell? ⟨w.heap.size, 4, none⟩ = some (.int .u64 e.w) := cell_of_obj hblk rfl; have x5 : wE.cell? ⟨w.heap.size, 5, none⟩ = some (.int .u32 e.l) := cell_of_obj hblk rfl; have x6 : wE.cell? ⟨w.heap.size, 6, none⟩ = some (.int .u32 e.n) := cell_of_obj hblk rfl; have c0 := HE.out.c0; have nb : b ≠ w.heap.size := fun k => mapat_ne HE.out.ents hblk k.symm
  have np : b ≠ p := fun k => HE.out.ne k.symm
  obtain ⟨w6, hput, hm6, ho6, _⟩ := (HE.out.ents.later (Below.drew (Below.refl _ _)) : MapO ixv En.val wE.drew (some b) _).put (P := Tryz.prog) ids Tryz.underlying72 e.id e; simp only [ixv, En.val] at hput; have ho6' : Onl (fun c => b = c) wE w6 := (Onl.drew (Onl.refl _ wE)).trans ho6; have HPF : Hid (Part p oo 1 w w6) := hid (HPE.out.trans (Part.onl ho6' np)); have HFin : Hid (LgO w6 p oo ty (some b) (M ++ [e])) := by
   refine ⟨HE.out.objs (ho6'.block p HE.out.lt np), ?_⟩; rw [putA_new (by rw [prsE_keys]; exact HN.out)] at hm6; simpa [prsE] using hm6
  have HOF : Hid (Onl (ItsL p m) w w6) := HO.out.fresh ho6' (fun i hi => by
   subst hi; rcases H1.out with k | k
   ·exact .inl (.inr k)
   ·exact .inr k)
  clear hm6 ho6 hblk HX HBK HBX HT HT0 HE hnm; go_wp2_with fail
  go_region_held3 (fun w' => w'.cell? ⟨p, oo, none⟩ = some (.map (some b)) ∧ w'.cell? ⟨w.heap.size, 0, none⟩ = some (.int .u32 e.id.1) ∧ w'.cell? ⟨w.heap.size, 1, none⟩ = some (.int .u32 e.id.2) ∧ w'.cell? ⟨w.heap.size, 2, none⟩ = some (.int .u32 e.home) ∧ w'.cell? ⟨w.heap.size, 3, none⟩ = some (.int .i64 e.oc) ∧ w'.cell? ⟨w.heap.size, 4, none⟩ = some (.int .u64 e.w) ∧ w'.cell? ⟨w.heap.size, 5, none⟩ = some (.int .u32 e.l) ∧ w'.cell? ⟨w.heap.size, 6, none⟩ = some (.int .u32 e.n) ∧ Onl (fun c => b = c) wE w')
   ((refine (fun (hO : Onl (fun c => b = c) wE _) => ⟨hO.cell np c0, hO.cell nb x0, hO.cell nb x1, hO.cell nb x2, hO.cell nb x3, hO.cell nb x4, hO.cell nb x5, hO.cell nb x6, hO⟩) ?_; (repeat (first | exact Onl.refl _ _ | assumption | refine Onl.drew ?_ | refine Onl.on ?_ (by assumption)))))
   (fail)
  all_goals (try go_wp2_with fail)
  first | go_end0 | refine bodyPost_ret (results_none rfl _ _ _) rfl ?_
  exact ⟨rfl, b, HFin, H1, HOF, HPF⟩
theorem box_cells {w : World} {q : Nat} {f : En} (h : w.heap[q]? = some (.cells #[.int .u32 f.id.1, .int .u32 f.id.2, .int .u32 f.home, .int .i64 f.oc, .int .u64 f.w, .int .u32 f.l, .int .u32 f.n] 91)) : ∀ o u, (ecs f)[o]? = some u → w.cell? ⟨q, o, none⟩ = some u := fun o u ho => cell_of_obj h (by simpa using ho)
theorem LgO.look {w : World} {p oo : Nat} {ty : TypeId} {m : Option Nat} {M : List En} (T : LgO w p oo ty m M) (t : Ix) : ∃ (f : En) (ok : Bool), (ok = (outM M t).isSome) ∧ f = (outM M t).getD En.zero ∧ ∀ W, (∀ b, m = some b → W.heap[b]? = w.heap[b]?) → (Instr.lookup 72 (.map m) (.agg #[.int .u32 t.1, .int .u32 t.2]) true).run Tryz.prog W = .ok (.tuple #[.agg #[.int .u32 f.id.1, .int .u32 f.id.2, .int .u32 f.home, .int .i64 f.oc, .int .u64 f.w, .int .u32 f.l, .int .u32 f.n], .bool ok]) W := by
 obtain ⟨f, ok, h1, h2, h3⟩ := T.ents.lookT (P := Tryz.prog) ids Tryz.underlying72 zero_en t; have hnd := T.nodup; refine ⟨f, ok, ?_, ?_, h3⟩
 ·cases ok with
  | true =>
   obtain ⟨k1, k2⟩ := prsE_mem (h1 rfl); rw [← k2, outM_mem hnd k1]; rfl
  | false =>
   have := (h2 rfl).1; rw [prsE_keys] at this; rw [outM_none.2 this]; rfl
 ·cases ok with
  | true =>
   obtain ⟨k1, k2⟩ := prsE_mem (h1 rfl); rw [← k2, outM_mem hnd k1]; rfl
  | false =>
   have := (h2 rfl).1; rw [prsE_keys] at this; rw [outM_none.2 this, (h2 rfl).2]; rfl
theorem outcome_is {w : World} {p oo : Nat} {ty : TypeId} {m : Option Nat} {M : List En} (T : LgO w p oo ty m M) (t : Ix) :
  Calls Tryz.prog 95 #[.pointer (some ⟨p, oo, none⟩), .agg #[.int .u32 t.1, .int .u32 t.2]] w fun r w' => ∃ (f : En) (ok : Bool), r = .returned (.tuple #[.agg #[.int .u32 f.id.1, .int .u32 f.id.2, .int .u32 f.home, .int .i64 f.oc, .int .u64 f.w, .int .u32 f.l, .int .u32 f.n], .bool ok]) ∧
   Hid (ok = (outM M t).isSome) ∧ Hid (f = (outM M t).getD En.zero) ∧ Hid (Below w.heap.size w w') := by
 obtain ⟨wx, hwx⟩ : ∃ wx, wx = (w.alloc (.cells #[.int .u32 t.1, .int .u32 t.2] 38)).alloc (.cells #[.int .u32 0, .int .u32 0, .int .u32 0, .int .i64 0, .int .u64 0, .int .u32 0, .int .u32 0] 91) := ⟨_, rfl⟩; have hbx : Below w.heap.size w wx := by rw [hwx]; exact Below.al (Below.al (Below.refl _ _) _) _
 have T0 := T.later hbx; have c0 := T0.c0; have x0 : wx.cell? ⟨w.heap.size, 0, none⟩ = some (.int .u32 t.1) := by rw [hwx]; simp [go_sem]
 have x1 : wx.cell? ⟨w.heap.size, 1, none⟩ = some (.int .u32 t.2) := by rw [hwx]; simp [go_sem]
 have hz : wx.heap[w.heap.size + 1]? = some (.cells #[.int .u32 0, .int .u32 0, .int .u32 0, .int .i64 0, .int .u64 0, .int .u32 0, .int .u32 0] 91) := by
  rw [hwx, show w.heap.size + 1 = (w.alloc (.cells #[.int .u32 t.1, .int .u32 t.2] 38)).heap.size by simp]; exact (MapKept.heap_alloc _ _).1
 obtain ⟨f, ok, h1, h2, hlook⟩ := T0.look t; have H1 := hid h1; have H2 := hid h2; have HT0 := hid T0; have HBX := hid hbx; have HZ := hid hz; have HLK := hid hlook; have hsx : w.heap.size + 1 < wx.heap.size := by rw [hwx]; simp
 clear h1 h2 T T0 hbx hz hlook; go_enter Tryz.func95, Tryz.ntmps95
 go_wp2_with fail
 rw [← hwx]; clear hwx; go_cut [6, 7] (fun s6 s7 wz => ∃ q : Nat, s6 = .pointer (some ⟨q, 0, none⟩) ∧ s7 = .bool ok ∧ Hid (∀ o u, (ecs f)[o]? = some u → wz.cell? ⟨q, o, none⟩ = some u) ∧ Hid (Below wx.heap.size wx wz))
 case first =>
  go_region_held3 (fun w' => w'.cell? ⟨p, oo, none⟩ = some (.map m) ∧ w'.cell? ⟨w.heap.size, 0, none⟩ = some (.int .u32 t.1) ∧ w'.cell? ⟨w.heap.size, 1, none⟩ = some (.int .u32 t.2) ∧ (Instr.lookup 72 (.map m) (.agg #[.int .u32 t.1, .int .u32 t.2]) true).run Tryz.prog w' = .ok (.tuple #[.agg #[.int .u32 f.id.1, .int .u32 f.id.2, .int .u32 f.home, .int .i64 f.oc, .int .u64 f.w, .int .u32 f.l, .int .u32 f.n], .bool ok]) w' ∧ Below wx.heap.size wx w')
   ((refine (fun (hB : Below wx.heap.size wx _) => ⟨cell_later hB c0, cell_later hB x0, cell_later hB x1, HLK.out _ (fun b k => hB.block b (HT0.out.ents.lt b k)), hB⟩) ?_; (repeat (first | exact Below.refl _ _ | assumption | refine Below.drew ?_ | refine Below.al ?_ _ | refine Below.setCell ?_ (by first | exact Nat.le_refl _ | (simp; omega) | (simp; done)) _ | refine Below.on ?_ (by assumption)))))
   (fail)
  all_goals (try go_wp2_with fail)
  all_goals go_meet
  all_goals refine ⟨_, rfl, rfl, hid ?_, hid ?_⟩
  all_goals first
   | (refine box_cells (q := _) ?_
      first
      | exact (MapKept.heap_alloc _ _).1
      | (simp [World.drew, World.alloc]; done))
   | ((repeat (first | exact Below.refl _ _ | assumption | refine Below.drew ?_ | refine Below.al ?_ _ | refine Below.setCell ?_ (by first | exact Nat.le_refl _ | (simp; omega) | (simp; done)) _ | refine Below.on ?_ (by assumption))))
 case rest =>
  obtain ⟨q, rfl, rfl, HQ, HC⟩ := hcut; rename World => wz
  have q0 : wz.cell? ⟨q, 0, none⟩ = some (.int .u32 f.id.1) := HQ.out 0 _ rfl; have q1 : wz.cell? ⟨q, 1, none⟩ = some (.int .u32 f.id.2) := HQ.out 1 _ rfl; have q2 : wz.cell? ⟨q, 2, none⟩ = some (.int .u32 f.home) := HQ.out 2 _ rfl; have q3 : wz.cell? ⟨q, 3, none⟩ = some (.int .i64 f.oc) := HQ.out 3 _ rfl; have q4 : wz.cell? ⟨q, 4, none⟩ = some (.int .u64 f.w) := HQ.out 4 _ rfl; have q5 : wz.cell? ⟨q, 5, none⟩ = some (.int .u32 f.l) := HQ.out 5 _ rfl; have q6 : wz.cell? ⟨q, 6, none⟩ = some (.int .u32 f.n) := HQ.out 6 _ rfl; have hz3 := (HC.out.block _ hsx).trans HZ.out; have f3 : ∀ o, wz.frozen? ⟨w.heap.size + 1, o, none⟩ = false := fun o => by simp [World.frozen?, hz3]
  have r0 : wz.cell? ⟨w.heap.size + 1, 0, none⟩ = some (.int .u32 0) := cell_of_obj hz3 rfl; have r1 : wz.cell? ⟨w.heap.size + 1, 1, none⟩ = some (.int .u32 0) := cell_of_obj hz3 rfl; have r2 : wz.cell? ⟨w.heap.size + 1, 2, none⟩ = some (.int .u32 0) := cell_of_obj hz3 rfl; have r3 : wz.cell? ⟨w.heap.size + 1, 3, none⟩ = some (.int .i64 0) := cell_of_obj hz3 rfl; have r4 : wz.cell? ⟨w.heap.size + 1, 4, none⟩ = some (.int .u64 0) := cell_of_obj hz3 rfl; have r5 : wz.cell? ⟨w.heap.size + 1, 5, none⟩ = some (.int .u32 0) := cell_of_obj hz3 rfl; have r6 : wz.cell? ⟨w.heap.size + 1, 6, none⟩ = some (.int .u32 0) := cell_of_obj hz3 rfl; have HH := hid hz3; have HB3 : Hid (Below w.heap.size w wz) := Below.on HBX.out HC.out; clear hz3 HZ HQ; go_wp2_with fail
  obtain ⟨w8, hw8⟩ : ∃ w8, w8 = (((((((wz).setCell ⟨w.heap.size + 1, 0, none⟩ (.int .u32 f.id.1)).setCell ⟨w.heap.size + 1, 1, none⟩ (.int .u32 f.id.2)).setCell ⟨w.heap.size + 1, 2, none⟩ (.int .u32 f.home)).setCell ⟨w.heap.size + 1, 3, none⟩ (.int .i64 f.oc)).setCell ⟨w.heap.size + 1, 4, none⟩ (.int .u64 f.w)).setCell ⟨w.heap.size + 1, 5, none⟩ (.int .u32 f.l)).setCell ⟨w.heap.size + 1, 6, none⟩ (.int .u32 f.n) := ⟨_, rfl⟩; obtain ⟨hk8, ho8, hs8⟩ := stored (z := En.zero) HH.out hw8; rw [← hw8]; clear hw8; have t0 : w8.cell? ⟨w.heap.size + 1, 0, none⟩ = some (.int .u32 f.id.1) := cell_of_obj hk8 rfl; have t1 : w8.cell? ⟨w.heap.size + 1, 1, none⟩ = some (.int .u32 f.id.2) := cell_of_obj hk8 rfl; have t2 : w8.cell? ⟨w.heap.size + 1, 2, none⟩ = some (.int .u32 f.home) := cell_of_obj hk8 rfl; have t3 : w8.cell? ⟨w.heap.size + 1, 3, none⟩ = some (.int .i64 f.oc) := cell_of_obj hk8 rfl
  have t4 : w8.cell? ⟨w.heap.size + 1, 4, none⟩ = some (.int .u64 f.w) := cell_of_obj hk8 rfl; have t5 : w8.cell? ⟨w.heap.size + 1, 5, none⟩ = some (.int .u32 f.l) := cell_of_obj hk8 rfl; have t6 : w8.cell? ⟨w.heap.size + 1, 6, none⟩ = some (.int .u32 f.n) := cell_of_obj hk8 rfl; have hb8 : Below w.heap.size w w8 := HB3.out.trans (ho8.below (B := w.heap.size) (fun k hk => by omega) HB3.out.size); refine bodyPost_ret (v := .tuple #[.agg #[.int .u32 f.id.1, .int .u32 f.id.2, .int .u32 f.home, .int .i64 f.oc, .int .u64 f.w, .int .u32 f.l, .int .u32 f.n], .bool ok]) (by simp [results, Tryz.results95, go_sem, t0, t1, t2, t3, t4, t5, t6]) rfl ⟨f, ok, rfl, H1, H2, hb8⟩
end Go.Proofs.YtneojeidpfjpbaaGreatDoor.Lg
