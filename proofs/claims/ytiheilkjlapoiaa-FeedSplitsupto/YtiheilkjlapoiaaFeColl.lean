import Derived.Test.YtiheilkjlapoiaaFeSeq
/- AppendSeq and Collect at slices.Values of entries. -/
namespace Go.Proofs.Ytiheilkjlapoiaa.Lg
open Go.RowKit Go.Sort Go.Shelf Go.Lib Lk
set_option linter.unusedVariables false
attribute [local go_sem] Oper.semAt_some

/-- an entry in a block -/
def InB (w : World) (b : Nat) (x : En) : Prop := w.heap[b]? = some (.cells #[.int .u32 x.id.1, .int .u32 x.id.2, .int .u32 x.home, .int .i64 x.oc, .int .u64 x.w, .int .u32 x.l, .int .u32 x.n] 60)
theorem inb_own {β : Type} (b : Nat) (x : En) : Own (fun (_ : β) W => InB W b x) := fun s X Y row hs hg hrow => (grownBy_keeps_cells hg hrow (show X.heap[b]? = _ from hs) rfl).trans hs
/-- the loop of AppendSeq -/
def ApI (w : World) (pre : List En) (W : World) : Prop :=
  (∃ v, Boxed W w.heap.size 38 v ∧ W.ownsRow w.heap.size 60 7 v pre.length (pre.flatMap ecs) ∧ True) ∧ Below w.heap.size w W
theorem apI_own {w : World} {B : Nat} (h : w.heap.size ≤ B) : OwnFrom B (ApI w) :=
  OwnFrom.and (Own.from (holdsRow_own w.heap.size w.heap.size 38 60 7 (fun pre : List En => pre.length) (fun pre => pre.flatMap ecs) (fun _ _ => True)) _) (ownFrom_below (Nat.le_refl _) h)
def ApA (w : World) (Bm : Nat) (x : En) (a' : Act) (W : World) : Prop :=
  ∃ Bx, w.heap.size < Bx ∧ InB W Bx x ∧ a' = { tmps := #[.slice none 0 0, .func (.func VALS1) #[] #[.pointer (some ⟨Bm, 0, none⟩)], .pointer (some ⟨w.heap.size, 0, none⟩), undef, .slice none 0 0, .pointer (some ⟨Bx, 0, none⟩), .func (.func VALS1) #[] #[.pointer (some ⟨Bm, 0, none⟩)], .agg #[.int .u32 x.id.1, .int .u32 x.id.2, .int .u32 x.home, .int .i64 x.oc, .int .u64 x.w, .int .u32 x.l, .int .u32 x.n], undef, undef, undef, undef, undef], defers := [] }
theorem apA_own {w : World} {Bm : Nat} (x : En) (a' : Act) (Q : Nat) : OwnFrom Q (fun (_ : Unit) W => ApA w Bm x a' W) := fun s X Y row hs hg hr => by
  obtain ⟨Bx, hB, hT, ha⟩ := hs
  exact ⟨Bx, hB, (Own.from (inb_own (β := Unit) _ _) Q) () X Y row hT hg hr, ha⟩
theorem ApI.al {w W : World} {pre : List En} (h : ApI w pre W) (o : Obj) : ApI w pre (W.alloc o) := by
  obtain ⟨⟨v, h1, h2, h3⟩, hB⟩ := h
  exact ⟨⟨v, h1.alloc _, h2.alloc _, h3⟩, Below.al hB _⟩

set_option maxRecDepth 100000 in
set_option maxHeartbeats 2000000 in
theorem appendSeq_is {w : World} {Bm : Nat} {am : Option Addr} {cm : Nat} {M : List En} (hm : w.cell? ⟨Bm, 0, none⟩ = some (.slice am M.length cm)) (hM : RowE w am M) (hlen : M.length ≤ 3518437208882) :
    Calls Try.prog 28 #[.slice none 0 0, .func (.func VALS1) #[] #[.pointer (some ⟨Bm, 0, none⟩)]] w fun e w' => ∃ (v : Value), e = .returned v ∧ Hid (OwnL w.heap.size w' v M.length M) ∧ Hid (Below w.heap.size w w') := by
  refine (callsIn_wide (n := 5)).1 ?_
  obtain ⟨i0, hi0, hz0, hz1, hz2⟩ := info_of infoEn
  have hb0 : Below w.heap.size w (w.alloc (.cells #[.slice none 0 0] 38)) := Below.al (Below.refl _ _) _
  have bO := Boxed.new w 38 (.slice none 0 0)
  have hst := vals_stops 4 (by decide) hb0 hm hM hlen
  refine callsIn_of_wp_marks Try.func28 rfl trivial ?_ rfl
  simp only [Try.ntmps28, List.size_toArray, List.length_cons, List.length_nil, Nat.reduceAdd, Nat.reduceSub, Array.replicate_succ, Array.replicate_zero, List.push_toArray, List.append_toArray, List.nil_append, List.cons_append]
  gi_wp2
  obtain ⟨w0, hw0⟩ : ∃ w0, w0 = w.alloc (.cells #[.slice none 0 0] 38) := ⟨_, rfl⟩
  rw [← hw0] at bO hb0 hst ⊢
  clear hw0
  have hs0 : w.heap.size < w0.heap.size := bO.lt
  refine wpIn_rangeFunc_ownH rfl (by decide) (gf := VALS1) (lb := #[.pointer (some ⟨Bm, 0, none⟩)]) rfl trivial (enters_of Try.func22 (by kernel_rfl) rfl)
    hst belowK_t (belowK_b (by omega)) (Below.refl _ _) (fun _ => rfl)
    (ApI w) (fun _ _ _ => False) (apI_own (by omega)) (fun _ _ _ _ _ hs _ _ => hs)
    ⟨⟨_, bO, World.ownsRow_nil _ _ _ _, trivial⟩, hb0⟩
    (ApA w Bm) (fun x a' => apA_own x a' _) ?assign ?body ?done ?stop
  case assign =>
    rintro l pre x W K hI hK
    gi_wp2
    exact hK _ _ ((KeepsOthers.alloc _ _).from _) ((Below.refl _ W).alloc hI.2.size _) (hI.al _) ⟨W.heap.size, (by obtain ⟨⟨v, h1, _⟩, _⟩ := hI; exact h1.lt), World.alloc_heap_new W _, rfl⟩
  case body =>
    rintro l pre x a' W hl hr ⟨⟨v, hv, hrow, -⟩, hB⟩ ⟨Bx, hBx, bX, rfl⟩ hlt
    have hc := hv.cell
    have hsz := hB.size
    have bX' : W.heap[Bx]? = some (.cells #[.int .u32 x.id.1, .int .u32 x.id.2, .int .u32 x.home, .int .i64 x.oc, .int .u64 x.w, .int .u32 x.l, .int .u32 x.n] 60) := bX
    have x0 : W.cell? ⟨Bx, 0, none⟩ = some (.int .u32 x.id.1) := cell_of_obj bX' rfl
    have x1 : W.cell? ⟨Bx, 1, none⟩ = some (.int .u32 x.id.2) := cell_of_obj bX' rfl
    have x2 : W.cell? ⟨Bx, 2, none⟩ = some (.int .u32 x.home) := cell_of_obj bX' rfl
    have x3 : W.cell? ⟨Bx, 3, none⟩ = some (.int .i64 x.oc) := cell_of_obj bX' rfl
    have x4 : W.cell? ⟨Bx, 4, none⟩ = some (.int .u64 x.w) := cell_of_obj bX' rfl
    have x5 : W.cell? ⟨Bx, 5, none⟩ = some (.int .u32 x.l) := cell_of_obj bX' rfl
    have x6 : W.cell? ⟨Bx, 6, none⟩ = some (.int .u32 x.n) := cell_of_obj bX' rfl
    have g1 : pre.length + 1 ≤ maxLen := by unfold maxLen; omega
    have g2 : (pre.length + 1) * 40 ≤ 140737488355328 := by omega
    have hnew : ∀ j u, (ecs x)[j]? = some u → (W.alloc (.cells #[.int .u32 x.id.1, .int .u32 x.id.2, .int .u32 x.home, .int .i64 x.oc, .int .u64 x.w, .int .u32 x.l, .int .u32 x.n] 60)).cell? ((⟨W.heap.size, 0, none⟩ : Addr).add j) = some u := fun j u hj => by
      rw [Addr.add_lit, Nat.zero_add]
      exact cell_of_obj (MapKept.heap_alloc _ _).1 (by simpa using hj)
    clear bX bX'
    gi_wp2_with (gi_at_builtin; refine wpListIn_append_own _ rfl _ _ 38 rfl w.heap.size 60 i0 (En.val En.zero) 7 40 Try.underlying38 hi0 hz0 hz1 hz2 rfl (by decide) _ _ _ rfl (hrow.alloc _) ⟨W.heap.size, 0, none⟩ 1 1 (ecs x) rfl rfl hnew (ecs_one x) g1 g2 (by simp; omega) ?_; intro v' w2 hown' hgrow _; obtain ⟨g', cap', rfl⟩ := ownsRow_succ hown'; obtain ⟨hv1, hv2, hr2, hk2, hb2⟩ := hv.appended (by decide) hrow hB.size (by omega) hown' hgrow; have hc1 := hv1.cell; have hf1 := hv1.frozen)
    exact ⟨hk2.from _, hb2, ⟨_, hv2, by simpa using hr2, trivial⟩, hB.trans hb2⟩
  case done =>
    rintro D ys W hD hys ⟨⟨v, hv, hrow, -⟩, hB⟩ hK
    have hc := hv.cell
    gi_wp2
    refine ⟨by simp, .inl ⟨_, _, rfl, run_takeDeferred hK, ?_⟩⟩
    subst hys; exact ⟨_, results_tmp rfl _ _ _, v, rfl, ownsRow_putObj hrow _ hK rfl, hB.trans (belowK_b (w := w) (Nat.le_refl _) W D _ _ (by omega) hK rfl rfl)⟩
  case stop =>
    rintro D c pre W _ _ h _
    exact h.elim
theorem collect_is {w : World} {Bm : Nat} {am : Option Addr} {cm : Nat} {M : List En} (hm : w.cell? ⟨Bm, 0, none⟩ = some (.slice am M.length cm)) (hM : RowE w am M) (hlen : M.length ≤ 3518437208882) :
    Calls Try.prog 20 #[.func (.func VALS1) #[] #[.pointer (some ⟨Bm, 0, none⟩)]] w fun e w' => ∃ (v : Value), e = .returned v ∧ Hid (OwnL w.heap.size w' v M.length M) ∧ Hid (Below w.heap.size w w') := by
  have AP := hid (appendSeq_is hm hM hlen)
  clear hm hM
  go_enter Try.func20, Try.ntmps20
  go_wp2_with (go_at_call 28; refine AP.out.mono ?_; rintro e w1 ⟨v, rfl, h2, h3⟩)
  go_ret
  exact ⟨v, rfl, h2, h3⟩
end Go.Proofs.Ytiheilkjlapoiaa.Lg
