import Derived.Test.YtcphmahbhecfaaaXValues
import Derived.RangeFuncBox
import Derived.Maps.AppendAt
/- Entries. -/
namespace Go.Proofs.Ytcphmahbhecfaaa.Lg
open Go.RowKit Go.Sort Go.Shelf Go.Lib Lk
set_option linter.unusedVariables false
attribute [local go_sem] Oper.semAt_some

theorem ko_walks {W W' : World} (h : KeepsOthers W W') : KeepsWalks W W' := ⟨h.size, fun k o hk hw => h.same k o hk (Obj.not_cells_of_walk hw)⟩
/-- an entry in a block -/
def InB (w : World) (b : Nat) (x : En) : Prop := w.heap[b]? = some (.cells #[.int .u32 x.id.1, .int .u32 x.id.2, .int .u32 x.home, .int .i64 x.oc, .int .u64 x.w, .int .u32 x.l, .int .u32 x.n] 36)
theorem inb_own {β : Type} (b : Nat) (x : En) : Own (fun (_ : β) W => InB W b x) := fun s X Y row hs hg hrow => (grownBy_keeps_cells hg hrow (show X.heap[b]? = _ from hs) rfl).trans hs
/-- the loop of AppendSeq -/
def ApI (w : World) (pre : List En) (W : World) : Prop :=
  (∃ v, Boxed W w.heap.size 22 v ∧ W.ownsRow w.heap.size 36 7 v pre.length (pre.flatMap ecs) ∧ True) ∧ Below w.heap.size w W
theorem apI_own {w : World} {B : Nat} (h : w.heap.size ≤ B) : OwnFrom B (ApI w) :=
  OwnFrom.and (Own.from (holdsRow_own w.heap.size w.heap.size 22 36 7 (fun pre : List En => pre.length) (fun pre => pre.flatMap ecs) (fun _ _ => True)) _) (ownFrom_below (Nat.le_refl _) h)
def ApA (w : World) (Bm : Nat) (x : En) (a' : Act) (W : World) : Prop :=
  ∃ Bx, w.heap.size < Bx ∧ InB W Bx x ∧ a' = { tmps := #[.slice none 0 0, .func (.func VALUES1) #[] #[.pointer (some ⟨Bm, 0, none⟩)], .pointer (some ⟨w.heap.size, 0, none⟩), undef, .slice none 0 0, .pointer (some ⟨Bx, 0, none⟩), .func (.func VALUES1) #[] #[.pointer (some ⟨Bm, 0, none⟩)], .agg #[.int .u32 x.id.1, .int .u32 x.id.2, .int .u32 x.home, .int .i64 x.oc, .int .u64 x.w, .int .u32 x.l, .int .u32 x.n], undef, undef, undef, undef, undef], defers := [] }
theorem apA_own {w : World} {Bm : Nat} (x : En) (a' : Act) (Q : Nat) : OwnFrom Q (fun (_ : Unit) W => ApA w Bm x a' W) := fun s X Y row hs hg hr => by
  obtain ⟨Bx, hB, hT, ha⟩ := hs
  exact ⟨Bx, hB, (Own.from (inb_own (β := Unit) _ _) Q) () X Y row hT hg hr, ha⟩
theorem ApI.al {w W : World} {pre : List En} (h : ApI w pre W) (o : Obj) : ApI w pre (W.alloc o) := by
  obtain ⟨⟨v, h1, h2, h3⟩, hB⟩ := h
  exact ⟨⟨v, h1.alloc _, h2.alloc _, h3⟩, Below.al hB _⟩

set_option maxRecDepth 100000 in
set_option maxHeartbeats 2000000 in
theorem appendSeq_is {w : World} {Bm : Nat} {m : Option Nat} {M : List En} (hm : w.cell? ⟨Bm, 0, none⟩ = some (.map m)) (hM : MapO ixv En.val w m (prsE M)) (hlen : M.length ≤ 3518437208882) :
    Calls Try.prog 33 #[.slice none 0 0, .func (.func VALUES1) #[] #[.pointer (some ⟨Bm, 0, none⟩)]] w fun e w' => ∃ (v : Value) (U : List En), e = .returned v ∧ Hid (U.Perm M) ∧ Hid (OwnL w.heap.size w' v U.length U) ∧ Hid (Below w.heap.size w w') := by
  refine (callsIn_wide (n := 5)).1 ?_
  obtain ⟨i0, hi0, hz0, hz1, hz2⟩ := info_of infoEn
  have hb0 : Below w.heap.size w (w.alloc (.cells #[.slice none 0 0] 22)) := Below.al (Below.refl _ _) _
  have bO := Boxed.new w 22 (.slice none 0 0)
  have hst := values_stops 4 (by decide) Bm m M _ (cell_later hb0 hm) (hM.later hb0)
  refine callsIn_of_wp_marks Try.func33 rfl trivial ?_ rfl
  simp only [Try.ntmps33, List.size_toArray, List.length_cons, List.length_nil, Nat.reduceAdd, Nat.reduceSub, Array.replicate_succ, Array.replicate_zero, List.push_toArray, List.append_toArray, List.nil_append, List.cons_append]
  gi_wp2
  obtain ⟨w0, hw0⟩ : ∃ w0, w0 = w.alloc (.cells #[.slice none 0 0] 22) := ⟨_, rfl⟩
  rw [← hw0] at bO hb0 hst ⊢
  clear hw0
  have hs0 : w.heap.size < w0.heap.size := bO.lt
  refine wpIn_rangeFunc_ownH rfl (by decide) (gf := VALUES1) (lb := #[.pointer (some ⟨Bm, 0, none⟩)]) rfl trivial (enters_of Try.func27 (by kernel_rfl) rfl)
    hst walksK_t walksK_b (Below.refl _ _) (fun _ => rfl)
    (ApI w) (fun _ _ _ => False) (apI_own (by omega)) (fun _ _ _ _ _ hs _ _ => hs)
    ⟨⟨_, bO, World.ownsRow_nil _ _ _ _, trivial⟩, hb0⟩
    (ApA w Bm) (fun x a' => apA_own x a' _) ?assign ?body ?done ?stop
  case assign =>
    rintro l pre x W K hI hK
    gi_wp2
    exact hK _ _ ((KeepsOthers.alloc _ _).from _) (KeepsWalks.alloc _ _) (hI.al _) ⟨W.heap.size, (by obtain ⟨⟨v, h1, _⟩, _⟩ := hI; exact h1.lt), World.alloc_heap_new W _, rfl⟩
  case body =>
    rintro l pre x a' W hl hr ⟨⟨v, hv, hrow, -⟩, hB⟩ ⟨Bx, hBx, bX, rfl⟩ hlt
    have hc := hv.cell
    have hsz := hB.size
    have bX' : W.heap[Bx]? = some (.cells #[.int .u32 x.id.1, .int .u32 x.id.2, .int .u32 x.home, .int .i64 x.oc, .int .u64 x.w, .int .u32 x.l, .int .u32 x.n] 36) := bX
    have x0 : W.cell? ⟨Bx, 0, none⟩ = some (.int .u32 x.id.1) := cell_of_obj bX' rfl
    have x1 : W.cell? ⟨Bx, 1, none⟩ = some (.int .u32 x.id.2) := cell_of_obj bX' rfl
    have x2 : W.cell? ⟨Bx, 2, none⟩ = some (.int .u32 x.home) := cell_of_obj bX' rfl
    have x3 : W.cell? ⟨Bx, 3, none⟩ = some (.int .i64 x.oc) := cell_of_obj bX' rfl
    have x4 : W.cell? ⟨Bx, 4, none⟩ = some (.int .u64 x.w) := cell_of_obj bX' rfl
    have x5 : W.cell? ⟨Bx, 5, none⟩ = some (.int .u32 x.l) := cell_of_obj bX' rfl
    have x6 : W.cell? ⟨Bx, 6, none⟩ = some (.int .u32 x.n) := cell_of_obj bX' rfl
    have g1 : pre.length + 1 ≤ maxLen := by unfold maxLen; omega
    have g2 : (pre.length + 1) * 40 ≤ 140737488355328 := by omega
    have hnew : ∀ j u, (ecs x)[j]? = some u → (W.alloc (.cells #[.int .u32 x.id.1, .int .u32 x.id.2, .int .u32 x.home, .int .i64 x.oc, .int .u64 x.w, .int .u32 x.l, .int .u32 x.n] 36)).cell? ((⟨W.heap.size, 0, none⟩ : Addr).add j) = some u := fun j u hj => by
      rw [Addr.add_lit, Nat.zero_add]
      exact cell_of_obj (MapKept.heap_alloc _ _).1 (by simpa using hj)
    clear bX bX'
    gi_wp2_with (gi_at_builtin; refine wpListIn_append_own _ rfl _ _ 22 rfl w.heap.size 36 i0 (En.val En.zero) 7 40 Try.underlying22 hi0 hz0 hz1 hz2 rfl (by decide) _ _ _ rfl (hrow.alloc _) ⟨W.heap.size, 0, none⟩ 1 1 (ecs x) rfl rfl hnew (ecs_one x) g1 g2 (by simp; omega) ?_; intro v' w2 hown' hgrow _; obtain ⟨g', cap', rfl⟩ := ownsRow_succ hown'; obtain ⟨hv1, hv2, hr2, hk2, hb2⟩ := hv.appended (by decide) hrow hB.size (by omega) hown' hgrow; have hc1 := hv1.cell; have hf1 := hv1.frozen)
    exact ⟨hk2.from _, ko_walks hk2, ⟨_, hv2, by simpa using hr2, trivial⟩, hB.trans hb2⟩
  case done =>
    rintro D ys W hD hys ⟨⟨v, hv, hrow, -⟩, hB⟩ hK
    have hc := hv.cell
    gi_wp2
    refine ⟨by simp, .inl ⟨_, _, rfl, run_takeDeferred hK, ?_⟩⟩
    exact ⟨_, results_tmp rfl _ _ _, v, ys, rfl, hys, ownsRow_putObj hrow _ hK rfl, hB.trans (belowK_b (w := w) (Nat.le_refl _) W D _ _ (by omega) hK rfl rfl)⟩
  case stop =>
    rintro D c pre W _ _ h _
    exact h.elim
theorem collect_is {w : World} {Bm : Nat} {m : Option Nat} {M : List En} (hm : w.cell? ⟨Bm, 0, none⟩ = some (.map m)) (hM : MapO ixv En.val w m (prsE M)) (hlen : M.length ≤ 3518437208882) :
    Calls Try.prog 26 #[.func (.func VALUES1) #[] #[.pointer (some ⟨Bm, 0, none⟩)]] w fun e w' => ∃ (v : Value) (U : List En), e = .returned v ∧ Hid (U.Perm M) ∧ Hid (OwnL w.heap.size w' v U.length U) ∧ Hid (Below w.heap.size w w') := by
  have AP := hid (appendSeq_is hm hM hlen)
  clear hm hM
  go_enter Try.func26, Try.ntmps26
  go_wp2_with (go_at_call 33; refine AP.out.mono ?_; rintro e w1 ⟨v, U, rfl, h1, h2, h3⟩)
  go_ret
  exact ⟨v, U, rfl, h1, h2, h3⟩
theorem sortedFunc_is {w : World} {Bm : Nat} {m : Option Nat} {M : List En} (hm : w.cell? ⟨Bm, 0, none⟩ = some (.map m)) (hM : MapO ixv En.val w m (prsE M)) (hlen : M.length ≤ 3518437208882) :
    Calls Try.prog 19 #[.func (.func VALUES1) #[] #[.pointer (some ⟨Bm, 0, none⟩)], .func (.func 21) #[] #[]] w fun e w' => ∃ (a : Option Addr) (n c : Nat) (U : List En), e = .returned (.slice a n c) ∧ Hid (U.length = n) ∧ Hid (OwnL w.heap.size w' (.slice a n c) n U) ∧
      Hid (U.Perm M) ∧ Hid (U.Pairwise (fun x y => ltI y.id x.id = false)) ∧ Hid (Below w.heap.size w w') := by
  have CO := hid (collect_is hm hM hlen)
  clear hm hM
  go_enter Try.func19, Try.ntmps19
  go_wp2_with fail
  refine CO.out.mono ?_
  rintro e w1 ⟨v, U, rfl, h1, h2, h3⟩
  obtain ⟨a, c, rfl⟩ := owns_slice h2.out
  obtain ⟨n, hn⟩ : ∃ n, n = U.length := ⟨_, rfl⟩
  rw [← hn] at h2 ⊢
  have SO := hid (sortT_is h2.out hn.symm (by have := h1.out.length_eq; omega))
  have HN := hid hn
  clear hn
  go_wp2_with fail
  refine SO.out.mono ?_
  rintro e w2 ⟨rfl, U', hpU, hsU, hoU, honl⟩
  have HB2 : Hid (Below w.heap.size w w2) := h3.out.trans (honl.below (B := w.heap.size) (fun b hb => (h2.out.lt b hb).1) h3.out.size)
  have HFin : Hid (U'.length = n) ∧ Hid (OwnL w.heap.size w2 (.slice a n c) n U') ∧ Hid (U'.Perm M) ∧ Hid (U'.Pairwise (fun x y => ltI y.id x.id = false)) ∧ Hid (Below w.heap.size w w2) :=
    ⟨hid (by rw [hpU.length_eq]; exact HN.out.symm), hoU, hid (hpU.trans h1.out), hsU, HB2⟩
  clear hpU hsU hoU honl HB2
  go_wp2_with fail
  go_ret
  exact ⟨a, n, c, U', rfl, HFin⟩
theorem entries_is {w : World} {p : Nat} {m : Option Nat} {M : List En} (T : Lg w p m M) (hlen : M.length ≤ 3518437208882) :
    Calls Try.prog 10 #[.pointer (some ⟨p, 0, none⟩)] w fun e w' => ∃ (a : Option Addr) (n c : Nat) (U : List En), e = .returned (.slice a n c) ∧ Hid (U.length = n) ∧ Hid (OwnL w.heap.size w' (.slice a n c) n U) ∧
      Hid (U.Perm M) ∧ Hid (U.Pairwise (fun x y => ltI y.id x.id = false)) ∧ Hid (Below w.heap.size w w') := by
  have c0 := T.c0
  obtain ⟨wx, hwx⟩ : ∃ wx, wx = w.alloc (.cells #[.map m] 48) := ⟨_, rfl⟩
  have hbx : Below w.heap.size w wx := by rw [hwx]; exact Below.al (Below.refl _ _) _
  have hk : wx.heap[w.heap.size]? = some (.cells #[.map m] 48) := by rw [hwx]; exact (MapKept.heap_alloc _ _).1
  have SF := hid (sortedFunc_is (cell_of_obj hk rfl) (T.ents.later hbx) hlen)
  have HB := hid hbx
  have VA : Hid (Calls Try.prog VALUES #[.map m] w fun e w' => e = .returned (.func (.func VALUES1) #[] #[.pointer (some ⟨w.heap.size, 0, none⟩)]) ∧ w' = wx) := by rw [hwx]; exact values_is m w
  clear T hbx hk hwx
  go_enter Try.func10, Try.ntmps10
  go_wp2_with fail
  refine VA.out.mono ?_
  rintro e w1 ⟨rfl, rfl⟩
  go_wp2_with fail
  refine SF.out.mono ?_
  rintro e w2 ⟨a, n, c, U, rfl, h1, h2, h3, h4, h5⟩
  have HFin : Hid (U.length = n) ∧ Hid (OwnL w.heap.size w2 (.slice a n c) n U) ∧ Hid (U.Perm M) ∧ Hid (U.Pairwise (fun x y => ltI y.id x.id = false)) ∧ Hid (Below w.heap.size w w2) :=
    ⟨h1, owns_base h2.out HB.out.size, h3, h4, Below.on HB.out h5.out⟩
  clear h1 h2 h3 h4 h5
  go_wp2_with fail
  go_ret
  exact ⟨a, n, c, U, rfl, HFin⟩
end Go.Proofs.Ytcphmahbhecfaaa.Lg
