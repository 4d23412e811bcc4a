import Derived.Test.YtneojeidpfjpbaaGreatDoorB38
import Derived.Test.YtneojeidpfjpbaaGreatDoorB37
import Derived.Test.YtneojeidpfjpbaaGreatDoorB36
set_option linter.unusedVariables false
set_option maxHeartbeats 4000000
namespace Go.Proofs.YtneojeidpfjpbaaGreatDoor.Lg
open Go.RowKit Go.Sort Go.Shelf Go.Lib Lk
attribute [local go_sem] Oper.semAt_some
theorem ko_walks {W W' : World} (h : KeepsOthers W W') : KeepsWalks W W' := ⟨h.size, fun k o hk hw => h.same k o hk (Obj.not_cells_of_walk hw)⟩
def InB (w : World) (b : Nat) (x : En) : Prop := w.heap[b]? = some (.cells #[.int .u32 x.id.1, .int .u32 x.id.2, .int .u32 x.home, .int .i64 x.oc, .int .u64 x.w, .int .u32 x.l, .int .u32 x.n] 91)
theorem inb_own {β : Type} (b : Nat) (x : En) : Own (fun (_ : β) W => InB W b x) := fun s X Y row hs hg hrow => (grownBy_keeps_cells hg hrow (show X.heap[b]? = _ from hs) rfl).trans hs
def ApI (w : World) (pre : List En) (W : World) : Prop :=
 (∃ v, Boxed W w.heap.size 92 v ∧ W.ownsRow w.heap.size 91 7 v pre.length (pre.flatMap ecs) ∧ True) ∧ Below w.heap.size w W
theorem apI_own {w : World} {B : Nat} (h : w.heap.size ≤ B) : OwnFrom B (ApI w) :=
 OwnFrom.and (Own.from (holdsRow_own w.heap.size w.heap.size 92 91 7 (fun pre : List En => pre.length) (fun pre => pre.flatMap ecs) (fun _ _ => True)) _) (ownFrom_below (Nat.le_refl _) h)
def ApA (w : World) (Bm : Nat) (x : En) (a' : Act) (W : World) : Prop :=
 ∃ Bx, w.heap.size < Bx ∧ InB W Bx x ∧ a' = { tmps := #[.slice none 0 0, .func (.func VALUES1) #[] #[.pointer (some ⟨Bm, 0, none⟩)], .pointer (some ⟨w.heap.size, 0, none⟩), undef, .slice none 0 0, .pointer (some ⟨Bx, 0, none⟩), .func (.func VALUES1) #[] #[.pointer (some ⟨Bm, 0, none⟩)], .agg #[.int .u32 x.id.1, .int .u32 x.id.2, .int .u32 x.home, .int .i64 x.oc, .int .u64 x.w, .int .u32 x.l, .int .u32 x.n], undef, undef, undef, undef, undef], defers := [] }
theorem apA_own {w : World} {Bm : Nat} (x : En) (a' : Act) (Q : Nat) : OwnFrom Q (fun (_ : Unit) W => ApA w Bm x a' W) := fun s X Y row hs hg hr => by
 obtain ⟨Bx, hB, hT, ha⟩ := hs; exact ⟨Bx, hB, (Own.from (inb_own (β := Unit) _ _) Q) () X Y row hT hg hr, ha⟩
theorem ApI.al {w W : World} {pre : List En} (h : ApI w pre W) (o : Obj) : ApI w pre (W.alloc o) := by
 obtain ⟨⟨v, h1, h2, h3⟩, hB⟩ := h; exact ⟨⟨v, h1.alloc _, h2.alloc _, h3⟩, Below.al hB _⟩
set_option maxRecDepth 100000 in
theorem appendSeq_is {w : World} {Bm : Nat} {m : Option Nat} {M : List En} (hm : w.cell? ⟨Bm, 0, none⟩ = some (.map m)) (hM : MapO ixv En.val w m (prsE M)) (hlen : M.length ≤ 3518437208882) :
  Calls Tryz.prog 206 #[.slice none 0 0, .func (.func VALUES1) #[] #[.pointer (some ⟨Bm, 0, none⟩)]] w fun e w' => ∃ (v : Value) (U : List En), e = .returned v ∧ Hid (U.Perm M) ∧ Hid (OwnL w.heap.size w' v U.length U) ∧ Hid (Below w.heap.size w w') := by
 refine (callsIn_wide (n := 5)).1 ?_; obtain ⟨i0, hi0, hz0, hz1, hz2⟩ := info_of infoEn; have hb0 : Below w.heap.size w (w.alloc (.cells #[.slice none 0 0] 92)) := Below.al (Below.refl _ _) _; have bO := Boxed.new w 92 (.slice none 0 0); have hst := values_stops 4 (by decide) Bm m M _ (cell_later hb0 hm) (hM.later hb0); refine callsIn_of_wp_marks Tryz.func206 rfl trivial ?_ rfl; simp only [Tryz.ntmps206, List.size_toArray, List.length_cons, List.length_nil, Nat.reduceAdd, Nat.reduceSub, Array.replicate_succ, Array.replicate_zero, List.push_toArray, List.append_toArray, List.nil_append, List.cons_append]; gi_wp2
 obtain ⟨w0, hw0⟩ : ∃ w0, w0 = w.alloc (.cells #[.slice none 0 0] 92) := ⟨_, rfl⟩; rw [← hw0] at bO hb0 hst ⊢; clear hw0; have hs0 : w.heap.size < w0.heap.size := bO.lt; refine wpIn_rangeFunc_ownH rfl (by decide) (gf := VALUES1) (lb := #[.pointer (some ⟨Bm, 0, none⟩)]) rfl trivial (enters_of Tryz.func155 (by kernel_rfl) rfl)
  hst walksK_t walksK_b (Below.refl _ _) (fun _ => rfl)
  (ApI w) (fun _ _ _ => False) (apI_own (by omega)) (fun _ _ _ _ _ hs _ _ => hs)
  ⟨⟨_, bO, World.ownsRow_nil _ _ _ _, trivial⟩, hb0⟩
  (ApA w Bm) (fun x a' => apA_own x a' _) ?assign ?body ?done ?stop
 case assign =>
  rintro l pre x W K hI hK; gi_wp2
  exact hK _ _ ((KeepsOthers.alloc _ _).from _) (KeepsWalks.alloc _ _) (hI.al _) ⟨W.heap.size, (by obtain ⟨⟨v, h1, _⟩, _⟩ := hI; exact h1.lt), World.alloc_heap_new W _, rfl⟩
 case body =>
  rintro l pre x a' W hl hr ⟨⟨v, hv, hrow, -⟩, hB⟩ ⟨Bx, hBx, bX, rfl⟩ hlt; have hc := hv.cell; have hsz := hB.size; have bX' : W.heap[Bx]? = some (.cells #[.int .u32 x.id.1, .int .u32 x.id.2, .int .u32 x.home, .int .i64 x.oc, .int .u64 x.w, .int .u32 x.l, .int .u32 x.n] 91) := bX; have x0 : W.cell? ⟨Bx, 0, none⟩ = some (.int .u32 x.id.1) := cell_of_obj bX' rfl; have x1 : W.cell? ⟨Bx, 1, none⟩ = some (.int .u32 x.id.2) := cell_of_obj bX' rfl; have x2 : W.cell? ⟨Bx, 2, none⟩ = some (.int .u32 x.home) := cell_of_obj bX' rfl; have x3 : W.cell? ⟨Bx, 3, none⟩ = some (.int .i64 x.oc) := cell_of_obj bX' rfl; have x4 : W.cell? ⟨Bx, 4, none⟩ = some (.int .u64 x.w) := cell_of_obj bX' rfl; have x5 : W.cell? ⟨Bx, 5, none⟩ = some (.int .u32 x.l) := cell_of_obj bX' rfl; have x6 : W.cell? ⟨Bx, 6, none⟩ = some (.int .u32 x.n) := cell_of_obj bX' rfl
  have g1 : pre.length + 1 ≤ maxLen := by unfold maxLen; omega
  have g2 : (pre.length + 1) * 40 ≤ 140737488355328 := by omega
  have hnew : ∀ j u, (ecs x)[j]? = some u → (W.alloc (.cells #[.int .u32 x.id.1, .int .u32 x.id.2, .int .u32 x.home, .int .i64 x.oc, .int .u64 x.w, .int .u32 x.l, .int .u32 x.n] 91)).cell? ((⟨W.heap.size, 0, none⟩ : Addr).add j) = some u := fun j u hj => by
   rw [Addr.add_lit, Nat.zero_add]; exact cell_of_obj (MapKept.heap_alloc _ _).1 (by simpa using hj)
  clear bX bX'; gi_wp2_with (gi_at_builtin; refine wpListIn_append_own _ rfl _ _ 92 rfl w.heap.size 91 i0 (En.val En.zero) 7 40 Tryz.underlying92 hi0 hz0 hz1 hz2 rfl (by decide) _ _ _ rfl (hrow.alloc _) ⟨W.heap.size, 0, none⟩ 1 1 (ecs x) rfl rfl hnew (ecs_one x) g1 g2 (by simp; omega) ?_; intro v' w2 hown' hgrow _; obtain ⟨g', cap', rfl⟩ := ownsRow_succ hown'; obtain ⟨hv1, hv2, hr2, hk2, hb2⟩ := hv.appended (by decide) hrow hB.size (by omega) hown' hgrow; have hc1 := hv1.cell; have hf1 := hv1.frozen)
  exact ⟨hk2.from _, ko_walks hk2, ⟨_, hv2, by simpa using hr2, trivial⟩, hB.trans hb2⟩
 case done =>
  rintro D ys W hD hys ⟨⟨v, hv, hrow, -⟩, hB⟩ hK; have hc := hv.cell; gi_wp2
  refine ⟨by simp, .inl ⟨_, _, rfl, run_takeDeferred hK, ?_⟩⟩; exact ⟨_, results_tmp rfl _ _ _, v, ys, rfl, hys, ownsRow_putObj hrow _ hK rfl, hB.trans (belowK_b (w := w) (Nat.le_refl _) W D _ _ (by omega) hK rfl rfl)⟩
 case stop =>
  rintro D c pre W _ _ h _; exact h.elim
theorem collect_is {w : World} {Bm : Nat} {m : Option Nat} {M : List En} (hm : w.cell? ⟨Bm, 0, none⟩ = some (.map m)) (hM : MapO ixv En.val w m (prsE M)) (hlen : M.length ≤ 3518437208882) :
  Calls Tryz.prog 153 #[.func (.func VALUES1) #[] #[.pointer (some ⟨Bm, 0, none⟩)]] w fun e w' => ∃ (v : Value) (U : List En), e = .returned v ∧ Hid (U.Perm M) ∧ Hid (OwnL w.heap.size w' v U.length U) ∧ Hid (Below w.heap.size w w') := by
 have AP := hid (appendSeq_is hm hM hlen); clear hm hM; go_enter Tryz.func153, Tryz.ntmps153
 go_wp2_with (go_at_call 206; refine AP.out.mono ?_; rintro e w1 ⟨v, U, rfl, h1, h2, h3⟩)
 go_ret
 exact ⟨v, U, rfl, h1, h2, h3⟩
theorem sortedFunc_is {w : World} {Bm : Nat} {m : Option Nat} {M : List En} (hm : w.cell? ⟨Bm, 0, none⟩ = some (.map m)) (hM : MapO ixv En.val w m (prsE M)) (hlen : M.length ≤ 3518437208882) :
  Calls Tryz.prog 108 #[.func (.func VALUES1) #[] #[.pointer (some ⟨Bm, 0, none⟩)], .func (.func 110) #[] #[]] w fun e w' => ∃ (a : Option Addr) (n c : Nat) (U : List En), e = .returned (.slice a n c) ∧ Hid (U.length = n) ∧ Hid (OwnL w.heap.size w' (.slice a n c) n U) ∧
   Hid (U.Perm M) ∧ Hid (U.Pairwise (fun x y => ltI y.id x.id = false)) ∧ Hid (Below w.heap.size w w') := by
 have CO := hid (collect_is hm hM hlen); clear hm hM; go_enter Tryz.func108, Tryz.ntmps108
 go_wp2_with fail
 refine CO.out.mono ?_; rintro e w1 ⟨v, U, rfl, h1, h2, h3⟩; obtain ⟨a, c, rfl⟩ := owns_slice h2.out; obtain ⟨n, hn⟩ : ∃ n, n = U.length := ⟨_, rfl⟩; rw [← hn] at h2 ⊢; have SO := hid (sortT_is h2.out hn.symm (by have := h1.out.length_eq; omega)); have HN := hid hn; clear hn; go_wp2_with fail
 refine SO.out.mono ?_; rintro e w2 ⟨rfl, U', hpU, hsU, hoU, honl⟩; have HB2 : Hid (Below w.heap.size w w2) := h3.out.trans (honl.below (B := w.heap.size) (fun b hb => (h2.out.lt b hb).1) h3.out.size); have HFin : Hid (U'.length = n) ∧ Hid (OwnL w.heap.size w2 (.slice a n c) n U') ∧ Hid (U'.Perm M) ∧ Hid (U'.Pairwise (fun x y => ltI y.id x.id = false)) ∧ Hid (Below w.heap.size w w2) :=
  ⟨hid (by rw [hpU.length_eq]; exact HN.out.symm), hoU, hid (hpU.trans h1.out), hsU, HB2⟩
 clear hpU hsU hoU honl HB2; go_wp2_with fail
 go_ret
 exact ⟨a, n, c, U', rfl, HFin⟩
theorem entries_is {w : World} {p oo : Nat} {ty : TypeId} {m : Option Nat} {M : List En} (T : LgO w p oo ty m M) (hlen : M.length ≤ 3518437208882) :
  Calls Tryz.prog 71 #[.pointer (some ⟨p, oo, none⟩)] w fun e w' => ∃ (a : Option Addr) (n c : Nat) (U : List En), e = .returned (.slice a n c) ∧ Hid (U.length = n) ∧ Hid (OwnL w.heap.size w' (.slice a n c) n U) ∧
   Hid (U.Perm M) ∧ Hid (U.Pairwise (fun x y => ltI y.id x.id = false)) ∧ Hid (Below w.heap.size w w') := by
 have c0 := T.c0; obtain ⟨wx, hwx⟩ : ∃ wx, wx = w.alloc (.cells #[.map m] 72) := ⟨_, rfl⟩; have hbx : Below w.heap.size w wx := by rw [hwx]; exact Below.al (Below.refl _ _) _
 have hk : wx.heap[w.heap.size]? = some (.cells #[.map m] 72) := by rw [hwx]; exact (MapKept.heap_alloc _ _).1
 have SF := hid (sortedFunc_is (cell_of_obj hk rfl) (T.ents.later hbx) hlen); have HB := hid hbx; have VA : Hid (Calls Tryz.prog VALUES #[.map m] w fun e w' => e = .returned (.func (.func VALUES1) #[] #[.pointer (some ⟨w.heap.size, 0, none⟩)]) ∧ w' = wx) := by rw [hwx]; exact values_is m w
 clear T hbx hk hwx; go_enter Tryz.func71, Tryz.ntmps71
 go_wp2_with fail
 refine VA.out.mono ?_; rintro e w1 ⟨rfl, rfl⟩; go_wp2_with fail
 refine SF.out.mono ?_; rintro e w2 ⟨a, n, c, U, rfl, h1, h2, h3, h4, h5⟩; have HFin : Hid (U.length = n) ∧ Hid (OwnL w.heap.size w2 (.slice a n c) n U) ∧ Hid (U.Perm M) ∧ Hid (U.Pairwise (fun x y => ltI y.id x.id = false)) ∧ Hid (Below w.heap.size w w2) :=
  ⟨h1, owns_base h2.out HB.out.size, h3, h4, Below.on HB.out h5.out⟩
 clear h1 h2 h3 h4 h5; go_wp2_with fail
 go_ret
 exact ⟨a, n, c, U, rfl, HFin⟩
end Go.Proofs.YtneojeidpfjpbaaGreatDoor.Lg
namespace Go.Proofs.YtneojeidpfjpbaaGreatDoor.Ig
open Go.RowKit Go.Sort Ys
section
variable {F : Nat → Prop} {w : World} {p : Nat} {m1 m2 m : Option Nat} {V : List Lk.Hv} {I : Lk.It} {s : Ps}
theorem Held_is (T : Ys.St F w p m1 m2 m V I s) (hlen : V.length ≤ 1759218604441) :
  Calls Tryz.prog 10 #[sp p] w fun e w' => ∃ (U : List Lk.Hv) (a : Option Addr) (c : Nat), e = .returned (.slice a U.length c) ∧ Hid (Lk.OwnH w.heap.size w' (.slice a U.length c) U.length U) ∧ Hid (∀ u ∈ U, u.fresh w.heap.size w' ∧ u.ok w') ∧ Hid (U.map Lk.Hv.h = srt Lk.Hd.id s.H) ∧ Hid (Below w.heap.size w w') := by
 have C := hid (Lk.all_is T.tb hlen); have HN : Hid ((s.H.map Lk.Hd.id).Nodup) := by show List.Nodup _; rw [← T.h]; exact T.tb.ok.ids
 have HV : Hid (V.map Lk.Hv.h = s.H) := T.h; clear T; go_enter Tryz.func10, Tryz.ntmps10
 go_wp2_with fail
 refine C.out.mono ?_; rintro e w1 ⟨a, n, c, U, rfl, rfl, h3, h4, h5, h6, h7⟩; have HU : Hid (U.map Lk.Hv.h = srt Lk.Hd.id s.H) := srt_eq HN.out (by rw [← HV.out]; exact h5) h6; have H3 := hid h3; have H4 := hid h4; have H7 := hid h7; clear h3 h4 h5 h6 h7; go_wp2_with fail
 go_ret
 exact ⟨U, a, c, rfl, H3, H4, HU, H7⟩
theorem Entries_is (T : Ys.St F w p m1 m2 m V I s) (hlen : s.E.length ≤ 3518437208882) :
  Calls Tryz.prog 33 #[sp p] w fun e w' => ∃ (U : List Lg.En) (a : Option Addr) (c : Nat), e = .returned (.slice a U.length c) ∧ Hid (Lg.OwnL w.heap.size w' (.slice a U.length c) U.length U) ∧ Hid (U = srt Lg.En.id s.E) ∧ Hid (Below w.heap.size w w') := by
 have C := hid (Lg.entries_is T.lg hlen); have HN := hid T.lg.nodup; clear T; go_enter Tryz.func33, Tryz.ntmps33
 go_wp2_with fail
 refine C.out.mono ?_; rintro e w1 ⟨a, n, c, U, rfl, h2, h3, h4, h5, h6⟩; have e1 := h2.out; subst e1; have HU : Hid (U = srt Lg.En.id s.E) := srt_eq HN.out h4.out h5.out; clear h2 h4 h5; go_wp2_with fail
 go_ret
 exact ⟨U, a, c, rfl, h3, HU, h6⟩
theorem Versions_is (T : Ys.St F w p m1 m2 m V I s) (hlen : Vs.countM s.M ≤ 1500000) :
  Calls Tryz.prog 36 #[sp p] w fun e w' => ∃ (a : Option Addr) (c : Nat), e = .returned (.slice a (Vs.dumpM s.M).length c) ∧ Hid (Vs.OwnV w' w.heap.size (.slice a (Vs.dumpM s.M).length c) (Vs.dumpM s.M)) ∧ Hid (Below w.heap.size w w') := by
 have C := hid (Vs.dump_is T.st hlen); clear T; go_enter Tryz.func36, Tryz.ntmps36
 go_wp2_with fail
 refine C.out.mono ?_; rintro e w1 ⟨v, rfl, h2, h3⟩; obtain ⟨a, c, rfl⟩ := h2.slice; have H2 := hid h2; have H3 := hid h3; clear h2 h3; go_wp2_with fail
 go_ret
 exact ⟨a, c, rfl, H2, H3⟩
theorem St.enc {w' : World} {b o : Nat} (T : Ys.St F w p m1 m2 m V I s) (hb : w.heap.size ≤ b) {w1 : World} (h1 : Below w.heap.size w w1) (hc : Cel b o 2 w1 w') : Ys.St F w' p m1 m2 m V I s := by
 have hB : Below w.heap.size w w' := h1.trans (hc.below hb h1.size); exact T.later hB
theorem below_cel {w w1 w' : World} {b o : Nat} (h1 : Below w.heap.size w w1) (hc : Cel b o 2 w1 w') (hb : w.heap.size ≤ b) : Below w.heap.size w w' := h1.trans (hc.below hb h1.size)
theorem hv_rd {b : Nat} {w W : World} {v : Lk.Hv} (hf : v.fresh W.heap.size w) (ho : v.ok w) (hb : b < W.heap.size) (hk : okHeld v.h) : HvRd b w v := by
 have hl1 := ho.rl; have hl2 := ho.wl; refine ⟨row2_g ho.r, rowW_g ho.w, fun q off e => ?_, fun q off e => ?_, ⟨hk.1, hk.2.1⟩, by omega, by omega⟩
 ·have := (hf.r.lt q (by rw [e]; rfl)).1; omega
 ·have := (hf.w.lt q (by rw [e]; rfl)).1; omega
theorem Image_is (T : Ys.St F w p m1 m2 m V I s) (hi : ImOk s) (hl : (imgB s).length ≤ 281474976710656) :
  Calls Tryz.prog 9 #[sp p] w fun e w' => e = .returned (.string (ofNats (imgB s))) ∧ Below w.heap.size w w' := by
 obtain ⟨B0, hB0⟩ : ∃ B, B = eU s.node := ⟨_, rfl⟩; obtain ⟨B1, hB1⟩ : ∃ B, B = eU s.ceil := ⟨_, rfl⟩; obtain ⟨B2, hB2⟩ : ∃ B, B = eS s.wm := ⟨_, rfl⟩; obtain ⟨B3, hB3⟩ : ∃ B, B = eL eHeld (srt Lk.Hd.id s.H) := ⟨_, rfl⟩; obtain ⟨B4, hB4⟩ : ∃ B, B = eL eEntry (srt Lg.En.id s.E) := ⟨_, rfl⟩; obtain ⟨B5, hB5⟩ : ∃ B, B = eL eVersion (Vs.dumpM s.M) := ⟨_, rfl⟩; have hE : imgB s = B0 ++ (B1 ++ (B2 ++ (B3 ++ (B4 ++ B5)))) := by rw [hB0, hB1, hB2, hB3, hB4, hB5]; rfl
 have HE := hid hE; have HLB := hid hl; rw [hE] at hl; simp only [List.length_append] at hl; have HBS : Hid (B0 = eU s.node ∧ B1 = eU s.ceil ∧ B2 = eS s.wm ∧ B3 = eL eHeld (srt Lk.Hd.id s.H) ∧ B4 = eL eEntry (srt Lg.En.id s.E) ∧ B5 = eL eVersion (Vs.dumpM s.M)) := ⟨hB0, hB1, hB2, hB3, hB4, hB5⟩; clear hB0 hB1 hB2 hB3 hB4 hB5 hE; obtain ⟨wa, hwa⟩ : ∃ wa, wa = w.alloc (.cells #[.pointer none, .int .i64 0] 65) := ⟨_, rfl⟩; have hba : Below w.heap.size w wa := by rw [hwa]; exact Below.al (Below.refl _ _) _
 have hsz : w.heap.size < wa.heap.size := by rw [hwa]; simp
 have kx : wa.heap[w.heap.size]? = some (.cells #[.pointer none, .int .i64 0] 65 (0, 0)) := by rw [hwa]; exact World.alloc_heap_new _ _
 have H0 : Hid (EOk wa wa (fun k => k = w.heap.size) w.heap.size 0 []) := ⟨Cel.refl _ _ _ _, ⟨rfl, ⟨[], rfl, trivial, fun x hx => (by cases hx), Vs.cell_of_obj kx rfl⟩, Vs.cell_of_obj kx rfl, fun o => frozen_of_row wa w.heap.size o _ _ kx⟩, fun k hk => by rw [hk]; exact hsz⟩; have HB := hid hba; have HT := hid T; have HI := hid hi; have n0 := (T.later hba).cell (j := 0) (v := .int .u32 s.node) (fun _ => rfl); rw [hwa] at n0; clear T hi hba kx; go_enter Tryz.func9, Tryz.ntmps9
 go_wp2_with fail
 rw [← hwa]; clear hwa; refine (putNumber_is H0.out HI.out.node (by simp)).mono ?_; rintro e w1 ⟨rfl, h1⟩; have H1 : Hid (EOk wa w1 (fun k => k = w.heap.size) w.heap.size 0 B0) := by
  have := H0.out.step h1; rw [← HBS.out.1, List.nil_append] at this; exact this
 clear h1 n0; have n1 := (St.enc HT.out (Nat.le_refl _) HB.out H1.out.cel).cell (j := 1) (v := .int .u64 s.ceil) (fun _ => rfl); go_wp2_with fail
 refine (eok_var H1.out HI.out.ceil (by omega)).mono ?_; rintro e w2 ⟨rfl, h2⟩; have H2 : Hid (EOk wa w2 (fun k => k = w.heap.size) w.heap.size 0 (B0 ++ B1)) := by
  have := H1.out.step h2; rw [← HBS.out.2.1] at this; exact this
 clear h2 n1; have T2 := hid (St.enc HT.out (Nat.le_refl _) HB.out H2.out.cel); go_wp2_with fail
 refine (Watermark_is T2.out).mono ?_; rintro e w3 ⟨rfl, h3⟩; have H3 := hid (H2.out.later h3); clear h3; go_wp2_with fail
 refine (eok_stamp H3.out HI.out.wm (by simp only [List.length_append]; omega)).mono ?_; rintro e w4 ⟨rfl, h4⟩; have H4 : Hid (EOk wa w4 (fun k => k = w.heap.size) w.heap.size 0 (B0 ++ B1 ++ B2)) := by
  have := H3.out.step h4; rw [← HBS.out.2.2.1] at this; exact this
 clear h4; have T4 := hid (St.enc HT.out (Nat.le_refl _) HB.out H4.out.cel); have hVl : V.length ≤ 1759218604441 := by
  have h1 := congrArg List.length HT.out.h; have h2 := HI.out.hn; rw [List.length_map] at h1; omega
 go_wp2_with fail
 refine (Held_is T4.out hVl).mono ?_; rintro e w5 ⟨U, a5, c5, rfl, O5, F5, U5, B5'⟩; have H5 := hid (H4.out.later B5'.out); have hs4 := H4.out.lt; have HU5 : Hid (∀ x ∈ U, HvRd w.heap.size w5 x) := fun x hx => hv_rd (F5.out x hx).1 (F5.out x hx).2 hs4 (HI.out.H _ (by
  have h9 : x.h ∈ U.map Lk.Hv.h := List.mem_map.2 ⟨x, hx, rfl⟩; rw [U5.out] at h9; exact srt_mem.1 h9))
 have HUE : Hid (eL eHv U = B3) := by
  show _ = _
  rw [HBS.out.2.2.2.1, ← U5.out]; unfold eL; rw [List.length_map, List.flatMap_map]; rfl
 have hUl : U.length ≤ 4611686018427387904 := by
  have h1 := congrArg List.length U5.out; have h2 := HI.out.hn; rw [List.length_map, srt_len] at h1; omega
 go_wp2_with fail
 refine (putHelds_is H5.out (RowG.of_own Lk.hcs_len (by decide) O5.out) (fun q off e => by have := (O5.out.lt q (by rw [e]; rfl)).1; omega) HU5.out (by rw [HUE.out]; simp only [List.length_append]; omega) hUl).mono ?_; rintro e w6 ⟨rfl, h6⟩; have H6 : Hid (EOk wa w6 (fun k => k = w.heap.size) w.heap.size 0 (B0 ++ B1 ++ B2 ++ B3)) := by
  have := H5.out.step h6; rw [HUE.out] at this; exact this
 clear h6 HU5 HUE hUl F5 O5 U5 B5' hVl; have T6 := hid (St.enc HT.out (Nat.le_refl _) HB.out H6.out.cel); go_wp2_with fail
 refine (Entries_is T6.out (by have := HI.out.en; omega)).mono ?_; rintro e w7 ⟨U7, a7, c7, rfl, O7, E7, B7⟩; have H7 := hid (H6.out.later B7.out); have hs6 := H6.out.lt; have HUE : Hid (eL eEntry U7 = B4) := by rw [E7.out, HBS.out.2.2.2.2.1]; exact hid rfl
 have hUl : U7.length ≤ 4611686018427387904 := by rw [E7.out, srt_len]; have := HI.out.en; omega
 have HUO : Hid (∀ x ∈ U7, okTxn (x.id, x.home) ∧ okS (atEn x)) := fun x hx => by
  have h9 := HI.out.E x (by rw [E7.out] at hx; exact srt_mem.1 hx); exact ⟨h9.1, h9.2.2⟩
 go_wp2_with fail
 refine (putEntries_is H7.out (RowG.of_own Lg.ecs_len (by decide) O7.out) (fun q off e => by have := (O7.out.lt q (by rw [e]; rfl)).1; omega) HUO.out (by rw [HUE.out]; simp only [List.length_append]; omega) hUl).mono ?_; rintro e w8 ⟨rfl, h8⟩; have H8 : Hid (EOk wa w8 (fun k => k = w.heap.size) w.heap.size 0 (B0 ++ B1 ++ B2 ++ B3 ++ B4)) := by
  have := H7.out.step h8; rw [HUE.out] at this; exact this
 clear h8 HUO HUE hUl O7 E7 B7; have T8 := hid (St.enc HT.out (Nat.le_refl _) HB.out H8.out.cel); go_wp2_with fail
 refine (Versions_is T8.out HI.out.dn).mono ?_; rintro e w9 ⟨a9, c9, rfl, O9, B9⟩; have H9 := hid (H8.out.later B9.out); have hs8 := H8.out.lt; have hUl : (Vs.dumpM s.M).length ≤ 4611686018427387904 := by rw [Vs.dump_len]; have := HI.out.dn; omega
 have HUO : Hid (∀ x ∈ Vs.dumpM s.M, okS x.2.s) := fun x hx => (HI.out.D x hx).2.1
 have HUE : Hid (eL eVersion (Vs.dumpM s.M) = B5) := HBS.out.2.2.2.2.2.symm; go_wp2_with fail
 refine (putVersions_is H9.out (RowG.of_own (enc := c6) (fun x => rfl) (by decide) O9.out) (fun q off e => by have := (O9.out.lt q (by rw [e]; rfl)).1; omega) HUO.out (by rw [HUE.out]; simp only [List.length_append]; omega) hUl).mono ?_; rintro e w10 ⟨rfl, h10⟩; have H10 : Hid (EOk wa w10 (fun k => k = w.heap.size) w.heap.size 0 (imgB s)) := by
  have := H9.out.step h10; rw [HUE.out] at this; show EOk _ _ _ _ _ _
  rw [HE.out]; simp only [List.append_assoc] at this; exact this
 clear h10 HUO HUE hUl O9 B9; go_wp2_with fail
 refine (bytes_of H10.out.enc HLB.out).mono ?_; rintro e w11 ⟨rfl, h11⟩; have HF := hid (Below.on (below_cel HB.out H10.out.cel (Nat.le_refl _)) h11); clear h11; go_wp2_with fail
 go_ret
 exact ⟨rfl, HF.out⟩
end
structure RgL (w : World) (r : Rg) : Prop where
 ok : r.ok w
 rg : RgR r
 rx : RgX r
 rl : r.rs.length + 1 ≤ 8796093022208
 wl : r.ws.length + 1 ≤ 7036874417766
theorem RgL.later {w w' : World} {r : Rg} (h : RgL w r) (hb : Below w.heap.size w w') : RgL w' r := ⟨h.ok.later hb, h.rg, h.rx, h.rl, h.wl⟩
def RowL (w : World) (a : Option Addr) (rs : List Rg) : Prop := ∀ i r, rs[i]? = some r → (∃ b off, a = some ⟨b, off, none⟩ ∧ BoxO w b (off + i * 12) r) ∧ RgL w r
theorem RowL.later {w w' : World} {a : Option Addr} {rs : List Rg} (h : RowL w a rs) (hb : Below w.heap.size w w') : RowL w' a rs := fun i r hr => by
 obtain ⟨⟨b, off, e, hx⟩, h2⟩ := h i r hr; exact ⟨⟨b, off, e, hx.later hb⟩, h2.later hb⟩
theorem Eqv.ax {s t : Ps} (h : Eqv s t) (r : Rg) : axE t r = axE s r ∧ Eqv (axS s r) (axS t r) := by
 unfold axE axS; split
 ·exact ⟨rfl, h⟩
 ·exact h.ap r
section
variable {wx w w' : World} {p q : Nat} {n : Int} {k : Nat} {s t : Ps}
theorem run_cnt (h : Run n k s) (hk : k ≤ 93000) : Vs.countM s.M ≤ 268435456 := by have := h.cnt; omega
theorem sta_image {B : Nat} (h : Sta B w p s) (hi : ImOk s) (hl : (imgB s).length ≤ 1099511627776) : Calls Tryz.prog 9 #[sp p] w fun e w' => e = .returned (.string (ofNats (imgB s))) ∧ Below w.heap.size w w' := by
 obtain ⟨F, m1, m2, m, V, I, T, _⟩ := h; exact Image_is T hi (by omega)
end
end Go.Proofs.YtneojeidpfjpbaaGreatDoor.Ig
namespace Go.Proofs.YtneojeidpfjpbaaGreatDoor.Lk
open Go.RowKit Go.Sort
def nthH (U : List Hv) (i : Nat) : Hv := (U[i]?).getD Hv.zero
theorem ownH_at {B n : Nat} {w : World} {a : Option Addr} {c : Nat} {U : List Hv} (h : OwnH B w (.slice a n c) n U) (hn : U.length = n) {i : Nat} (hi : i < n) :
  ∃ g, a = some ⟨g, 0, none⟩ ∧ ∀ o v, (hcs (nthH U i))[o]? = some v → w.cell? ⟨g, i * 8 + o, none⟩ = some v := by
 obtain ⟨g, rfl, _, hc⟩ := own_cells h (by omega); letI : Inhabited Hv := ⟨Hv.zero⟩
 refine ⟨g, rfl, fun o v ho => hc _ _ ?_⟩; have hol : o < 8 := by have := (List.getElem?_eq_some_iff.1 ho).1; simpa using this
 rw [fm_get (k := 8) hcs_len U i o (by omega) hol, ← ho]; have : U[i]! = nthH U i := by simp [nthH, getElem!_pos, show i < U.length by omega]
 rw [this]
structure RowH (B : Nat) (w : World) (a : Option Addr) (n c : Nat) (U : List Hv) : Prop where
 own : OwnH B w (.slice a n c) n U
 len : U.length = n
 ok : ∀ u ∈ U, u.ok w
theorem RowH.later {B : Nat} {w w' : World} {a : Option Addr} {n c : Nat} {U : List Hv} (h : RowH B w a n c U) (hb : Below w.heap.size w w') : RowH B w' a n c U :=
 ⟨owns_keep h.own fun g hg => hb.block g (h.own.lt g hg).2, h.len, fun u hu => (h.ok u hu).later hb⟩
theorem nthH_mem {U : List Hv} {i : Nat} (h : i < U.length) : nthH U i ∈ U := by
 have : nthH U i = U[i] := by simp [nthH, h]
 rw [this]; exact List.getElem_mem h
theorem nthH_ext {U V : List Hv} (hl : U.length = V.length) (h : ∀ j, j < U.length → (nthH U j).h = (nthH V j).h) : U.map Hv.h = V.map Hv.h := by
 apply List.ext_getElem (by simpa using hl)
 intro j h1 h2; have h1' : j < U.length := by simpa using h1
 have h2' : j < V.length := by simpa using h2
 have := h j h1'; simpa [nthH, h1', h2'] using this
end Go.Proofs.YtneojeidpfjpbaaGreatDoor.Lk
namespace Go.Proofs.YtneojeidpfjpbaaGreatDoor
open Go.RowKit Go.Sort
theorem run_append_keep {P : Program} (w : World) (base : Nat) (t ty e : TypeId) (i : TypeInfo) (z : Value) (size bytes : Nat) (ht : P.underlying t = some (.slice e)) (hi : P.info? e = some i) (hz : i.zero = some z)
  (hsize : i.size = size) (hby : i.bytes = bytes) (hzs : z.cells.size = size) (hsz : 0 < size) (v : Value) (n : Nat) (xs : List Value) (hown : w.ownsRow base e size v n xs)
  (a : Addr) (m c : Nat) (news : List Value) (hl : news.length = m * size) (hnews : ∀ j u, news[j]? = some u → w.cell? (a.add j) = some u) (h1 : ∀ u ∈ news, u.oneCell' = true)
  (h63 : n + m ≤ maxLen) (hbytes : (n + m) * bytes ≤ 140737488355328) (hbase : base ≤ w.heap.size) (hm : 0 < m) :
  ∃ v' w', (Builtin.append_ #[t, t] ty #[v, .slice (some a) m c]).run P w = .ok v' w' ∧ w'.ownsRow base e size v' (n + m) (xs ++ news) ∧ w.grownBy w' v.ownBlock ∧ w'.ownsRow base e size v n xs ∧
   (v'.ownBlock = v.ownBlock ∨ ∃ k, v'.ownBlock = some k ∧ w.heap.size ≤ k) := by
 obtain ⟨v', w', hr, ho, hg, _⟩ := run_append_own (P := P) w base t ty e i z size bytes ht hi hz hsize hby hzs hsz v n xs hown a m c news hl hnews h1 h63 hbytes hbase; refine ⟨v', w', hr, ho, hg, ?_⟩; have hsmall : n + m ≤ 9223372036854775807 := by simp only [maxLen] at h63; omega
 subst hsize; subst hby; rcases hown.2 with ⟨rfl, rfl⟩ | ⟨g, cap, cur, rfl, hbg, hgg, hnc, hcm, hcs, htake⟩
 ·have hx : xs = [] := List.eq_nil_of_length_eq_zero (by simpa using hown.1); subst hx; refine ⟨World.ownsRow_nil _ _ _ _, .inr ?_⟩; have h2 := run_append_nil (P := P) w t ty e i z ht hi hz a m c news hl hnews hm (by omega) (by have hb := hbytes; simp only [Nat.zero_add] at hb; omega); rw [hr] at h2; injection h2 with h2 _
  exact ⟨w.heap.size, by rw [h2]; rfl, Nat.le_refl _⟩
 ·by_cases hroom : n + m ≤ cap
  ·have hfit : n * i.size + news.length ≤ cur.size := by rw [hl, hcs, ← Nat.add_mul]; exact Nat.mul_le_mul_right _ hroom
   have h2 := run_append_room (P := P) w t ty e i ht hi g n cap cur hgg a m c news hl hnews h1 hroom hfit; rw [hr] at h2; injection h2 with h2 h3
   subst h2; subst h3; refine ⟨⟨hown.1, .inr ⟨g, cap, _, rfl, hbg, setRow_heap w g cur _ e _ hgg, hnc, hcm, ?_, ?_⟩⟩, .inl rfl⟩
   ·simp only [List.size_toArray, List.length_append, List.length_take, List.length_drop, Array.length_toList]; omega
   ·rw [htake, List.append_assoc]; conv => lhs; arg 1; rw [← hown.1]
    exact List.take_left
  ·have holds : ∀ j u, xs[j]? = some u → w.cell? ((⟨g, 0, none⟩ : Addr).add j) = some u := hown.cells (g := g) rfl; have h2 := run_append_grow (P := P) w t ty e i z ht hi hz ⟨g, 0, none⟩ n cap xs hown.1 holds a m c news hl hnews (by omega) (by omega) (growslice_fits (by omega) hbytes); rw [hr] at h2; injection h2 with h2 h3
   subst h2; subst h3; refine ⟨⟨hown.1, .inr ⟨g, cap, cur, rfl, hbg, ?_, hnc, hcm, hcs, htake⟩⟩, .inr ⟨w.heap.size, rfl, Nat.le_refl _⟩⟩; exact (heap_alloc_old w.drew _ (Array.getElem?_eq_some_iff.1 hgg).1).trans hgg
theorem wpList_append_keep {P : Program} (w : World) {ops : Array Oper} {rest : List Oper} {o : Oper} {a : Act} {Q : Exit → Act → World → Prop} (hgd : o.guard = none) (s x : Operand) (t : TypeId)
  (ho : o.op = .call { callee := .builtin .append, args := #[s, x], argTypes := #[t, t] })
  (base : Nat) (e : TypeId) (i : TypeInfo) (z : Value) (size bytes : Nat) (ht : P.underlying t = some (.slice e)) (hi : P.info? e = some i) (hz : i.zero = some z)
  (hsize : i.size = size) (hby : i.bytes = bytes) (hzs : z.cells.size = size) (hsz : 0 < size)
  (v : Value) (n : Nat) (xs : List Value) (hs : a.eval s = v) (hown : w.ownsRow base e size v n xs)
  (ad : Addr) (m c : Nat) (news : List Value) (hx : a.eval x = .slice (some ad) m c) (hl : news.length = m * size) (hnews : ∀ j u, news[j]? = some u → w.cell? (ad.add j) = some u) (h1 : ∀ u ∈ news, u.oneCell' = true)
  (h63 : n + m ≤ maxLen) (hbytes : (n + m) * bytes ≤ 140737488355328) (hbase : base ≤ w.heap.size) (hm : 0 < m)
  (h : ∀ v' w', w'.ownsRow base e size v' (n + m) (xs ++ news) → w.grownBy w' v.ownBlock → w'.ownsRow base e size v n xs → (v'.ownBlock = v.ownBlock ∨ ∃ k, v'.ownBlock = some k ∧ w.heap.size ≤ k) → wpList P ops Q rest (a.put o.dst v') w') : wpList P ops Q (o :: rest) a w := by
 obtain ⟨v', w', hr, h2, h3, h4, h5⟩ := run_append_keep (P := P) w base t o.type e i z size bytes ht hi hz hsize hby hzs hsz v n xs hown ad m c news hl hnews h1 h63 hbytes hbase hm; refine wpList_plain hgd fun _ hK => ?_
 unfold Oper.wp execOp; simp only [ho, resolve, invoke, builtin, Sem.run_bind, Sem.run_pure, Result.andThen_ok, List.map_toArray, List.map_cons, List.map_nil, hs, hx, hr]; exact hK _ _ (h v' w' h2 h3 h4 h5)
theorem owns_head {w w' : World} {B e size n m : Nat} {v vk : Value} {xs ys : List Value} (hs : 0 < size) (h0 : w.ownsRow B e size v n xs) (hk : w.ownsRow B e size vk (n + m) (xs ++ ys)) (hk' : w'.ownsRow B e size vk (n + m) (xs ++ ys)) (he : vk.ownBlock = v.ownBlock) : w'.ownsRow B e size v n xs := by
 refine ⟨h0.1, ?_⟩; rcases h0.2 with hn | ⟨g, cap, cur, rfl, hb, hg, hnc, hcm, hcs, ht⟩
 ·exact .inl hn
 rcases hk.2 with ⟨rfl, _⟩ | ⟨g1, cap1, cur1, rfl, hb1, hg1, hnc1, hcm1, hcs1, ht1⟩
 ·simp [Value.ownBlock] at he
 have e1 : g1 = g := by simpa [Value.ownBlock] using he
 subst e1; rw [hg] at hg1; injection hg1 with hg1
 injection hg1 with hg1 _ _
 subst hg1; have ec : cap1 = cap := Nat.eq_of_mul_eq_mul_right hs (hcs1.symm.trans hcs); subst ec; rcases hk'.2 with ⟨h, _⟩ | ⟨g2, cap2, cur2, h2, hb2, hg2, hnc2, hcm2, hcs2, ht2⟩
 ·cases h
 injection h2 with h2 _ h3
 injection h2 with h2
 injection h2 with h2 _ _
 subst h2; subst h3; refine .inr ⟨g1, cap1, cur2, rfl, hb, hg2, hnc, hcm, hcs2, ?_⟩; have h4 := congrArg (List.take (n * size)) ht2; rw [List.take_take, Nat.min_eq_left (Nat.mul_le_mul_right _ (Nat.le_add_right _ _))] at h4; rw [h4, ← h0.1]; exact List.take_left
end Go.Proofs.YtneojeidpfjpbaaGreatDoor
namespace Go.Proofs.YtneojeidpfjpbaaGreatDoor.Fam
open Go.RowKit
def Ap (v u : Value) : Prop := v.ownBlock = none ∨ v.ownBlock ≠ u.ownBlock
def Near (w : World) (v v' : Value) : Prop := v'.ownBlock = v.ownBlock ∨ ∃ k, v'.ownBlock = some k ∧ w.heap.size ≤ k
theorem grow_trans {w w' w'' : World} {row row' : Option Nat} (h : w.grownBy w' row) (h' : w'.grownBy w'' row') (hr : row' = row ∨ ∀ k, row' = some k → w.heap.size ≤ k) : w.grownBy w'' row :=
 ⟨h'.os.trans h.os, h'.tape.trans h.tape, h'.output.trans h.output, Nat.le_trans h.size h'.size, fun k hk hn => by
  rw [h'.block k (Nat.lt_of_lt_of_le hk h.size) (fun e => by
   rcases hr with e2 | e2
   ·exact hn (e.trans e2)
   ·have := e2 k e.symm; omega), h.block k hk hn]⟩
theorem row_type {w : World} {B n size : Nat} {e : TypeId} {v : Value} {xs : List Value} (h : w.ownsRow B e size v n xs) {g : Nat} (hg : v.ownBlock = some g) : ∃ cur, w.heap[g]? = some (.cells cur e (0, 0)) := by
 obtain ⟨_, ⟨e1, _⟩ | ⟨g', cap, cur, e1, _, hh, _⟩⟩ := h
 ·subst e1; simp [Value.ownBlock] at hg
 ·subst e1; simp [Value.ownBlock] at hg; subst hg; exact ⟨cur, hh⟩
theorem Ap.types {w : World} {B B' n n' size size' : Nat} {e e' : TypeId} {v v' : Value} {xs xs' : List Value} (h : w.ownsRow B e size v n xs) (h' : w.ownsRow B' e' size' v' n' xs') (hne : e ≠ e') : Ap v v' := by
 by_cases h0 : v.ownBlock = none
 ·exact .inl h0
 ·refine .inr fun k => ?_
  obtain ⟨g, hg⟩ := Option.ne_none_iff_exists'.1 h0; obtain ⟨c1, e1⟩ := row_type h hg; obtain ⟨c2, e2⟩ := row_type h' (k.symm.trans hg); rw [e1] at e2; injection e2 with e2
  injection e2 with _ e2
  exact hne e2
theorem row_later {w w' : World} {B n size : Nat} {e : TypeId} {v : Value} {xs : List Value} (h : w.ownsRow B e size v n xs) (hb : Below w.heap.size w w') : w'.ownsRow B e size v n xs := by
 obtain ⟨h1, h2 | ⟨g, cap, cur, e1, hB, hg, h3⟩⟩ := h
 ·exact ⟨h1, .inl h2⟩
 ·exact ⟨h1, .inr ⟨g, cap, cur, e1, hB, (hb.block g (Array.getElem?_eq_some_iff.1 hg).1).trans hg, h3⟩⟩
theorem row_block {w : World} {B n size : Nat} {e : TypeId} {v : Value} {xs : List Value} (h : w.ownsRow B e size v n xs) (h0 : 0 < n) : ∃ g c, v = .slice (some ⟨g, 0, none⟩) n c ∧ n ≤ c := by
 obtain ⟨_, ⟨_, e2⟩ | ⟨g, cap, cur, e1, _, _, hc, _⟩⟩ := h
 ·omega
 ·exact ⟨g, cap, e1, hc⟩
theorem row_slice {w : World} {B n size : Nat} {e : TypeId} {v : Value} {xs : List Value} (h : w.ownsRow B e size v n xs) : ∃ a c, v = .slice a n c ∧ n ≤ c := by
 obtain ⟨_, ⟨e1, e2⟩ | ⟨g, cap, cur, e1, _, _, hc, _⟩⟩ := h
 ·exact ⟨none, 0, by rw [e1, e2], by omega⟩
 ·exact ⟨_, cap, e1, hc⟩
structure Fm (e : TypeId) (size : Nat) (B : Nat) (w : World) (n : Nat) (rv : Nat → Value) (ln : Nat → Nat) (xs : Nat → List Value) : Prop where
 own : ∀ i, i < n → w.ownsRow B e size (rv i) (ln i) (xs i)
 ap : ∀ i j, i < n → j < n → i ≠ j → Ap (rv i) (rv j)
def up {α : Type} (f : Nat → α) (i : Nat) (x : α) : Nat → α := fun j => if j = i then x else f j
theorem up_same {α : Type} (f : Nat → α) (i : Nat) (x : α) : up f i x i = x := by simp [up]
theorem up_other {α : Type} (f : Nat → α) {i j : Nat} (x : α) (h : j ≠ i) : up f i x j = f j := by simp [up, h]
section
variable {e e' : TypeId} {size size' : Nat} {w w' : World} {B B' : Nat} {n m : Nat} {rv : Nat → Value} {ln : Nat → Nat} {xs : Nat → List Value}
theorem Fm.later (h : Fm e size B w n rv ln xs) (hb : Below w.heap.size w w') : Fm e size B w' n rv ln xs := ⟨fun i hi => row_later (h.own i hi) hb, h.ap⟩
theorem Fm.kept {row : Option Nat} (h : Fm e size B w n rv ln xs) (hg : w.grownBy w' row) (hr : ∀ i, i < n → (rv i).ownBlock = none ∨ (rv i).ownBlock ≠ row) : Fm e size B w' n rv ln xs :=
 ⟨fun i hi => World.ownsRow.kept (h.own i hi) hg (hr i hi), h.ap⟩
theorem Fm.other {v : Value} {k : Nat} {zs : List Value} (h : Fm e size B w n rv ln xs) (hv : w.ownsRow B' e' size' v k zs) (hne : e ≠ e') (hg : w.grownBy w' v.ownBlock) : Fm e size B w' n rv ln xs :=
 h.kept hg fun i hi => Ap.types (h.own i hi) hv hne
theorem Fm.one (h : Fm e size B w n rv ln xs) {i : Nat} (hi : i < n) {zs : List Value} (hg : w.grownBy w' (rv i).ownBlock) (ho : w'.ownsRow B e size (rv i) (ln i) zs) : Fm e size B w' n rv ln (up xs i zs) :=
 ⟨fun j hj => by
  by_cases hji : j = i
  ·subst hji; rw [up_same]; exact ho
  ·rw [up_other _ _ hji]; exact World.ownsRow.kept (h.own j hj) hg (h.ap j i hj hi hji), h.ap⟩
end
end Go.Proofs.YtneojeidpfjpbaaGreatDoor.Fam
