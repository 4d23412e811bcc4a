import Derived.Test.YtofpaldolcnmiaaGreatB34
import Derived.Test.YtofpaldolcnmiaaGreatB30
set_option linter.unusedVariables false
set_option maxHeartbeats 4000000
namespace Go.Proofs.YtofpaldolcnmiaaGreat
namespace Lk
open Go.RowKit Go.Sort Go.Shelf Go.Lib
theorem hcs_len (v : Hv) : (hcs v).length = 8 := rfl
theorem hcs_one (v : Hv) : ∀ x ∈ hcs v, x.oneCell' = true := by
 intro x hx; simp [hcs] at hx; rcases hx with rfl | rfl | rfl | rfl | rfl | rfl | rfl | rfl <;> rfl
def OwnH (B : Nat) (w : World) (s : Value) (n : Nat) (U : List Hv) : Prop := w.ownsRow B 100 8 s n (U.flatMap hcs)
theorem infoHd : (Tryz.prog.info? 100).map (fun i => (i.zero, i.size, i.bytes)) = some (some (Hv.val Hv.zero), 8, 80) := by kernel_rfl
theorem own_apart {w : World} {B B' n n' size size' : Nat} {e e' : TypeId} {v v' : Value} {xs xs' : List Value} (h : w.ownsRow B e size v n xs) (h' : w.ownsRow B' e' size' v' n' xs') (hne : e ≠ e') {g : Nat} (hg : v.ownBlock = some g) : v'.ownBlock ≠ some g := fun hg' => by
 obtain ⟨c1, e1⟩ := own_type h hg; obtain ⟨c2, e2⟩ := own_type h' hg'; rw [e1] at e2; injection e2 with e2
 injection e2 with _ e2
 exact hne e2
theorem Hv.fresh.grown {B B' n : Nat} {w w' : World} {s : Value} {U : List Hv} {v : Hv} (h : v.fresh B w) (ho : OwnH B' w s n U) (hg : w.grownBy w' s.ownBlock) : v.fresh B w' :=
 ⟨owk h.r fun g e => hg.block g (h.r.lt g e).2 (fun k => own_apart h.r ho (by decide) e k.symm), owk h.w fun g e => hg.block g (h.w.lt g e).2 (fun k => own_apart h.w ho (by decide) e k.symm)⟩
theorem Hv.fresh.onl {B : Nat} {w w' : World} {F : Nat → Prop} {v : Hv} (h : v.fresh B w) (ho : Onl F w w') (hF : ∀ g, F g → ∃ cur, w.heap[g]? = some (.cells cur 100 (0, 0))) : v.fresh B w' := by
 refine ⟨owk h.r fun g e => ho.block g (h.r.lt g e).2 (fun k => ?_), owk h.w fun g e => ho.block g (h.w.lt g e).2 (fun k => ?_)⟩
 ·obtain ⟨c1, e1⟩ := own_type h.r e; obtain ⟨c2, e2⟩ := hF g k; rw [e1] at e2; injection e2 with e2; injection e2 with _ e2; revert e2; decide
 ·obtain ⟨c1, e1⟩ := own_type h.w e; obtain ⟨c2, e2⟩ := hF g k; rw [e1] at e2; injection e2 with e2; injection e2 with _ e2; revert e2; decide
theorem sortH_is {w : World} {B n : Nat} {a : Option Addr} {c : Nat} {U : List Hv} (h : OwnH B w (.slice a n c) n U) (hn : U.length = n) (hl : n < 4611686018427387904) :
  Calls Tryz.prog 117 #[.slice a n c, .func (.func 118) #[] #[]] w fun e w' => e = .returned (.tuple #[]) ∧
   ∃ U', U'.Perm U ∧ U'.Pairwise (fun x y => ltI y.h.id x.h.id = false) ∧ OwnH B w' (.slice a n c) n U' ∧ Onl (fun b => (Value.slice a n c).ownBlock = some b) w w' := by
 by_cases h0 : n = 0
 ·letI : Inhabited Hv := ⟨Hv.zero⟩
  subst h0; have e : U = [] := List.eq_nil_of_length_eq_zero hn; subst e; have hcon := AnyF.slices_SortFunc_none { Tryz.sortH with } a c (.func (.func 118) #[] #[]) w; change Calls Tryz.prog 117 _ _ _ at hcon
  refine hcon.mono ?_; rintro e w' ⟨rfl, rfl⟩; exact ⟨rfl, [], List.Perm.refl _, by simp, h, Onl.refl _ _⟩
 ·letI : Inhabited Hv := ⟨Hv.zero⟩
  obtain ⟨g, rfl, _, _⟩ := own_cells h (by omega); have hlt : g < w.heap.size := (h.lt g rfl).2; have eg : ∀ args w, (callFunc 118 args).run Tryz.prog w = .ok (.enter 118 args) w := enters_of Tryz.func118 (by kernel_rfl) rfl; have hcmp : CmpLays Tryz.prog 118 #[] hcs 8 (fun x y => cmpI x.h.id y.h.id) g 0 U.toArray.size w := fun _ _ _ _ x y => all1_is x y _
  have hcon := AnyQ.slices_SortFunc Tryz.sortH 8 Tryz.isAgg100 Tryz.sizeOf100 hcs hcs_len hcs_one (fun x y : Hv => cmpI x.h.id y.h.id) (swo_of fun x : Hv => x.h.id) 118 #[] g 0 c U.toArray w eg hcmp (holds_row hcs_len (by decide) h) hlt (by simpa [hn] using hl); change Calls Tryz.prog 117 _ _ _ at hcon
  simp only [List.size_toArray, hn] at hcon; refine hcon.mono ?_; rintro e w' ⟨rfl, d', m, os, hp, hs, rfl⟩; have hp' : PermIn 0 U.toArray.size U.toArray d' := by simpa [hn] using hp
  have hsz : d'.size = U.toArray.size := hp'.1; have hs' : SortedIn (ltOf fun x y : Hv => cmpI x.h.id y.h.id) 0 d'.size d' := by rw [hsz]; simpa [hn] using hs
  have hpm := perm_of hp'; have hso := sorted_of hs'; obtain ⟨h1, h2⟩ := sorted_row (ys := d'.toList) hcs_len (by decide) h (by simpa using hsz) m os; refine ⟨rfl, d'.toList, by simpa using hpm, ?_, by unfold OwnH; simpa using h1, ?_⟩
  ·refine hso.imp fun {x y} hxy => ?_
   rw [← cmp_lt]; exact hxy
  ·refine Onl.mono (by simpa using h2) (fun b hb => by rw [hb]; rfl)
theorem iter_ne {m : Option Nat} {r : Nat} {w : World} {ps todo : List (Ix × Hv)} (h : RngO ixv Hv.val w m r ps todo) {g : Nat} {t : TypeId} (hg : ∃ cur, w.heap[g]? = some (.cells cur t (0, 0))) : ¬ g = r := by
 rintro rfl; obtain ⟨cur, hc⟩ := hg; cases m with
 | none => have := h.2.2; rw [hc] at this; cases this
 | some b =>
  obtain ⟨es, clock, since, seen, c0, _, _, _, _, hr, _⟩ := h.at; rw [hc] at hr; cases hr
theorem allF_is {w : World} {p oo : Nat} {ty : TypeId} {m1 m2 : Option Nat} {V : List Hv} {I : It} (T : TbO w p oo ty m1 m2 V I) (hlen : V.length ≤ 1759218604441) :
  Calls Tryz.prog 57 #[.pointer (some ⟨p, oo, none⟩)] w fun e w' => ∃ (a : Option Addr) (n c : Nat) (U : List Hv), e = .returned (.slice a n c) ∧ U.length = n ∧ OwnH w.heap.size w' (.slice a n c) n U ∧ (∀ u ∈ U, u.fresh w.heap.size w' ∧ u.ok w') ∧ U.Pairwise Hv.far ∧
   (U.map Hv.h).Perm (V.map Hv.h) ∧ (U.map Hv.h).Pairwise (fun x y => ltI y.id x.id = false) ∧ Below w.heap.size w w' := by
 have c0 := T.c0; obtain ⟨o, hr, R0⟩ := T.held.range (P := Tryz.prog) Tryz.underlying80; obtain ⟨i0, hi, hz0, hz1, hz2⟩ := info_of infoHd; have RR := hid R0; have HT := hid T; clear T R0; go_enter Tryz.func57, Tryz.ntmps57
 go_wp2_with fail
 go_loopg [3, 11] V.length (fun g s3 s11 wr => ∃ (todo : List (Ix × Hv)) (U : List Hv) (a : Option Addr) (n c : Nat), g = todo.length ∧ s3 = .slice a n c ∧ Hid (U.length = n) ∧ Hid (OwnH w.heap.size wr (.slice a n c) n U) ∧ Hid (∀ u ∈ U, u.fresh w.heap.size wr ∧ u.h.rs.length + 1 ≤ 4398046511104 ∧ u.h.ws.length + 1 ≤ 3518437208883) ∧
  Hid (U.Pairwise Hv.far) ∧ Hid ((U.map Hv.h ++ todo.map fun q => q.2.h).Perm (V.map Hv.h)) ∧ Hid (RngO ixv Hv.val wr m1 w.heap.size (prs V) todo) ∧ Hid (Below w.heap.size w wr))
 case atStart =>
  refine ⟨prs V, [], none, 0, 0, by simp, rfl, rfl, ⟨rfl, .inl ⟨rfl, rfl⟩⟩, fun u hu => by simp at hu, List.Pairwise.nil, ?_, RR, Below.al (Below.refl _ _) _⟩; show List.Perm _ _
  simp [prs, List.map_map, Function.comp_def]
 case round =>
  obtain ⟨todo, U, a, n, c, rfl, rfl, HN, HO, HF, HFA, HP, HG, HB⟩ := hrel; clear hr c0 RR; rcases HG.out.next Tryz.prog with ⟨rfl, hn⟩ | ⟨⟨j, v⟩, todo', w1, hpm, hpI, hn, R1, hen, hon, hsz⟩
  ·have hnl : n < 4611686018427387904 := by
    have h1 := HP.out.length_eq; have h2 := HN.out; simp at h1; omega
   have SO := hid (sortH_is HO.out HN.out hnl); have HBR := HB; go_wp2_with fail
   refine SO.out.mono ?_; rintro e w2 ⟨rfl, U', hpU, hsU, hoU, honl⟩; have hB2 : Below w.heap.size w w2 := HB.out.trans (honl.below (B := w.heap.size) (fun b hb => (HO.out.lt b hb).1) HB.out.size); have hfr : ∀ u ∈ U', u.fresh w.heap.size w2 ∧ u.ok w2 := fun u hu => by
    obtain ⟨f1, f2, f3⟩ := HF.out u (hpU.mem_iff.1 hu); have := f1.onl honl (fun g hg => own_type HO.out hg); exact ⟨this, this.ok f2 f3⟩
   have HFin : Hid (U'.length = n ∧ OwnH w.heap.size w2 (.slice a n c) n U' ∧ (∀ u ∈ U', u.fresh w.heap.size w2 ∧ u.ok w2) ∧ U'.Pairwise Hv.far ∧ (U'.map Hv.h).Perm (V.map Hv.h) ∧ (U'.map Hv.h).Pairwise (fun x y => ltI y.id x.id = false) ∧ Below w.heap.size w w2) := by
    refine ⟨by rw [hpU.length_eq]; exact HN.out, hoU, hfr, (hpU.pairwise_iff (fun {x y} h => Hv.far.symm h)).2 HFA.out, (hpU.map _).trans (by simpa using HP.out), ?_, hB2⟩; rw [List.pairwise_map]; exact hsU
   clear hpU hsU hoU honl hB2 hfr; go_wp2_with fail
   go_ret
   exact ⟨a, n, c, U', rfl, HFin.out⟩
  ·obtain ⟨v', hv', ev'⟩ := List.mem_map.1 hpI; injection ev' with ev1 ev2
   subst ev2; subst ev1; have hb1 : Below w.heap.size w w1 := (HB.out.trans (hon.below (B := w.heap.size) (fun k hk => by omega) (HB.out.size))); have hvo : v'.ok w1 := (HT.out.rows v' hv').later hb1; have hO1 : OwnH w.heap.size w1 (.slice a n c) n U := owk HO.out fun g hg => hon.block g (HO.out.lt g hg).2 (iter_ne HG.out (own_type HO.out hg))
   have hpl : todo'.length + 1 = todo.length := by have := hpm.length_eq; simpa using this.symm
   have hnb : n + 1 ≤ 1759218604441 := by
    have h1 := HP.out.length_eq; have h2 := HN.out; simp at h1; omega
   have HPM := hid hpm; have HR1 := hid R1; have HB1 := hid hb1; have HV := hid hvo; have HO1 := hid hO1; have HF1 : Hid (∀ u ∈ U, u.fresh w.heap.size w1 ∧ u.h.rs.length + 1 ≤ 4398046511104 ∧ u.h.ws.length + 1 ≤ 3518437208883) := fun u hu => by
    obtain ⟨f1, f2⟩ := HF.out u hu; refine ⟨⟨owk f1.r fun g hg => hon.block g (f1.r.lt g hg).2 ?_, owk f1.w fun g hg => hon.block g (f1.w.lt g hg).2 ?_⟩, f2⟩
    ·exact iter_ne HG.out (own_type f1.r hg)
    ·exact iter_ne HG.out (own_type f1.w hg)
   have HRL : Hid (v'.h.rs.length + 1 ≤ 4398046511104 ∧ v'.h.ws.length + 1 ≤ 3518437208883) := ⟨hvo.rl, hvo.wl⟩; have HID : Hid (v'.h = v'.h) := rfl; obtain ⟨w3, hw3⟩ : ∃ w3, w3 = w1.alloc (.cells #[.int .u32 v'.h.id.1, .int .u32 v'.h.id.2, .int .u32 v'.h.home, .int .u64 v'.h.w, .int .u32 v'.h.l, .int .u32 v'.h.n, .slice v'.ra v'.h.rs.length v'.rc, .slice v'.wa v'.h.ws.length v'.wc] 100) := ⟨_, rfl⟩; have hb3 : Below w1.heap.size w1 w3 := by rw [hw3]; exact Below.al (Below.refl _ _) _
   have OW : Hid (Calls Tryz.prog 116 #[.agg #[.int .u32 v'.h.id.1, .int .u32 v'.h.id.2, .int .u32 v'.h.home, .int .u64 v'.h.w, .int .u32 v'.h.l, .int .u32 v'.h.n, .slice v'.ra v'.h.rs.length v'.rc, .slice v'.wa v'.h.ws.length v'.wc]] w3 fun e w' => ∃ u : Hv, e = .returned (.agg #[.int .u32 u.h.id.1, .int .u32 u.h.id.2, .int .u32 u.h.home, .int .u64 u.h.w, .int .u32 u.h.l, .int .u32 u.h.n, .slice u.ra u.h.rs.length u.rc, .slice u.wa u.h.ws.length u.wc]) ∧ Hid (u.h = v'.h) ∧ Hid (u.fresh w3.heap.size w') ∧ Below w3.heap.size w3 w') :=
    (own_is (hvo.later hb3)).mono fun e w' ⟨u, h1, h2, h3, h4⟩ => ⟨u, h1, h2, h3, h4⟩
   have HB3 := hid hb3; have hsz3 : w.heap.size ≤ w3.heap.size := Nat.le_trans hb1.size hb3.size; simp only [Hv.val, ixv] at hn hen; clear R1 hb1 hvo hO1 hpm hpI hon HG HB HO HF hb3 hsz; go_wp2_with fail
   rw [← hw3]; refine OW.out.mono ?_; rintro e w4 ⟨u, rfl, HUH, HUF, hb4⟩; obtain ⟨w5, hw5⟩ : ∃ w5, w5 = w4.alloc (.cells #[.int .u32 u.h.id.1, .int .u32 u.h.id.2, .int .u32 u.h.home, .int .u64 u.h.w, .int .u32 u.h.l, .int .u32 u.h.n, .slice u.ra u.h.rs.length u.rc, .slice u.wa u.h.ws.length u.wc] 100) := ⟨_, rfl⟩; have hb5 : Below w4.heap.size w4 w5 := by rw [hw5]; exact Below.al (Below.refl _ _) _
   have hb15 : Below w1.heap.size w1 w5 := Below.on (Below.on HB3.out hb4) hb5; have hO5 : OwnH w.heap.size w5 (.slice a n c) n U := owk HO1.out fun g hg => hb15.block g (HO1.out.lt g hg).2
   have blk5 : w5.heap[w4.heap.size]? = some (.cells (hcs u).toArray 100) := by rw [hw5]; exact (MapKept.heap_alloc _ _).1
   have hcl : ∀ j x, (hcs u)[j]? = some x → w5.cell? ((⟨w4.heap.size, 0, none⟩ : Addr).add j) = some x := fun j x hj => by
    rw [Addr.add_lit, Nat.zero_add]; exact cob blk5 (by simpa using hj)
   have HO5 := hid hO5; have HCL := hid hcl; have HB15 := hid hb15; have HW4 := hid hb4; have HW5 := hid hb5; have hs5 : w.heap.size ≤ w5.heap.size := Nat.le_trans hsz3 (Nat.le_trans hb4.size hb5.size); clear hO5 hcl hb15 blk5 OW hb4 hb5; go_wp2_with (at_builtin; refine wpList_append_own _ rfl _ _ 58 rfl w.heap.size 100 i0 (Hv.val Hv.zero) 8 80 Tryz.underlying58 hi hz0 hz1 hz2 rfl (by decide) (.slice a n c) n (U.flatMap hcs) rfl (by rw [← hw5]; exact HO5.out) ⟨w4.heap.size, 0, none⟩ 1 1 (hcs u) rfl rfl (by rw [← hw5]; exact HCL.out) (hcs_one u) (by unfold maxLen; omega) (by omega) (by rw [← hw5]; exact hs5) ?_)
   intro v2 w6 hown hgrow hnil; rw [← hw5] at hgrow; obtain ⟨a2, c2, rfl⟩ := ows hown; have hB6 : Below w.heap.size w w6 := Below.grown (Below.on HB1.out HB15.out) hgrow (by exact hs5) (fun k hk => (HO5.out.lt k hk).1); have hnot : ∀ b, (∀ cs t z, w5.heap[b]? ≠ some (.cells cs t z)) → b < w5.heap.size → w6.heap[b]? = w5.heap[b]? := fun b h1 h2 => hgrow.block b h2 (fun e => by
    obtain ⟨cur, hc⟩ := own_type HO5.out e.symm; exact h1 _ _ _ hc)
   have R5 := HR1.out.later HB15.out; have R6 : RngO ixv Hv.val w6 m1 w.heap.size (prs V) todo' := by
    refine R5.same (fun b e => ?_) ?_
    ·subst e; refine hnot b ?_ (R5.lt.2 b rfl); intro cs t z hc; obtain ⟨es, clock, _, _, _, hb, _⟩ := R5.at; rw [hc] at hb; cases hb
    ·refine hnot _ ?_ R5.lt.1; intro cs t z hc; cases m1 with
     | none => have := R5.2.2; rw [hc] at this; cases this
     | some b =>
      obtain ⟨es, clock, since, seen, c0, _, _, _, _, hr, _⟩ := R5.at; rw [hc] at hr; cases hr
   have F6 : ∀ x ∈ U ++ [u], x.fresh w.heap.size w6 ∧ x.h.rs.length + 1 ≤ 4398046511104 ∧ x.h.ws.length + 1 ≤ 3518437208883 := fun x hx => by
    rcases List.mem_append.1 hx with hx | hx
    ·obtain ⟨f1, f2⟩ := HF1.out x hx; exact ⟨(f1.later HB15.out).grown HO5.out hgrow, f2⟩
    ·simp at hx; subst hx
     refine ⟨?_, by rw [HUH.out]; exact HRL.out⟩; have := (HUF.out.later HW5.out).grown HO5.out hgrow; exact ⟨owb this.r hsz3, owb this.w hsz3⟩
   have FA6 : (U ++ [u]).Pairwise Hv.far := List.pairwise_append.2 ⟨HFA.out, List.pairwise_singleton _ _, fun x hx y hy => by
    simp at hy; subst hy; obtain ⟨f1, _⟩ := HF1.out x hx; exact Hv.far_of f1 HUF.out HB3.out.size⟩
   have P6 : ((U ++ [u]).map Hv.h ++ todo'.map fun q => q.2.h).Perm (V.map Hv.h) := by
    refine List.Perm.trans ?_ HP.out; rw [List.map_append, List.append_assoc]; refine List.Perm.append_left _ ?_; have := (HPM.out.map (fun q : Ix × Hv => q.2.h)).symm; simpa [HUH.out] using this
   have HFin : Hid (((U ++ [u]).length = n + 1) ∧ OwnH w.heap.size w6 (.slice a2 (n + 1) c2) (n + 1) (U ++ [u]) ∧ (∀ x ∈ U ++ [u], x.fresh w.heap.size w6 ∧ x.h.rs.length + 1 ≤ 4398046511104 ∧ x.h.ws.length + 1 ≤ 3518437208883) ∧ (U ++ [u]).Pairwise Hv.far ∧ ((U ++ [u]).map Hv.h ++ todo'.map fun q => q.2.h).Perm (V.map Hv.h) ∧ RngO ixv Hv.val w6 m1 w.heap.size (prs V) todo' ∧ Below w.heap.size w w6) := by
    refine ⟨by rw [List.length_append, HN.out]; rfl, ?_, F6, FA6, P6, R6, hB6⟩; unfold OwnH; rw [List.flatMap_append]; simpa using hown
   clear hown hgrow hnil hB6 hnot R5 R6 F6 P6 FA6; go_wp2_with fail
   go_roundg todo'.length
   case measure => omega
   case rel =>
    obtain ⟨h1, h2, h3, h7, h4, h5, h6⟩ := HFin.out; exact ⟨todo', U ++ [u], a2, n + 1, c2, rfl, rfl, h1, h2, h3, h7, h4, h5, h6⟩
theorem all_is {w : World} {p oo : Nat} {ty : TypeId} {m1 m2 : Option Nat} {V : List Hv} {I : It} (T : TbO w p oo ty m1 m2 V I) (hlen : V.length ≤ 1759218604441) :
  Calls Tryz.prog 57 #[.pointer (some ⟨p, oo, none⟩)] w fun e w' => ∃ (a : Option Addr) (n c : Nat) (U : List Hv), e = .returned (.slice a n c) ∧ U.length = n ∧ OwnH w.heap.size w' (.slice a n c) n U ∧ (∀ u ∈ U, u.fresh w.heap.size w' ∧ u.ok w') ∧
   (U.map Hv.h).Perm (V.map Hv.h) ∧ (U.map Hv.h).Pairwise (fun x y => ltI y.id x.id = false) ∧ Below w.heap.size w w' :=
 (allF_is T hlen).mono fun e w' ⟨a, n, c, U, h1, h2, h3, h4, _, h5⟩ => ⟨a, n, c, U, h1, h2, h3, h4, h5⟩
end Lk
namespace Ig
open Go.RowKit Go.Sort
theorem own_set {w : World} {B n size q j : Nat} {e : TypeId} {v u : Value} {xs : List Value} (h : w.ownsRow B e size v n xs) (hq : q < B) : (w.setCell ⟨q, j, none⟩ u).ownsRow B e size v n xs :=
 owk h fun g hg => Below.heap_setCell _ _ _ _ (by have := (h.lt g hg).1; show g ≠ q; omega)
abbrev put8 (w : World) (q : Nat) (v0 v1 v2 v3 v4 v5 v6 v7 : Value) : World := (((((((w.setCell ⟨q, 0, none⟩ v0).setCell ⟨q, 1, none⟩ v1).setCell ⟨q, 2, none⟩ v2).setCell ⟨q, 3, none⟩ v3).setCell ⟨q, 4, none⟩ v4).setCell ⟨q, 5, none⟩ v5).setCell ⟨q, 6, none⟩ v6).setCell ⟨q, 7, none⟩ v7
theorem own_put8 {w : World} {B n size q : Nat} {e : TypeId} {v : Value} {xs : List Value} (h : w.ownsRow B e size v n xs) (hq : q < B) (v0 v1 v2 v3 v4 v5 v6 v7 : Value) : (put8 w q v0 v1 v2 v3 v4 v5 v6 v7).ownsRow B e size v n xs :=
 own_set (own_set (own_set (own_set (own_set (own_set (own_set (own_set h hq) hq) hq) hq) hq) hq) hq) hq
theorem DOk.put8 {w0 w : World} {b o q : Nat} {d : Ds} (h : DOk w0 w b o d) (hq : w0.heap.size ≤ q) (hb : b < q) (v0 v1 v2 v3 v4 v5 v6 v7 : Value) : DOk w0 (put8 w q v0 v1 v2 v3 v4 v5 v6 v7) b o d :=
 (((((((h.setNew hq hb 0 _).setNew hq hb 1 _).setNew hq hb 2 _).setNew hq hb 3 _).setNew hq hb 4 _).setNew hq hb 5 _).setNew hq hb 6 _).setNew hq hb 7 _
theorem takeHeld_is {w0 w : World} {b o : Nat} {d d' : Ds} {x : Lk.Hd} (h : DOk w0 w b o d) (hv : tHeld d = (x, d')) :
  Calls Tryz.prog 77 #[.pointer (some ⟨b, o, none⟩)] w fun e w' => ∃ v : Lk.Hv, e = .returned (.agg #[.int .u32 v.h.id.1, .int .u32 v.h.id.2, .int .u32 v.h.home, .int .u64 v.h.w, .int .u32 v.h.l, .int .u32 v.h.n, .slice v.ra v.h.rs.length v.rc, .slice v.wa v.h.ws.length v.wc]) ∧ Hid (v.h = x) ∧ Hid (v.fresh w.heap.size w') ∧ DOk w w' b o d' := by
 obtain ⟨x0, d0, e0⟩ : ∃ y dd, tTxn d = (y, dd) := ⟨_, _, rfl⟩; obtain ⟨x1, d1, e1⟩ : ∃ y dd, tS d0 = (y, dd) := ⟨_, _, rfl⟩; obtain ⟨x2, d2, e2⟩ : ∃ y dd, tL tSpan d1 = (y, dd) := ⟨_, _, rfl⟩; obtain ⟨x3, d3, e3⟩ : ∃ y dd, tL tWrite d2 = (y, dd) := ⟨_, _, rfl⟩; have hE : tHeld d = (⟨x0.1, x0.2, x1.a, x1.b, x1.c, x2, x3⟩, d3) := by
  simp only [tHeld, tP, tM, e0, e1, e2, e3]
 rw [hv] at hE; injection hE with hx hd
 have HX := hid hx; subst hd; clear hx; obtain ⟨⟨x01, x02⟩, x03⟩ := x0; obtain ⟨wa, hwa⟩ : ∃ wa, wa = w.alloc (.cells #[.int .u32 0, .int .u32 0, .int .u32 0, .int .u64 0, .int .u32 0, .int .u32 0, .slice none 0 0, .slice none 0 0] 100) := ⟨_, rfl⟩; have hba : Below w.heap.size w wa := by rw [hwa]; exact Below.al (Below.refl _ _) _
 have hbl := h.lt; have hsz : w.heap.size < wa.heap.size := by rw [hwa]; simp
 have kx : wa.heap[w.heap.size]? = some (.cells #[.int .u32 0, .int .u32 0, .int .u32 0, .int .u64 0, .int .u32 0, .int .u32 0, .slice none 0 0, .slice none 0 0] 100 (0, 0)) := by rw [hwa]; exact World.alloc_heap_new _ _
 have HK := hid kx; have H0 : Hid (DOk wa wa b o d) := (h.later hba).refl; have HB := hid hba; have HH := hid h; have E0 := hid e0; have E1 := hid e1; have E2 := hid e2; have E3 := hid e3; clear h hv hba kx e0 e1 e2 e3; go_enter Tryz.func77, Tryz.ntmps77
 go_wp2_with fail
 rw [← hwa]; clear hwa; refine (takeTransaction_is H0.out E0.out).mono ?_; rintro e w2 ⟨rfl, h1⟩; have H2 : Hid (DOk wa w2 b o d0) := H0.out.step h1; clear h1; go_wp2_with fail
 obtain ⟨wb, hwb⟩ : ∃ wb, wb = w2.alloc (.cells #[.int .u32 x01, .int .u32 x02] 33) := ⟨_, rfl⟩; have kb : wb.heap[w2.heap.size]? = some (.cells #[.int .u32 x01, .int .u32 x02] 33 (0, 0)) := by rw [hwb]; exact World.alloc_heap_new _ _
 have hbb : Below w2.heap.size w2 wb := by rw [hwb]; exact Below.al (Below.refl _ _) _
 have hsb : w2.heap.size < wb.heap.size := by rw [hwb]; simp
 rw [← hwb]; have c0 := Vs.cob (o := 0) kb rfl; have c1 := Vs.cob (o := 1) kb rfl; have hne : w.heap.size ≠ b := by omega
 have hs2 := H2.out.cel.size; have hne2 : w2.heap.size ≠ b := by omega
 have H3 : Hid (DOk wa wb b o d0) := H2.out.later hbb; have KB := hid kb; have KZ : Hid (wb.heap[w.heap.size]? = some (.cells #[.int .u32 0, .int .u32 0, .int .u32 0, .int .u64 0, .int .u32 0, .int .u32 0, .slice none 0 0, .slice none 0 0] 100 (0, 0))) := (hbb.block _ (by omega)).trans ((H2.out.cel.block _ hsz hne).trans HK.out); clear hwb kb hbb; have hs3 : w.heap.size < wb.drew.heap.size := by show w.heap.size < wb.heap.size; omega
 have hs4 : w2.heap.size < wb.drew.heap.size := hsb; go_region_with (first
  | (go_at_call 75; refine (dok_stamp H3.out.drew E1.out).mono ?_; rintro e w4 ⟨rfl, h4⟩; have H4 := hid (H3.out.drew.step h4); have KZ4 := hid ((h4.cel.block _ hs3 hne).trans KZ.out); have kb := (h4.cel.block _ hs4 hne2).trans KB.out; have KB4 := hid kb; have c0 := Vs.cob (o := 0) kb rfl; have c1 := Vs.cob (o := 1) kb rfl; have hs5 := Nat.lt_of_lt_of_le hs3 h4.cel.size; have hs6 := Nat.lt_of_lt_of_le hs4 h4.cel.size; clear h4 kb)
  | (go_at_call 153; refine (takeSpans_is H4.out E2.out).mono ?_; rintro e w5 ⟨a1, cc1, rfl, O1, h5⟩; have H5 := hid (H4.out.step h5); have KZ5 := hid ((h5.cel.block _ hs5 hne).trans KZ4.out); have kb := (h5.cel.block _ hs6 hne2).trans KB4.out; have KB5 := hid kb; have c0 := Vs.cob (o := 0) kb rfl; have c1 := Vs.cob (o := 1) kb rfl; have hs7 := Nat.lt_of_lt_of_le hs5 h5.cel.size; have hs8 := Nat.lt_of_lt_of_le hs6 h5.cel.size; clear h5 kb)
  | (go_at_call 155; refine (takeWrites_is H5.out E3.out).mono ?_; rintro e w6 ⟨a2, cc2, rfl, O2, h6⟩; have H6 := hid (H5.out.step h6); have O1' := hid (own_cel O1.out h6.cel (by omega)); have kz := (h6.cel.block _ hs7 hne).trans KZ5.out; have kb := (h6.cel.block _ hs8 hne2).trans KB5.out; have c0 := Vs.cob (o := 0) kb rfl; have c1 := Vs.cob (o := 1) kb rfl; have z0 := Vs.cob (o := 0) kz rfl; have z1 := Vs.cob (o := 1) kz rfl; have z2 := Vs.cob (o := 2) kz rfl; have z3 := Vs.cob (o := 3) kz rfl; have z4 := Vs.cob (o := 4) kz rfl; have z5 := Vs.cob (o := 5) kz rfl; have z6 := Vs.cob (o := 6) kz rfl; have z7 := Vs.cob (o := 7) kz rfl; have zf : ∀ j, w6.frozen? ⟨w.heap.size, j, none⟩ = false := fun j => frozen_of_row w6 w.heap.size j _ _ kz; clear h6 kz kb))
 all_goals go_wp2_with fail
 all_goals have H9 := hid ((HH.out.refl.later HB.out).step H6.out)
 all_goals refine bodyPost_ret (v := .agg #[.int .u32 x01, .int .u32 x02, .int .u32 x03, .int .u64 x1.a, .int .u32 x1.b, .int .u32 x1.c, .slice a1 x2.length cc1, .slice a2 x3.length cc2]) (by simp [results, Tryz.results77, go_sem, z0, z1, z2, z3, z4, z5, z6, z7]) rfl ⟨⟨⟨(x01, x02), x03, x1.a, x1.b, x1.c, x2, x3⟩, a1, cc1, a2, cc2⟩, rfl, hid HX.out.symm, ?_, ?_⟩
 all_goals first | exact hid ⟨Lk.owb (own_put8 O1'.out (by omega) _ _ _ _ _ _ _ _) (by omega), Lk.owb (own_put8 O2.out (by omega) _ _ _ _ _ _ _ _) (by omega)⟩ | exact H9.out.put8 (Nat.le_refl _) hbl _ _ _ _ _ _ _ _
theorem fresh_cel {w w' : World} {b o B : Nat} {v : Lk.Hv} (h : v.fresh B w) (hc : Cel b o 2 w w') (hB : b < B) : v.fresh B w' := ⟨own_cel h.r hc hB, own_cel h.w hc hB⟩
theorem fresh_base {w : World} {B B' : Nat} {v : Lk.Hv} (h : v.fresh B w) (hB : B' ≤ B) : v.fresh B' w := ⟨Lk.owb h.r hB, Lk.owb h.w hB⟩
theorem infoT8 : (Tryz.prog.info? 100).map (fun i => (i.zero, i.size, i.bytes)) = some (some (.agg #[.int .u32 0, .int .u32 0, .int .u32 0, .int .u64 0, .int .u32 0, .int .u32 0, .slice none 0 0, .slice none 0 0]), 8, 80) := by kernel_rfl
theorem takeHelds_is {w0 w : World} {b o : Nat} {d d' : Ds} {xs : List Lk.Hd} (h : DOk w0 w b o d) (hv : tL tHeld d = (xs, d')) :
  Calls Tryz.prog 76 #[.pointer (some ⟨b, o, none⟩), .func (.func 77) #[] #[]] w fun e w' => ∃ (U : List Lk.Hv) (a : Option Addr) (c : Nat), e = .returned (.slice a U.length c) ∧ Hid (U.map Lk.Hv.h = xs) ∧ Hid (Lk.OwnH w.heap.size w' (.slice a U.length c) U.length U) ∧ Hid (∀ u ∈ U, u.fresh w.heap.size w') ∧ DOk w w' b o d' := by
 obtain ⟨i0, hi, hz0, hz1, hz2⟩ := ifz infoT8; have hbl := h.lt; obtain ⟨n0, d0, e0⟩ : ∃ y dd, tVar 18446744073709551615 d = (y, dd) := ⟨_, _, rfl⟩; have hn0 : n0 ≤ 18446744073709551615 := by have := var_le 18446744073709551615 d; rw [e0] at this; exact this
 have HN0 := hid hn0; clear hn0; have E0 : Hid (tU 18446744073709551615 d = ((n0 : Int), d0)) := by show tM _ _ d = _; unfold tM; rw [e0]
 have HT : Hid (tN tHeld n0 d0 = (xs, d')) := by
  have := hv; unfold tL at this; rw [e0] at this; exact this
 have HS : Hid (d0.left.length ≤ d.left.length) := by have := var_sh 18446744073709551615 d; rw [e0] at this; exact this
 have HLN := hid h.ln; have C := hid (dok_var (m := 18446744073709551615) (mi := 18446744073709551615) h rfl E0.out); clear h hv e0; go_enter Tryz.func76, Tryz.ntmps76
 go_wp2_with fail
 refine C.out.mono ?_; rintro e w1 ⟨rfl, h1⟩; have H1 := hid h1; clear h1 C; go_wp2_with fail
 go_loopg [5, 6] n0 (fun g s5 s6 wr => ∃ (n : Nat) (U : List Lk.Hv) (dk : Ds) (a : Option Addr) (c : Nat), g = n ∧ s5 = .slice a U.length c ∧ s6 = .int .u64 (n : Int) ∧ Hid (n ≤ 18446744073709551615) ∧ Hid (Lk.OwnH w.heap.size wr (.slice a U.length c) U.length U) ∧ Hid (∀ u ∈ U, u.fresh w.heap.size wr) ∧ Hid (DOk w wr b o dk) ∧ Hid (xs = U.map Lk.Hv.h ++ (tN tHeld n dk).1 ∧ d' = (tN tHeld n dk).2) ∧ Hid (U.length + dk.left.length ≤ d.left.length))
 case atStart => exact ⟨n0, [], d0, none, 0, rfl, rfl, rfl, HN0, World.ownsRow_nil _ _ _ _, hid (fun u hu => by cases hu), H1, hid (by rw [HT.out]; exact ⟨rfl, rfl⟩), hid (by simpa using HS.out)⟩
 case round =>
  obtain ⟨n, U, dk, a, c, hg, rfl, rfl, HN, HO, HF, HD, HX, HY⟩ := hrel; clear H1 HT HS HN0; cases n with
  | zero =>
   have HE : Hid (U.map Lk.Hv.h = xs ∧ d' = dk) := hid (by have := HX.out; simp only [tN, List.append_nil] at this; exact ⟨this.1.symm, this.2⟩); go_wp2_with fail
   go_ret
   obtain ⟨h1, rfl⟩ := HE.out; exact ⟨U, a, c, rfl, hid h1, HO, HF, HD.out⟩
  | succ m =>
   obtain ⟨N, hN⟩ : ∃ N : Int, ((m + 1 : Nat) : Int) = N := ⟨_, rfl⟩; have hgt : decide ((0 : Int) < N) = true := decide_eq_true (by omega); have hsub : IntKind.u64.wrap (N - 1) = (m : Int) := by have := HN.out; rw [IntKind.wrap_u64]; omega
   rw [hN]; clear hN; obtain ⟨L, hL⟩ : ∃ L : Int, (dk.left.length : Int) = L := ⟨_, rfl⟩; have HL := hid hL; by_cases hd0 : dk.left.length = 0
   ·have hlt : decide ((0 : Int) < L) = false := decide_eq_false (by omega); have HE : Hid (U.map Lk.Hv.h = xs ∧ d' = dk) := hid (by have := HX.out; rw [tN, if_pos hd0] at this; simp only [List.append_nil] at this; exact ⟨this.1.symm, this.2⟩); clear hd0 hL; go_wp2_with (go_at_call 151; refine (dok_leftL HD.out HL.out).mono ?_; rintro e w2 ⟨rfl, rfl⟩)
    go_ret
    obtain ⟨h1, rfl⟩ := HE.out; exact ⟨U, a, c, rfl, hid h1, HO, HF, HD.out⟩
   ·have hlt : decide ((0 : Int) < L) = true := decide_eq_true (by omega); obtain ⟨x, d1, ex⟩ : ∃ y dd, tHeld dk = (y, dd) := ⟨_, _, rfl⟩; have HM := hid (tN_more (m := m) hd0 ex); have hy : U.length + 1 + d1.left.length ≤ d.left.length := by have h1 := held_eat dk hd0; rw [ex] at h1; have h2 := HY.out; simp only at h1; omega
    have hyl : U.length + 1 ≤ 1099511627776 := by have := HLN.out; omega
    have PC := hid (takeHeld_is HD.out ex); clear hd0 ex hL; go_wp2_with (go_at_call 151; refine (dok_leftL HD.out HL.out).mono ?_; rintro e w2 ⟨rfl, rfl⟩)
    refine PC.out.mono ?_; rintro e w2 ⟨v, rfl, HVX, HVF, h2⟩; have H2 := hid (HD.out.step h2); have hs0 := HD.out.cel.size; obtain ⟨w3, hw3⟩ : ∃ w3, w3 = w2.alloc (.cells #[.int .u32 v.h.id.1, .int .u32 v.h.id.2, .int .u32 v.h.home, .int .u64 v.h.w, .int .u32 v.h.l, .int .u32 v.h.n, .slice v.ra v.h.rs.length v.rc, .slice v.wa v.h.ws.length v.wc] 100) := ⟨_, rfl⟩; have k3 : w3.heap[w2.heap.size]? = some (.cells #[.int .u32 v.h.id.1, .int .u32 v.h.id.2, .int .u32 v.h.home, .int .u64 v.h.w, .int .u32 v.h.l, .int .u32 v.h.n, .slice v.ra v.h.rs.length v.rc, .slice v.wa v.h.ws.length v.wc] 100 (0, 0)) := by rw [hw3]; exact World.alloc_heap_new _ _
    have hcl : ∀ j u, (Lk.hcs v)[j]? = some u → w3.cell? ((⟨w2.heap.size, 0, none⟩ : Addr).add j) = some u := fun j u hj => by
     rw [Addr.add_lit, Nat.zero_add]; exact Vs.cob k3 (by simpa using hj)
    have HO3 : Hid (Lk.OwnH w.heap.size w3 (.slice a U.length c) U.length U) := by rw [hw3]; exact own_al (own_cel HO.out h2.cel hbl) _
    have hb3 : Below w2.heap.size w2 w3 := by rw [hw3]; exact Below.al (Below.refl _ _) _
    have HF3 : Hid (∀ u ∈ U ++ [v], u.fresh w.heap.size w3) := fun u hu => by
     rcases List.mem_append.1 hu with hu | hu
     ·exact (fresh_cel (HF.out u hu) h2.cel hbl).later hb3
     ·rw [List.mem_singleton] at hu; subst hu; exact (fresh_base HVF.out hs0).later hb3
    have H3 := hid (H2.out.later hb3); have hs3 : w.heap.size ≤ w3.heap.size := H3.out.cel.size; have HCL := hid hcl; clear h2 PC hcl hb3 k3 HVF; go_wp2_with (at_builtin; refine wpList_append_own _ rfl _ _ 58 rfl w.heap.size 100 i0 (.agg #[.int .u32 0, .int .u32 0, .int .u32 0, .int .u64 0, .int .u32 0, .int .u32 0, .slice none 0 0, .slice none 0 0]) 8 80 Tryz.underlying58 hi hz0 hz1 hz2 rfl (by decide) (.slice a U.length c) U.length (U.flatMap Lk.hcs) rfl (by rw [← hw3]; exact HO3.out) ⟨w2.heap.size, 0, none⟩ 1 1 (Lk.hcs v) rfl rfl (by rw [← hw3]; exact HCL.out) (Lk.hcs_one v) (by unfold maxLen; omega) (by omega) (by rw [← hw3]; exact hs3) ?_)
    intro v2 w6 hown hgrow hnil; rw [← hw3] at hgrow; obtain ⟨a2, cc2, rfl⟩ := ows hown; have H6 := hid (H3.out.grown hgrow (fun g hg => (HO3.out.lt g hg).1) hbl); have HF6 : Hid (∀ u ∈ U ++ [v], u.fresh w.heap.size w6) := fun u hu => (HF3.out u hu).grown HO3.out hgrow
    have HO6 : Hid (Lk.OwnH w.heap.size w6 (.slice a2 (U ++ [v]).length cc2) (U ++ [v]).length (U ++ [v])) := by
     show World.ownsRow _ _ _ _ _ _ _
     rw [List.flatMap_append, List.length_append]; simpa using hown
    have hlen : (U ++ [v]).length = U.length + 1 := by simp
    have HX6 : Hid (xs = (U ++ [v]).map Lk.Hv.h ++ (tN tHeld m d1).1 ∧ d' = (tN tHeld m d1).2) := by
     have h9 := HX.out; rw [HM.out] at h9; exact ⟨by rw [h9.1]; simp [HVX.out], h9.2⟩
    clear hown hgrow hnil hw3; go_wp2_with fail
    go_roundg m
    case measure => omega
    case rel =>
     exact ⟨m, U ++ [v], d1, a2, cc2, rfl, by rw [hlen], rfl, hid (by have := HN.out; omega), HO6, HF6, H6, HX6, hid (by rw [hlen]; omega)⟩
open Go.RowKit Go.Sort Ys
structure Rws (w : World) (p B : Nat) (aH : Option Addr) (cH : Nat) (U : List Lk.Hv) (aE : Option Addr) (cE : Nat) (es : List Lg.En) (aV : Option Addr) (cV : Nat) (vs : List Vs.Kv) : Prop where
 lo : p < B
 oh : Lk.OwnH B w (.slice aH U.length cH) U.length U
 fr : ∀ u ∈ U, u.fresh B w
 oe : w.ownsRow B 104 7 (.slice aE es.length cE) es.length (es.flatMap Lg.ecs)
 ov : w.ownsRow B 108 6 (.slice aV vs.length cV) vs.length (vs.flatMap c6)
 lh : U.length ≤ 1099511627776
 le : es.length ≤ 1099511627776
 lv : vs.length ≤ 1099511627776
 rh : ∀ u ∈ U, HdR u.h
 re : ∀ e ∈ es, EnR e
section
variable {w w' : World} {p B : Nat} {aH : Option Addr} {cH : Nat} {U : List Lk.Hv} {aE : Option Addr} {cE : Nat} {es : List Lg.En} {aV : Option Addr} {cV : Nat} {vs : List Vs.Kv}
theorem own_p {B' size n : Nat} {e : TypeId} {v : Value} {xs : List Value} (h : w.ownsRow B' e size v n xs) (ho : Onl (fun b => b = p) w w') (hp : p < B') : w'.ownsRow B' e size v n xs := owk h fun g hg => ho.block g (h.lt g hg).2 (fun e => by have := (h.lt g hg).1; omega)
theorem Rws.onl (h : Rws w p B aH cH U aE cE es aV cV vs) (ho : Onl (fun b => b = p) w w') : Rws w' p B aH cH U aE cE es aV cV vs :=
 ⟨h.lo, own_p h.oh ho h.lo, fun u hu => ⟨own_p (h.fr u hu).r ho h.lo, own_p (h.fr u hu).w ho h.lo⟩, own_p h.oe ho h.lo, own_p h.ov ho h.lo, h.lh, h.le, h.lv, h.rh, h.re⟩
theorem Rws.later (h : Rws w p B aH cH U aE cE es aV cV vs) (hb : Below w.heap.size w w') : Rws w' p B aH cH U aE cE es aV cV vs := h.onl (Onl.of_below hb)
theorem row_ne {B' size n c : Nat} {e : TypeId} {a : Option Addr} {xs : List Value} (h : w.ownsRow B' e size (.slice a n c) n xs) (hp : p < B') : ∀ b off, a = some ⟨b, off, none⟩ → b ≠ p := fun b off e he => by
 have := (h.lt b (by rw [e]; rfl)).1; omega
theorem Rws.rowV (h : Rws w p B aH cH U aE cE es aV cV vs) : Vs.RowV w aV vs := Vs.OwnV.row (B := B) (c := cV) h.ov
theorem Rws.okU (h : Rws w p B aH cH U aE cE es aV cV vs) {u : Lk.Hv} (hu : u ∈ U) : u.ok w := (h.fr u hu).ok (by have := (h.rh u hu).rl; omega) (by have := (h.rh u hu).wl; omega)
theorem fv_is {n c : Int} (h : Rws w p B aH cH U aE cE es aV cV vs) (kp : w.heap[p]? = some (.cells (scs ⟨n, c, [], [], [], ⟨0, 0, 0⟩, false, ⟨0, 0, 0⟩⟩ none none none none) SS (0, 0))) (k : Vs.Sp) :
  Calls Tryz.prog 82 #[.pointer (some ⟨p, 1, none⟩), .slice aV vs.length cV, .agg #[.int .u64 k.a, .int .u32 k.b, .int .u32 k.c]] w fun e w' => e = .returned (.bool (fvB c vs k)) ∧ Hid (fvB c vs k = true → ∃ F, Ys.St F w' p none none none [] [] ⟨n, c, [], [], Vs.loadM vs, k, false, ⟨0, 0, 0⟩⟩ ∧ ∀ b, F b → b = p ∨ w.heap.size ≤ b) ∧ Hid (Onl (fun b => b = p) w w') :=
 fillVersions_is (st_empty kp) h.rowV (by have := h.lv; omega) k
theorem fe_is {F : Nat → Prop} {s : Ps} (h : Rws w p B aH cH U aE cE es aV cV vs) (T : Ys.St F w p none none none [] [] s) :
  Calls Tryz.prog 83 #[.pointer (some ⟨p, 1, none⟩), .slice aE es.length cE] w fun e w' => e = .returned (.bool (feS s es).isSome) ∧ Hid (∀ s', feS s es = some s' → ∃ m, Ys.St F w' p none none m [] [] s' ∧ ∀ b, m = some b → w.heap.size ≤ b) ∧ Hid (Onl (fun b => b = p) w w') := by
 refine (fillEntries_is T (RowG.of_own Lg.ecs_len (by decide) h.oe) (fun b off e hb => ?_) h.le h.re).mono ?_
 ·rcases hb with hb | hb
  ·exact row_ne h.oe h.lo b off e hb
  ·cases hb
 ·rintro e w' ⟨h1, h2, h3⟩; refine ⟨h1, fun s' hs => ?_, h3.out.mono fun b hb => ?_⟩
  ·obtain ⟨m, hT, hm⟩ := h2.out s' hs; exact ⟨m, hT, fun b hb => by
    rcases hm b hb with h9 | h9
    ·cases h9
    ·exact h9⟩
  ·rcases hb with hb | hb
   ·exact hb
   ·cases hb
theorem fh_is {F : Nat → Prop} {m : Option Nat} {s : Ps} (h : Rws w p B aH cH U aE cE es aV cV vs) (T : Ys.St F w p none none m [] [] s) :
  Calls Tryz.prog 84 #[.pointer (some ⟨p, 1, none⟩), .slice aH U.length cH] w fun e w' => e = .returned (.bool (fhS s (U.map Lk.Hv.h)).isSome) ∧ Hid (∀ s', fhS s (U.map Lk.Hv.h) = some s' → ∃ m1 m2 V I, Ys.St F w' p m1 m2 m V I s' ∧ ∀ b, m1 = some b ∨ m2 = some b → b = p ∨ w.heap.size ≤ b) ∧ Hid (Onl (fun b => b = p) w w') := by
 have hits : ∀ b, Lk.Its p none none b → b = p := fun b hb => by
  rcases hb with hb | hb | hb
  ·exact hb
  ·cases hb
  ·cases hb
 refine (fillHeld_is T (RowG.of_own Lk.hcs_len (by decide) h.oh) (fun b off e hb => row_ne h.oh h.lo b off e (hits b hb)) h.lh (fun v hv => ⟨h.okU hv, fun b off e hb => row_ne (h.fr v hv).r h.lo b off e (hits b hb), fun b off e hb => row_ne (h.fr v hv).w h.lo b off e (hits b hb), (h.rh v hv).s, (h.rh v hv).w⟩)).mono ?_; rintro e w' ⟨h1, h2, h3⟩; refine ⟨h1, fun s' hs => ?_, h3.out.mono hits⟩; obtain ⟨m1, m2, V, I, hT, hm⟩ := h2.out s' hs; exact ⟨m1, m2, V, I, hT, fun b hb => (hm b (.inr hb)).imp (hits b) id⟩
theorem ov_is (h : Rws w p B aH cH U aE cE es aV cV vs) :
  Calls Tryz.prog 85 #[.slice aV vs.length cV, .slice aH U.length cH] w fun e w' => e = .returned (.bool (ovT vs (U.map Lk.Hv.h))) ∧ Below w.heap.size w w' :=
 overtakes_is (RowG.of_own c6_len (by decide) h.ov) h.lv (RowG.of_own Lk.hcs_len (by decide) h.oh) h.lh (fun v hv => ⟨rowW_g (h.okU hv).w, (h.rh v hv).wl⟩)
end
end Ig
end Go.Proofs.YtofpaldolcnmiaaGreat
