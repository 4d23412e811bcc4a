import Derived.Test.YtgplnbdankfobaaGreatDoorQSort
import Derived.Test.YtgplnbdankfobaaGreatDoorQFar
/- All. -/
namespace Go.Proofs.YtgplnbdankfobaaGreatDoor.Lk
open Go.RowKit Go.Sort Go.Shelf Go.Lib
set_option linter.unusedVariables false

theorem hcs_len (v : Hv) : (hcs v).length = 8 := rfl
theorem hcs_one (v : Hv) : ∀ x ∈ hcs v, x.oneCell' = true := by
  intro x hx
  simp [hcs] at hx
  rcases hx with rfl | rfl | rfl | rfl | rfl | rfl | rfl | rfl <;> rfl
/-- a row of what is held, in a block of its own from B on -/
def OwnH (B : Nat) (w : World) (s : Value) (n : Nat) (U : List Hv) : Prop := w.ownsRow B 32 8 s n (U.flatMap hcs)
theorem infoHd : (Tryz.prog.info? 32).map (fun i => (i.zero, i.size, i.bytes)) = some (some (Hv.val Hv.zero), 8, 80) := by kernel_rfl
/-- lists stay while another row's block grows -/
theorem own_apart {w : World} {B B' n n' size size' : Nat} {e e' : TypeId} {v v' : Value} {xs xs' : List Value} (h : w.ownsRow B e size v n xs) (h' : w.ownsRow B' e' size' v' n' xs') (hne : e ≠ e') {g : Nat} (hg : v.ownBlock = some g) : v'.ownBlock ≠ some g := fun hg' => by
  obtain ⟨c1, e1⟩ := own_type h hg
  obtain ⟨c2, e2⟩ := own_type h' hg'
  rw [e1] at e2
  injection e2 with e2
  injection e2 with _ e2
  exact hne e2
theorem Hv.fresh.grown {B B' n : Nat} {w w' : World} {s : Value} {U : List Hv} {v : Hv} (h : v.fresh B w) (ho : OwnH B' w s n U) (hg : w.grownBy w' s.ownBlock) : v.fresh B w' :=
  ⟨owns_keep h.r fun g e => hg.block g (h.r.lt g e).2 (fun k => own_apart h.r ho (by decide) e k.symm), owns_keep h.w fun g e => hg.block g (h.w.lt g e).2 (fun k => own_apart h.w ho (by decide) e k.symm)⟩
theorem Hv.fresh.onl {B : Nat} {w w' : World} {F : Nat → Prop} {v : Hv} (h : v.fresh B w) (ho : Onl F w w') (hF : ∀ g, F g → ∃ cur, w.heap[g]? = some (.cells cur 32 (0, 0))) : v.fresh B w' := by
  refine ⟨owns_keep h.r fun g e => ho.block g (h.r.lt g e).2 (fun k => ?_), owns_keep h.w fun g e => ho.block g (h.w.lt g e).2 (fun k => ?_)⟩
  · obtain ⟨c1, e1⟩ := own_type h.r e
    obtain ⟨c2, e2⟩ := hF g k
    rw [e1] at e2; injection e2 with e2; injection e2 with _ e2; revert e2; decide
  · obtain ⟨c1, e1⟩ := own_type h.w e
    obtain ⟨c2, e2⟩ := hF g k
    rw [e1] at e2; injection e2 with e2; injection e2 with _ e2; revert e2; decide

/-- a row of what is held is sorted by id -/
theorem sortH_is {w : World} {B n : Nat} {a : Option Addr} {c : Nat} {U : List Hv} (h : OwnH B w (.slice a n c) n U) (hn : U.length = n) (hl : n < 4611686018427387904) :
    Calls Tryz.prog 29 #[.slice a n c, .func (.func 30) #[] #[]] w fun e w' => e = .returned (.tuple #[]) ∧
      ∃ U', U'.Perm U ∧ U'.Pairwise (fun x y => ltI y.h.id x.h.id = false) ∧ OwnH B w' (.slice a n c) n U' ∧ Onl (fun b => (Value.slice a n c).ownBlock = some b) w w' := by
  by_cases h0 : n = 0
  · letI : Inhabited Hv := ⟨Hv.zero⟩
    subst h0
    have e : U = [] := List.eq_nil_of_length_eq_zero hn
    subst e
    have hcon := AnyF.slices_SortFunc_none { Tryz.sortH with } a c (.func (.func 30) #[] #[]) w
    change Calls Tryz.prog 29 _ _ _ at hcon
    refine hcon.mono ?_
    rintro e w' ⟨rfl, rfl⟩
    exact ⟨rfl, [], List.Perm.refl _, by simp, h, Onl.refl _ _⟩
  · letI : Inhabited Hv := ⟨Hv.zero⟩
    obtain ⟨g, rfl, _, _⟩ := own_cells h (by omega)
    have hlt : g < w.heap.size := (h.lt g rfl).2
    have eg : ∀ args w, (callFunc 30 args).run Tryz.prog w = .ok (.enter 30 args) w := enters_of Tryz.func30 (by kernel_rfl) rfl
    have hcmp : CmpLays Tryz.prog 30 #[] hcs 8 (fun x y => cmpI x.h.id y.h.id) g 0 U.toArray.size w := fun _ _ _ _ x y => all1_is x y _
    have hcon := AnyQ.slices_SortFunc Tryz.sortH 8 Tryz.isAgg32 Tryz.sizeOf32 hcs hcs_len hcs_one (fun x y : Hv => cmpI x.h.id y.h.id) (swo_of fun x : Hv => x.h.id) 30 #[] g 0 c U.toArray w eg hcmp (holds_row hcs_len (by decide) h) hlt (by simpa [hn] using hl)
    change Calls Tryz.prog 29 _ _ _ at hcon
    simp only [List.size_toArray, hn] at hcon
    refine hcon.mono ?_
    rintro e w' ⟨rfl, d', m, os, hp, hs, rfl⟩
    have hp' : PermIn 0 U.toArray.size U.toArray d' := by simpa [hn] using hp
    have hsz : d'.size = U.toArray.size := hp'.1
    have hs' : SortedIn (ltOf fun x y : Hv => cmpI x.h.id y.h.id) 0 d'.size d' := by rw [hsz]; simpa [hn] using hs
    have hpm := perm_of hp'
    have hso := sorted_of hs'
    obtain ⟨h1, h2⟩ := sorted_row (ys := d'.toList) hcs_len (by decide) h (by simpa using hsz) m os
    refine ⟨rfl, d'.toList, by simpa using hpm, ?_, by unfold OwnH; simpa using h1, ?_⟩
    · refine hso.imp fun {x y} hxy => ?_
      rw [← cmp_lt]; exact hxy
    · refine Onl.mono (by simpa using h2) (fun b hb => by rw [hb]; rfl)

theorem iter_ne {m : Option Nat} {r : Nat} {w : World} {ps todo : List (Ix × Hv)} (h : RngO ixv Hv.val w m r ps todo) {g : Nat} {t : TypeId} (hg : ∃ cur, w.heap[g]? = some (.cells cur t (0, 0))) : ¬ g = r := by
  rintro rfl
  obtain ⟨cur, hc⟩ := hg
  cases m with
  | none => have := h.2.2; rw [hc] at this; cases this
  | some b =>
    obtain ⟨es, clock, since, seen, c0, _, _, _, _, hr, _⟩ := h.at
    rw [hc] at hr; cases hr

set_option maxHeartbeats 2000000 in
theorem allF_is {w : World} {p oo : Nat} {ty : TypeId} {m1 m2 : Option Nat} {V : List Hv} {I : It} (T : TbO w p oo ty m1 m2 V I) (hlen : V.length ≤ 1759218604441) :
    Calls Tryz.prog 12 #[.pointer (some ⟨p, oo, none⟩)] w fun e w' => ∃ (a : Option Addr) (n c : Nat) (U : List Hv), e = .returned (.slice a n c) ∧ U.length = n ∧ OwnH w.heap.size w' (.slice a n c) n U ∧ (∀ u ∈ U, u.fresh w.heap.size w' ∧ u.ok w') ∧ U.Pairwise Hv.far ∧
      (U.map Hv.h).Perm (V.map Hv.h) ∧ (U.map Hv.h).Pairwise (fun x y => ltI y.id x.id = false) ∧ Below w.heap.size w w' := by
  have c0 := T.c0
  obtain ⟨o, hr, R0⟩ := T.held.range (P := Tryz.prog) Tryz.underlying54
  obtain ⟨i0, hi, hz0, hz1, hz2⟩ := info_of infoHd
  have RR := hid R0
  have HT := hid T
  clear T R0
  go_enter Tryz.func12, Tryz.ntmps12
  go_wp2_with fail
  go_loopg [3, 11] V.length (fun g s3 s11 wr => ∃ (todo : List (Ix × Hv)) (U : List Hv) (a : Option Addr) (n c : Nat), g = todo.length ∧ s3 = .slice a n c ∧ Hid (U.length = n) ∧ Hid (OwnH w.heap.size wr (.slice a n c) n U) ∧ Hid (∀ u ∈ U, u.fresh w.heap.size wr ∧ u.h.rs.length + 1 ≤ 4398046511104 ∧ u.h.ws.length + 1 ≤ 3518437208883) ∧
    Hid (U.Pairwise Hv.far) ∧ Hid ((U.map Hv.h ++ todo.map fun q => q.2.h).Perm (V.map Hv.h)) ∧ Hid (RngO ixv Hv.val wr m1 w.heap.size (prs V) todo) ∧ Hid (Below w.heap.size w wr))
  case atStart =>
    refine ⟨prs V, [], none, 0, 0, by simp, rfl, rfl, ⟨rfl, .inl ⟨rfl, rfl⟩⟩, fun u hu => by simp at hu, List.Pairwise.nil, ?_, RR, Below.al (Below.refl _ _) _⟩
    show List.Perm _ _
    simp [prs, List.map_map, Function.comp_def]
  case round =>
    obtain ⟨todo, U, a, n, c, rfl, rfl, HN, HO, HF, HFA, HP, HG, HB⟩ := hrel
    clear hr c0 RR
    rcases HG.out.next Tryz.prog with ⟨rfl, hn⟩ | ⟨⟨j, v⟩, todo', w1, hpm, hpI, hn, R1, hen, hon, hsz⟩
    · have hnl : n < 4611686018427387904 := by
        have h1 := HP.out.length_eq
        have h2 := HN.out
        simp at h1; omega
      have SO := hid (sortH_is HO.out HN.out hnl)
      have HBR := HB
      go_wp2_with fail
      refine SO.out.mono ?_
      rintro e w2 ⟨rfl, U', hpU, hsU, hoU, honl⟩
      have hB2 : Below w.heap.size w w2 := HB.out.trans (honl.below (B := w.heap.size) (fun b hb => (HO.out.lt b hb).1) HB.out.size)
      have hfr : ∀ u ∈ U', u.fresh w.heap.size w2 ∧ u.ok w2 := fun u hu => by
        obtain ⟨f1, f2, f3⟩ := HF.out u (hpU.mem_iff.1 hu)
        have := f1.onl honl (fun g hg => own_type HO.out hg)
        exact ⟨this, this.ok f2 f3⟩
      have HFin : Hid (U'.length = n ∧ OwnH w.heap.size w2 (.slice a n c) n U' ∧ (∀ u ∈ U', u.fresh w.heap.size w2 ∧ u.ok w2) ∧ U'.Pairwise Hv.far ∧ (U'.map Hv.h).Perm (V.map Hv.h) ∧ (U'.map Hv.h).Pairwise (fun x y => ltI y.id x.id = false) ∧ Below w.heap.size w w2) := by
        refine ⟨by rw [hpU.length_eq]; exact HN.out, hoU, hfr, (hpU.pairwise_iff (fun {x y} h => Hv.far.symm h)).2 HFA.out, (hpU.map _).trans (by simpa using HP.out), ?_, hB2⟩
        rw [List.pairwise_map]; exact hsU
      clear hpU hsU hoU honl hB2 hfr
      go_wp2_with fail
      go_ret
      exact ⟨a, n, c, U', rfl, HFin.out⟩
    · obtain ⟨v', hv', ev'⟩ := List.mem_map.1 hpI
      injection ev' with ev1 ev2
      subst ev2
      subst ev1
      have hb1 : Below w.heap.size w w1 := (HB.out.trans (hon.below (B := w.heap.size) (fun k hk => by omega) (HB.out.size)))
      have hvo : v'.ok w1 := (HT.out.rows v' hv').later hb1
      have hO1 : OwnH w.heap.size w1 (.slice a n c) n U := owns_keep HO.out fun g hg => hon.block g (HO.out.lt g hg).2 (iter_ne HG.out (own_type HO.out hg))
      have hpl : todo'.length + 1 = todo.length := by have := hpm.length_eq; simpa using this.symm
      have hnb : n + 1 ≤ 1759218604441 := by
        have h1 := HP.out.length_eq
        have h2 := HN.out
        simp at h1; omega
      have HPM := hid hpm
      have HR1 := hid R1
      have HB1 := hid hb1
      have HV := hid hvo
      have HO1 := hid hO1
      have HF1 : Hid (∀ u ∈ U, u.fresh w.heap.size w1 ∧ u.h.rs.length + 1 ≤ 4398046511104 ∧ u.h.ws.length + 1 ≤ 3518437208883) := fun u hu => by
        obtain ⟨f1, f2⟩ := HF.out u hu
        refine ⟨⟨owns_keep f1.r fun g hg => hon.block g (f1.r.lt g hg).2 ?_, owns_keep f1.w fun g hg => hon.block g (f1.w.lt g hg).2 ?_⟩, f2⟩
        · exact iter_ne HG.out (own_type f1.r hg)
        · exact iter_ne HG.out (own_type f1.w hg)
      have HRL : Hid (v'.h.rs.length + 1 ≤ 4398046511104 ∧ v'.h.ws.length + 1 ≤ 3518437208883) := ⟨hvo.rl, hvo.wl⟩
      have HID : Hid (v'.h = v'.h) := rfl
      obtain ⟨w3, hw3⟩ : ∃ w3, w3 = w1.alloc (.cells #[.int .u32 v'.h.id.1, .int .u32 v'.h.id.2, .int .u32 v'.h.home, .int .u64 v'.h.w, .int .u32 v'.h.l, .int .u32 v'.h.n, .slice v'.ra v'.h.rs.length v'.rc, .slice v'.wa v'.h.ws.length v'.wc] 32) := ⟨_, rfl⟩
      have hb3 : Below w1.heap.size w1 w3 := by rw [hw3]; exact Below.al (Below.refl _ _) _
      have OW : Hid (Calls Tryz.prog 22 #[.agg #[.int .u32 v'.h.id.1, .int .u32 v'.h.id.2, .int .u32 v'.h.home, .int .u64 v'.h.w, .int .u32 v'.h.l, .int .u32 v'.h.n, .slice v'.ra v'.h.rs.length v'.rc, .slice v'.wa v'.h.ws.length v'.wc]] w3 fun e w' => ∃ u : Hv, e = .returned (.agg #[.int .u32 u.h.id.1, .int .u32 u.h.id.2, .int .u32 u.h.home, .int .u64 u.h.w, .int .u32 u.h.l, .int .u32 u.h.n, .slice u.ra u.h.rs.length u.rc, .slice u.wa u.h.ws.length u.wc]) ∧ Hid (u.h = v'.h) ∧ Hid (u.fresh w3.heap.size w') ∧ Below w3.heap.size w3 w') :=
        (own_is (hvo.later hb3)).mono fun e w' ⟨u, h1, h2, h3, h4⟩ => ⟨u, h1, h2, h3, h4⟩
      have HB3 := hid hb3
      have hsz3 : w.heap.size ≤ w3.heap.size := Nat.le_trans hb1.size hb3.size
      simp only [Hv.val, ixv] at hn hen
      clear R1 hb1 hvo hO1 hpm hpI hon HG HB HO HF hb3 hsz
      go_wp2_with fail
      rw [← hw3]
      refine OW.out.mono ?_
      rintro e w4 ⟨u, rfl, HUH, HUF, hb4⟩
      obtain ⟨w5, hw5⟩ : ∃ w5, w5 = w4.alloc (.cells #[.int .u32 u.h.id.1, .int .u32 u.h.id.2, .int .u32 u.h.home, .int .u64 u.h.w, .int .u32 u.h.l, .int .u32 u.h.n, .slice u.ra u.h.rs.length u.rc, .slice u.wa u.h.ws.length u.wc] 32) := ⟨_, rfl⟩
      have hb5 : Below w4.heap.size w4 w5 := by rw [hw5]; exact Below.al (Below.refl _ _) _
      have hb15 : Below w1.heap.size w1 w5 := Below.on (Below.on HB3.out hb4) hb5
      have hO5 : OwnH w.heap.size w5 (.slice a n c) n U := owns_keep HO1.out fun g hg => hb15.block g (HO1.out.lt g hg).2
      have blk5 : w5.heap[w4.heap.size]? = some (.cells (hcs u).toArray 32) := by rw [hw5]; exact (MapKept.heap_alloc _ _).1
      have hcl : ∀ j x, (hcs u)[j]? = some x → w5.cell? ((⟨w4.heap.size, 0, none⟩ : Addr).add j) = some x := fun j x hj => by
        rw [Addr.add_lit, Nat.zero_add]
        exact cell_of_obj blk5 (by simpa using hj)
      have HO5 := hid hO5
      have HCL := hid hcl
      have HB15 := hid hb15
      have HW4 := hid hb4
      have HW5 := hid hb5
      have hs5 : w.heap.size ≤ w5.heap.size := Nat.le_trans hsz3 (Nat.le_trans hb4.size hb5.size)
      clear hO5 hcl hb15 blk5 OW hb4 hb5
      go_wp2_with (at_builtin; refine wpList_append_own _ rfl _ _ 22 rfl w.heap.size 32 i0 (Hv.val Hv.zero) 8 80 Tryz.underlying22 hi hz0 hz1 hz2 rfl (by decide) (.slice a n c) n (U.flatMap hcs) rfl (by rw [← hw5]; exact HO5.out) ⟨w4.heap.size, 0, none⟩ 1 1 (hcs u) rfl rfl (by rw [← hw5]; exact HCL.out) (hcs_one u) (by unfold maxLen; omega) (by omega) (by rw [← hw5]; exact hs5) ?_)
      intro v2 w6 hown hgrow hnil
      rw [← hw5] at hgrow
      obtain ⟨a2, c2, rfl⟩ := owns_slice hown
      have hB6 : Below w.heap.size w w6 := Below.grown (Below.on HB1.out HB15.out) hgrow (by exact hs5) (fun k hk => (HO5.out.lt k hk).1)
      have hnot : ∀ b, (∀ cs t z, w5.heap[b]? ≠ some (.cells cs t z)) → b < w5.heap.size → w6.heap[b]? = w5.heap[b]? := fun b h1 h2 => hgrow.block b h2 (fun e => by
        obtain ⟨cur, hc⟩ := own_type HO5.out e.symm
        exact h1 _ _ _ hc)
      have R5 := HR1.out.later HB15.out
      have R6 : RngO ixv Hv.val w6 m1 w.heap.size (prs V) todo' := by
        refine R5.same (fun b e => ?_) ?_
        · subst e
          refine hnot b ?_ (R5.lt.2 b rfl)
          intro cs t z hc
          obtain ⟨es, clock, _, _, _, hb, _⟩ := R5.at
          rw [hc] at hb; cases hb
        · refine hnot _ ?_ R5.lt.1
          intro cs t z hc
          cases m1 with
          | none => have := R5.2.2; rw [hc] at this; cases this
          | some b =>
            obtain ⟨es, clock, since, seen, c0, _, _, _, _, hr, _⟩ := R5.at
            rw [hc] at hr; cases hr
      have F6 : ∀ x ∈ U ++ [u], x.fresh w.heap.size w6 ∧ x.h.rs.length + 1 ≤ 4398046511104 ∧ x.h.ws.length + 1 ≤ 3518437208883 := fun x hx => by
        rcases List.mem_append.1 hx with hx | hx
        · obtain ⟨f1, f2⟩ := HF1.out x hx
          exact ⟨(f1.later HB15.out).grown HO5.out hgrow, f2⟩
        · simp at hx; subst hx
          refine ⟨?_, by rw [HUH.out]; exact HRL.out⟩
          have := (HUF.out.later HW5.out).grown HO5.out hgrow
          exact ⟨owns_base this.r hsz3, owns_base this.w hsz3⟩
      have FA6 : (U ++ [u]).Pairwise Hv.far := List.pairwise_append.2 ⟨HFA.out, List.pairwise_singleton _ _, fun x hx y hy => by
        simp at hy
        subst hy
        obtain ⟨f1, _⟩ := HF1.out x hx
        exact Hv.far_of f1 HUF.out HB3.out.size⟩
      have P6 : ((U ++ [u]).map Hv.h ++ todo'.map fun q => q.2.h).Perm (V.map Hv.h) := by
        refine List.Perm.trans ?_ HP.out
        rw [List.map_append, List.append_assoc]
        refine List.Perm.append_left _ ?_
        have := (HPM.out.map (fun q : Ix × Hv => q.2.h)).symm
        simpa [HUH.out] using this
      have HFin : Hid (((U ++ [u]).length = n + 1) ∧ OwnH w.heap.size w6 (.slice a2 (n + 1) c2) (n + 1) (U ++ [u]) ∧ (∀ x ∈ U ++ [u], x.fresh w.heap.size w6 ∧ x.h.rs.length + 1 ≤ 4398046511104 ∧ x.h.ws.length + 1 ≤ 3518437208883) ∧ (U ++ [u]).Pairwise Hv.far ∧ ((U ++ [u]).map Hv.h ++ todo'.map fun q => q.2.h).Perm (V.map Hv.h) ∧ RngO ixv Hv.val w6 m1 w.heap.size (prs V) todo' ∧ Below w.heap.size w w6) := by
        refine ⟨by rw [List.length_append, HN.out]; rfl, ?_, F6, FA6, P6, R6, hB6⟩
        unfold OwnH
        rw [List.flatMap_append]
        simpa using hown
      clear hown hgrow hnil hB6 hnot R5 R6 F6 P6 FA6
      go_wp2_with fail
      go_roundg todo'.length
      case measure => omega
      case rel =>
        obtain ⟨h1, h2, h3, h7, h4, h5, h6⟩ := HFin.out
        exact ⟨todo', U ++ [u], a2, n + 1, c2, rfl, rfl, h1, h2, h3, h7, h4, h5, h6⟩
theorem all_is {w : World} {p oo : Nat} {ty : TypeId} {m1 m2 : Option Nat} {V : List Hv} {I : It} (T : TbO w p oo ty m1 m2 V I) (hlen : V.length ≤ 1759218604441) :
    Calls Tryz.prog 12 #[.pointer (some ⟨p, oo, none⟩)] w fun e w' => ∃ (a : Option Addr) (n c : Nat) (U : List Hv), e = .returned (.slice a n c) ∧ U.length = n ∧ OwnH w.heap.size w' (.slice a n c) n U ∧ (∀ u ∈ U, u.fresh w.heap.size w' ∧ u.ok w') ∧
      (U.map Hv.h).Perm (V.map Hv.h) ∧ (U.map Hv.h).Pairwise (fun x y => ltI y.id x.id = false) ∧ Below w.heap.size w w' :=
  (allF_is T hlen).mono fun e w' ⟨a, n, c, U, h1, h2, h3, h4, _, h5⟩ => ⟨a, n, c, U, h1, h2, h3, h4, h5⟩
end Go.Proofs.YtgplnbdankfobaaGreatDoor.Lk
