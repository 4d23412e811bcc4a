import Derived.Test.YtneojeidpfjpbaaGreatDoorB44
set_option linter.unusedVariables false
set_option maxHeartbeats 4000000
namespace Go.Proofs.YtneojeidpfjpbaaGreatDoor.Lk
open Go.RowKit Go.Sort Go.Shelf Go.Lib
theorem ics_len (i : Ix) : (ics i).length = 2 := rfl
theorem ics_one (i : Ix) : ∀ x ∈ ics i, x.oneCell' = true := by
 intro x hx; simp [ics] at hx; rcases hx with rfl | rfl <;> rfl
theorem sortT_is {w : World} {B n : Nat} {a : Option Addr} {c : Nat} {U : List Ix} (h : OwnI B w (.slice a n c) n U) (hn : U.length = n) (hl : n < 4611686018427387904) :
  Calls Tryz.prog 120 #[.slice a n c, .func (.func 79) #[] #[]] w fun e w' => e = .returned (.tuple #[]) ∧
   ∃ U', U'.Perm U ∧ U'.Pairwise (fun x y => ltI y x = false) ∧ OwnI B w' (.slice a n c) n U' ∧ Onl (fun b => (Value.slice a n c).ownBlock = some b) w w' := by
 by_cases h0 : n = 0
 ·letI : Inhabited Ix := ⟨(0, 0)⟩
  subst h0; have e : U = [] := List.eq_nil_of_length_eq_zero hn; subst e; have hcon := AnyF.slices_SortFunc_none { Tryz.sortT with } a c (.func (.func 79) #[] #[]) w; change Calls Tryz.prog 120 _ _ _ at hcon
  refine hcon.mono ?_; rintro e w' ⟨rfl, rfl⟩; exact ⟨rfl, [], List.Perm.refl _, by simp, h, Onl.refl _ _⟩
 ·obtain ⟨g, rfl, _, _⟩ := own_cells h (by omega); have hlt : g < w.heap.size := (h.lt g rfl).2; have eg : ∀ args w, (callFunc 79 args).run Tryz.prog w = .ok (.enter 79 args) w := enters_of Tryz.func79 (by kernel_rfl) rfl; have hcmp : CmpLays Tryz.prog 79 #[] ics 2 (fun x y => cmpI x y) g 0 U.toArray.size w := fun _ _ _ _ x y => byID_is x y _
  have hcon := AnyQ.slices_SortFunc Tryz.sortT 2 Tryz.isAgg38 Tryz.sizeOf38 ics ics_len ics_one (fun x y : Ix => cmpI x y) (swo_of fun x : Ix => x) 79 #[] g 0 c U.toArray w eg hcmp (holds_row ics_len (by decide) h) hlt (by simpa [hn] using hl); change Calls Tryz.prog 120 _ _ _ at hcon
  simp only [List.size_toArray, hn] at hcon; refine hcon.mono ?_; rintro e w' ⟨rfl, d', m, os, hp, hs, rfl⟩; have hp' : PermIn 0 U.toArray.size U.toArray d' := by simpa [hn] using hp
  have hsz : d'.size = U.toArray.size := hp'.1; have hs' : SortedIn (ltOf fun x y : Ix => cmpI x y) 0 d'.size d' := by rw [hsz]; simpa [hn] using hs
  have hpm := perm_of hp'; have hso := sorted_of hs'; obtain ⟨h1, h2⟩ := sorted_row (ys := d'.toList) ics_len (by decide) h (by simpa using hsz) m os; refine ⟨rfl, d'.toList, by simpa using hpm, ?_, by unfold OwnI; simpa using h1, ?_⟩
  ·refine hso.imp fun {x y} hxy => ?_
   rw [← cmp_lt]; exact hxy
  ·refine Onl.mono (by simpa using h2) (fun b hb => by rw [hb]; rfl)
theorem infoTx : (Tryz.prog.info? 38).map (fun i => (i.zero, i.size, i.bytes)) = some (some (.agg #[.int .u32 0, .int .u32 0]), 2, 8) := by kernel_rfl
theorem field_at (a b c d e f : Int) (ra wa : Option Addr) (rn rc wn wc : Nat) (w : World) : (Instr.field 52 (.agg #[.int .u32 a, .int .u32 b, .int .u32 c, .int .u64 d, .int .u32 e, .int .u32 f, .slice ra rn rc, .slice wa wn wc]) 2).run Tryz.prog w = .ok (.agg #[.int .u64 d, .int .u32 e, .int .u32 f]) w := by kernel_rfl
theorem iter_neS {m : Option Nat} {r : Nat} {w : World} {ps todo : List (ByteArray × Ix)} (h : RngO Value.string ixv w m r ps todo) {g : Nat} {t : TypeId} (hg : ∃ cur, w.heap[g]? = some (.cells cur t (0, 0))) : ¬ g = r := by
 rintro rfl; obtain ⟨cur, hc⟩ := hg; cases m with
 | none => have := h.2.2; rw [hc] at this; cases this
 | some b =>
  obtain ⟨es, clock, since, seen, c0, _, _, _, _, hr, _⟩ := h.at; rw [hc] at hr; cases hr
def pick (V : List Hv) (s : T2) (aw al an : Int) (p : ByteArray × Ix) : Prop := insB p.1 s = true ∧ ∃ v ∈ V, v.h.id = p.2 ∧ lessB aw al an v.h.w v.h.l v.h.n = false
set_option maxRecDepth 8000 in
theorem blocksF_is {w : World} {p oo : Nat} {ty : TypeId} {m1 m2 : Option Nat} {V : List Hv} {I : It} {s : T2} {aw al an : Int} (T : TbO w p oo ty m1 m2 V I) (hI : I.length ≤ 33554432) :
  Calls Tryz.prog 82 #[.pointer (some ⟨p, oo, none⟩), .agg #[.string s.1, .string s.2], .agg #[.int .u64 aw, .int .u32 al, .int .u32 an]] w fun e w' => ∃ (a : Option Addr) (m c : Nat) (D : List Ix), e = .returned (.slice a m c) ∧ Hid (D.length = m) ∧ Hid (RowI w' a D) ∧
   Hid (D.Pairwise (fun x y => ltI x y = true)) ∧ Hid (∀ i, i ∈ D ↔ ∃ h ∈ V.map Hv.h, h.id = i ∧ blkB s aw al an h = true) ∧ Hid (Below w.heap.size w w') ∧ Hid (OwnI w.heap.size w' (.slice a m c) m D) := by
 obtain ⟨wx, hwx⟩ : ∃ wx, wx = (w.alloc (.cells #[.string s.1, .string s.2] 25)).alloc (.cells #[.int .u64 aw, .int .u32 al, .int .u32 an] 28) := ⟨_, rfl⟩; have hbx : Below w.heap.size w wx := by rw [hwx]; exact Below.al (Below.al (Below.refl _ _) _) _
 have hsx : wx.heap.size = w.heap.size + 2 := by rw [hwx]; simp
 have S0 : Hid (wx.cell? ⟨w.heap.size, 0, none⟩ = some (.string s.1)) := by rw [hwx]; exact hid (by simp [go_sem])
 have S1 : Hid (wx.cell? ⟨w.heap.size, 1, none⟩ = some (.string s.2)) := by rw [hwx]; exact hid (by simp [go_sem])
 have A0 : Hid (wx.cell? ⟨w.heap.size + 1, 0, none⟩ = some (.int .u64 aw)) := by rw [hwx]; exact hid (by simp [go_sem])
 have A1 : Hid (wx.cell? ⟨w.heap.size + 1, 1, none⟩ = some (.int .u32 al)) := by rw [hwx]; exact hid (by simp [go_sem])
 have A2 : Hid (wx.cell? ⟨w.heap.size + 1, 2, none⟩ = some (.int .u32 an)) := by rw [hwx]; exact hid (by simp [go_sem])
 have T0 := T.later hbx; have c1 := T0.c1; obtain ⟨o, hr, R0⟩ := T0.ints.range (P := Tryz.prog) Tryz.underlying69; obtain ⟨i0, hi, hz0, hz1, hz2⟩ := info_of infoTx; obtain ⟨r, hrr⟩ : ∃ r, r = wx.heap.size := ⟨_, rfl⟩; rw [← hrr] at hr R0; have RR := hid R0; have HT := hid T0; have HBX := hid hbx; have HSX := hid hsx; have HRR := hid hrr; clear T T0 hbx hsx hrr R0; have c1' : ((w.alloc (.cells #[.string s.1, .string s.2] 25)).alloc (.cells #[.int .u64 aw, .int .u32 al, .int .u32 an] 28)).cell? ⟨p, oo + 1, none⟩ = some (.map m2) := by rw [← hwx]; exact c1
 rw [hwx] at hr; go_enter Tryz.func82, Tryz.ntmps82
 go_wp2_with fail
 rw [← hwx]; clear hwx hr c1' c1; go_loopg [7] I.length (fun g s7 wr => ∃ (todo done : It) (X : List Ix) (a : Option Addr) (n c : Nat), g = todo.length ∧ s7 = .slice a n c ∧ Hid (X.length = n ∧ n + todo.length ≤ I.length) ∧ Hid (OwnI wx.heap.size wr (.slice a n c) n X) ∧ Hid (RngO Value.string ixv wr m2 r I todo) ∧ Hid (Below wx.heap.size wx wr) ∧
  Hid ((done ++ todo).Perm I) ∧ Hid (∀ i, i ∈ X ↔ ∃ q ∈ done, q.2 = i ∧ pick V s aw al an q))
 case atStart => exact ⟨I, [], [], none, 0, 0, rfl, rfl, ⟨rfl, by omega⟩, ⟨rfl, .inl ⟨rfl, rfl⟩⟩, RR, Below.al (Below.refl _ _) _, List.Perm.refl _, fun i => by simp⟩
 case round =>
  obtain ⟨todo, done, X, a, n, c, rfl, rfl, HN, HO, HG, HB, HP, HX⟩ := hrel; clear RR; rcases HG.out.next Tryz.prog with ⟨rfl, hn⟩ | ⟨⟨key, j⟩, todo', w1, hpm, hpI, hn, R1, hen, hon, hsz⟩
  ·have SO := hid (sortT_is HO.out HN.out.1 (by have := HN.out.2; omega)); go_wp2_with fail
   refine SO.out.mono ?_; rintro e w2 ⟨rfl, X', hpX, hsX, hoX, honX⟩; have hl' : X'.length = n := by rw [hpX.length_eq]; exact HN.out.1
   have CO := hid (compactF_is hoX hl'); have HPX := hid hpX; have HSX' := hid hsX; have HL' := hid hl'; have HB2 : Hid (Below w.heap.size w w2 ∧ w.heap.size ≤ w2.heap.size ∧ ∀ b, (Value.slice a n c).ownBlock = some b → w.heap.size ≤ b) := by
    have h1 : Below w.heap.size w wr := Below.on HBX.out HB.out; have h2 : ∀ b, (Value.slice a n c).ownBlock = some b → w.heap.size ≤ b := fun b hb => by have := (HO.out.lt b hb).1; have := HSX.out; omega
    have h3 := h1.trans (honX.below (B := w.heap.size) h2 h1.size); exact ⟨h3, h3.size, h2⟩
   clear SO hpX hsX hoX honX hl' hn; go_wp2_with fail
   refine CO.out.mono ?_; rintro e w3 ⟨m, rfl, HL, HRow, HOn, HOw⟩; have HOW3 : Hid (OwnI w.heap.size w3 (.slice a m c) m (compactUpTo X'.toArray n)) := owns_base HOw.out (by have := HSX.out; omega); have HRI : Hid ((compactUpTo X'.toArray n).Pairwise (fun x y => ltI x y = true)) := comp_rise (fun i j hij hj => by
    have h1 := List.pairwise_iff_getElem.1 HSX'.out i j (by rw [HL'.out]; omega) (by rw [HL'.out]; exact hj) hij; simpa [HL'.out, hj, show i < n by omega] using h1)
   have HME : Hid (∀ i, i ∈ compactUpTo X'.toArray n ↔ ∃ h ∈ V.map Hv.h, h.id = i ∧ blkB s aw al an h = true) := fun i => by
    have h1 : i ∈ compactUpTo X'.toArray n ↔ i ∈ X := by
     rw [← HPX.out.mem_iff]; constructor
     ·intro h; obtain ⟨j, hj, rfl⟩ := comp_sub h; have hj' : j < X'.length := by rw [HL'.out]; exact hj
      have : X'.toArray[j]! = X'[j] := by simp [hj']
      rw [this]; exact List.getElem_mem hj'
     ·intro h; obtain ⟨j, hj, rfl⟩ := List.getElem_of_mem h; have : X'.toArray[j]! = X'[j] := by simp [hj]
      rw [← this]; exact comp_mem (by rw [← HL'.out]; exact hj)
    rw [h1, HX.out i]; have hP := HP.out; rw [List.append_nil] at hP; constructor
    ·rintro ⟨⟨k, i'⟩, hq, rfl, hk, v, hv, hid', hl⟩; obtain ⟨h, hh, e1, x, hx, e2⟩ := (HT.out.ok.tie k i').1 (hP.mem_iff.1 hq); have : h = v.h := nodup_inj HT.out.ok.ids hh (List.mem_map.2 ⟨v, hv, rfl⟩) (e1.trans hid'.symm); subst this; refine ⟨_, hh, e1, ?_⟩; simp only [blkB, Bool.and_eq_true, List.any_eq_true, hl, Bool.not_false, and_true]; exact ⟨x, hx, by rw [e2]; exact hk⟩
    ·rintro ⟨h, hh, rfl, hb⟩; simp only [blkB, Bool.and_eq_true, List.any_eq_true, Bool.not_eq_true'] at hb; obtain ⟨⟨x, hx, hk⟩, hl⟩ := hb; obtain ⟨v, hv, rfl⟩ := List.mem_map.1 hh; exact ⟨(x.key, v.h.id), hP.mem_iff.2 ((HT.out.ok.tie _ _).2 ⟨_, hh, rfl, x, hx, rfl⟩), rfl, hk, v, hv, rfl, hl⟩
   have HBE : Hid (Below w.heap.size w w3) := HB2.out.1.trans (HOn.out.below (B := w.heap.size) HB2.out.2.2 HB2.out.2.1); clear CO; go_wp2_with fail
   go_ret
   exact ⟨a, m, c, _, rfl, HL, HRow, HRI, HME, HBE, HOW3⟩
  ·obtain ⟨jc, js⟩ := j; have hb1 : Below wx.heap.size wx w1 := HB.out.trans (hon.below (B := wx.heap.size) (fun k hk => by have := HRR.out; omega) HB.out.size); have hO1 : OwnI wx.heap.size w1 (.slice a n c) n X := owns_keep HO.out fun g hg => hon.block g (HO.out.lt g hg).2 (iter_neS HG.out (own_type HO.out hg))
   have hpl : todo'.length + 1 = todo.length := by have := hpm.length_eq; simpa using this.symm
   have T1 := HT.out.later hb1; obtain ⟨v, hvV, hvid, hlook⟩ : ∃ v ∈ V, v.h.id = (jc, js) ∧ ∀ W, (∀ b, m1 = some b → W.heap[b]? = w1.heap[b]?) → (Instr.lookup 68 (.map m1) (.agg #[.int .u32 jc, .int .u32 js]) false).run Tryz.prog W = .ok (.agg #[.int .u32 v.h.id.1, .int .u32 v.h.id.2, .int .u32 v.h.home, .int .u64 v.h.w, .int .u32 v.h.l, .int .u32 v.h.n, .slice v.ra v.h.rs.length v.rc, .slice v.wa v.h.ws.length v.wc]) W := by
    obtain ⟨h, hh, e1, -⟩ := (HT.out.ok.tie key (jc, js)).1 hpI; obtain ⟨v0, hv0, rfl⟩ := List.mem_map.1 hh; rcases T1.held.looks (P := Tryz.prog) ids Tryz.underlying68 zero_hv (jc, js) with ⟨hn, _⟩ | ⟨v, hv, hl⟩
    ·exact absurd (by rw [prs_keys]; exact List.mem_map.2 ⟨_, hh, e1⟩) hn
    ·obtain ⟨v', hv', e⟩ := List.mem_map.1 hv; injection e with e2 e3
     subst e3; exact ⟨v', hv', e2, fun W hW => hl W hW false⟩
   obtain ⟨u1, hu1⟩ : ∃ u1, insB key s = u1 := ⟨_, rfl⟩; obtain ⟨late, hla⟩ : ∃ late, lessB aw al an v.h.w v.h.l v.h.n = late := ⟨_, rfl⟩; obtain ⟨wz, hwz⟩ : ∃ wz, wz = w1.alloc (.cells #[.int .u32 jc, .int .u32 js] 38) := ⟨_, rfl⟩; have hbz : Below w1.heap.size w1 wz := by rw [hwz]; exact Below.al (Below.refl _ _) _
   have hxz : Below wx.heap.size wx wz := Below.on hb1 hbz; have z0 : wz.cell? ⟨w1.heap.size, 0, none⟩ = some (.int .u32 jc) := by rw [hwz]; simp [go_sem]
   have z1 : wz.cell? ⟨w1.heap.size, 1, none⟩ = some (.int .u32 js) := by rw [hwz]; simp [go_sem]
   have s0 := cell_later hxz S0.out; have s1 := cell_later hxz S1.out; have a0 := cell_later hxz A0.out; have a1 := cell_later hxz A1.out; have a2 := cell_later hxz A2.out; have Tz := HT.out.later hxz; have cz0 := Tz.c0; have HLK : Hid (∀ W, Below wz.heap.size wz W → (Instr.lookup 68 (.map m1) (.agg #[.int .u32 jc, .int .u32 js]) false).run Tryz.prog W = .ok (.agg #[.int .u32 v.h.id.1, .int .u32 v.h.id.2, .int .u32 v.h.home, .int .u64 v.h.w, .int .u32 v.h.l, .int .u32 v.h.n, .slice v.ra v.h.rs.length v.rc, .slice v.wa v.h.ws.length v.wc]) W) := fun W hB => hlook W (fun b e => ((hB.block b (Tz.held.lt b e)).trans (hbz.block b (T1.held.lt b e))))
   have IN : Hid (∀ W, Calls Tryz.prog 119 #[.string key, .agg #[.string s.1, .string s.2]] W fun e w' => e = .returned (.bool u1) ∧ Below W.heap.size W w') := fun W => inside_is hu1 W
   have LS : Hid (∀ W, Calls Tryz.prog 59 #[.agg #[.int .u64 aw, .int .u32 al, .int .u32 an], .agg #[.int .u64 v.h.w, .int .u32 v.h.l, .int .u32 v.h.n]] W fun e w' => e = .returned (.bool late) ∧ Below W.heap.size W w') := fun W => less_is hla W
   have HPK : Hid (pick V s aw al an (key, (jc, js)) ↔ (u1 && !late) = true) := by
    show _ ↔ _
    rw [Bool.and_eq_true, Bool.not_eq_true']; constructor
    ·rintro ⟨h1, v', hv', e, hl⟩; have : v' = v := by
      have e1 : v'.h = v.h := nodup_inj HT.out.ok.ids (List.mem_map.2 ⟨v', hv', rfl⟩) (List.mem_map.2 ⟨v, hvV, rfl⟩) (e.trans hvid.symm); have hnd := HT.out.held.nodup ids; rw [show (prs V).map (·.1) = V.map (fun v => v.h.id) by simp [prs, List.map_map, Function.comp_def]] at hnd; exact nodup_inj hnd hv' hvV (e.trans hvid.symm)
     subst this; exact ⟨hu1.symm.trans h1, hla.symm.trans hl⟩
    ·rintro ⟨h1, h2⟩; exact ⟨hu1.trans h1, v, hvV, hvid, hla.trans h2⟩
   have hfd := field_at v.h.id.1 v.h.id.2 v.h.home v.h.w v.h.l v.h.n v.ra v.wa v.h.rs.length v.rc v.h.ws.length v.wc; have HR1 := hid (R1.later hbz); have HOZ : Hid (OwnI wx.heap.size wz (.slice a n c) n X) := owns_keep hO1 fun g hg => hbz.block g (hO1.lt g hg).2
   have HXZ := hid hxz; have HPM := hid hpm; simp only [ixv] at hn hen; clear R1 hb1 hO1 hpm hpI hon hsz T1 Tz hlook hvV hvid hu1 hla hxz hbz HO HG HB; go_wp2_with fail
   rw [← hwz]; clear hwz; go_cut [34] (fun s34 wN => s34 = .bool (u1 && !late) ∧ Hid (Below wz.heap.size wz wN))
   case first =>
    cases u1 with
    | false =>
     have k0 := cell_regrown s0; have k1 := cell_regrown s1; refine wp_region_quiet_below (by kernel_rfl) (by kernel_rfl) ?_; repeat (go_big_quiet_step (((go_at_call 119; exact Calls.regrown_of (IN.out _)))))
     refine wpQuiet_nil ?_; intro wn hwn; replace hwn := below_of_regrown hwn; go_wp2_with fail
     go_meet
     exact ⟨rfl, hid hwn⟩
    | true =>
     go_region_held3 (fun w' => w'.cell? ⟨w.heap.size, 0, none⟩ = some (.string s.1) ∧ w'.cell? ⟨w.heap.size, 1, none⟩ = some (.string s.2) ∧ w'.cell? ⟨w.heap.size + 1, 0, none⟩ = some (.int .u64 aw) ∧ w'.cell? ⟨w.heap.size + 1, 1, none⟩ = some (.int .u32 al) ∧ w'.cell? ⟨w.heap.size + 1, 2, none⟩ = some (.int .u32 an) ∧ w'.cell? ⟨p, oo, none⟩ = some (.map m1) ∧ w'.cell? ⟨w1.heap.size, 0, none⟩ = some (.int .u32 jc) ∧ w'.cell? ⟨w1.heap.size, 1, none⟩ = some (.int .u32 js) ∧ (Instr.lookup 68 (.map m1) (.agg #[.int .u32 jc, .int .u32 js]) false).run Tryz.prog w' = .ok (.agg #[.int .u32 v.h.id.1, .int .u32 v.h.id.2, .int .u32 v.h.home, .int .u64 v.h.w, .int .u32 v.h.l, .int .u32 v.h.n, .slice v.ra v.h.rs.length v.rc, .slice v.wa v.h.ws.length v.wc]) w' ∧ Below wz.heap.size wz w')
      ((refine (fun (hB : Below wz.heap.size wz _) => ⟨cell_later hB s0, cell_later hB s1, cell_later hB a0, cell_later hB a1, cell_later hB a2, cell_later hB cz0, cell_later hB z0, cell_later hB z1, HLK.out _ hB, hB⟩) ?_; (repeat (first | exact Below.refl _ _ | assumption | refine Below.drew ?_ | refine Below.al ?_ _ | refine Below.setCell ?_ (by first | exact Nat.le_refl _ | (simp; omega) | (simp; done)) _ | refine Below.on ?_ (by assumption)))))
      (first
       | (go_at_call 119; refine (IN.out _).mono ?_; rintro e w7 ⟨rfl, hw7⟩)
       | (go_at_call 59; refine (LS.out _).mono ?_; rintro e w8 ⟨rfl, hw8⟩))
     all_goals (try go_wp2_with fail)
     all_goals go_meet
     all_goals refine ⟨by simp, hid ?_⟩
     all_goals ((repeat (first | exact Below.refl _ _ | assumption | refine Below.drew ?_ | refine Below.al ?_ _ | refine Below.setCell ?_ (by first | exact Nat.le_refl _ | (simp; omega) | (simp; done)) _ | refine Below.on ?_ (by assumption))))
   case rest =>
    obtain ⟨rfl, HN2⟩ := hcut; rename World => wN
    have z0 := cell_later HN2.out z0; have z1 := cell_later HN2.out z1; have HXN : Hid (Below wx.heap.size wx wN) := Below.on HXZ.out HN2.out; have HRN := hid (HR1.out.later HN2.out); have HON : Hid (OwnI wx.heap.size wN (.slice a n c) n X) := owns_keep HOZ.out fun g hg => HN2.out.block g (HOZ.out.lt g hg).2
    have HPN : Hid ((done ++ [(key, (jc, js))] ++ todo').Perm I) := by
     refine List.Perm.trans ?_ HP.out; rw [List.append_assoc]; exact List.Perm.append_left _ HPM.out.symm
    have HNN : Hid (n + 1 + todo'.length ≤ I.length) := by have := HN.out.2; show _ ≤ _; omega
    have HXM : Hid (∀ i, (∃ q ∈ done ++ [(key, (jc, js))], q.2 = i ∧ pick V s aw al an q) ↔ (i ∈ X ∨ (i = (jc, js) ∧ (u1 && !late) = true))) := fun i => by
     rw [HX.out i, ← HPK.out]; constructor
     ·rintro ⟨q, hq, e, hp⟩; rcases List.mem_append.1 hq with hq | hq
      ·exact .inl ⟨q, hq, e, hp⟩
      ·simp at hq; subst hq; exact .inr ⟨e.symm, hp⟩
     ·rintro (⟨q, hq, e, hp⟩ | ⟨rfl, hp⟩)
      ·exact ⟨q, by simp [hq], e, hp⟩
      ·exact ⟨_, by simp, rfl, hp⟩
    clear HR1 HOZ HXZ HN2 HPM HPK IN LS HLK s0 s1 a0 a1 a2 cz0 hfd hen hn HX; generalize hcond : (u1 && !late) = cond at *
    clear hcond; cases cond with
    | false =>
     have HX2 : Hid (∀ i, i ∈ X ↔ ∃ q ∈ done ++ [(key, (jc, js))], q.2 = i ∧ pick V s aw al an q) := fun i => by rw [HXM.out i]; simp
     clear HXM; go_wp2_with fail
     go_roundg todo'.length
     case measure => omega
     case rel => exact ⟨todo', done ++ [(key, (jc, js))], X, a, n, c, rfl, rfl, ⟨HN.out.1, by have := HNN.out; omega⟩, HON, HRN, HXN, HPN, HX2⟩
    | true =>
     have HX2 : Hid (∀ i, i ∈ X ++ [(jc, js)] ↔ ∃ q ∈ done ++ [(key, (jc, js))], q.2 = i ∧ pick V s aw al an q) := fun i => by rw [HXM.out i]; simp
     clear HXM; obtain ⟨w5, hw5⟩ : ∃ w5, w5 = wN.alloc (.cells #[.int .u32 jc, .int .u32 js] 38) := ⟨_, rfl⟩; have hb5 : Below wN.heap.size wN w5 := by rw [hw5]; exact Below.al (Below.refl _ _) _
     have HO5 : Hid (OwnI wx.heap.size w5 (.slice a n c) n X) := owns_keep HON.out fun g hg => hb5.block g (HON.out.lt g hg).2
     have blk5 : w5.heap[wN.heap.size]? = some (.cells (ics (jc, js)).toArray 38) := by rw [hw5]; exact (MapKept.heap_alloc _ _).1
     have HCL : Hid (∀ j x, (ics (jc, js))[j]? = some x → w5.cell? ((⟨wN.heap.size, 0, none⟩ : Addr).add j) = some x) := fun j x hj => by
      rw [Addr.add_lit, Nat.zero_add]; exact cell_of_obj blk5 (by simpa using hj)
     have HX5 : Hid (Below wx.heap.size wx w5) := Below.on HXN.out hb5; have HR5 := hid (HRN.out.later hb5); have hs5 : wx.heap.size ≤ w5.heap.size := HX5.out.size; have hnb : n + 1 ≤ 33554432 := by have := HNN.out; omega
     clear hb5 blk5 HRN HON HXN; go_wp2_with (at_builtin; refine wpList_append_own _ rfl _ _ 114 rfl wx.heap.size 38 i0 (.agg #[.int .u32 0, .int .u32 0]) 2 8 Tryz.underlying114 hi hz0 hz1 hz2 rfl (by decide) (.slice a n c) n (X.flatMap ics) rfl (by rw [← hw5]; exact HO5.out) ⟨wN.heap.size, 0, none⟩ 1 1 (ics (jc, js)) rfl rfl (by rw [← hw5]; exact HCL.out) (ics_one _) (by unfold maxLen; omega) (by omega) (by rw [← hw5]; exact hs5) ?_)
     intro v2 w6 hown hgrow hnil; rw [← hw5] at hgrow; obtain ⟨a2, c2, rfl⟩ := owns_slice hown; have hB6 : Below wx.heap.size wx w6 := Below.grown HX5.out hgrow (by exact hs5) (fun k hk => (HO5.out.lt k hk).1); have hnot : ∀ b, (∀ cs t z, w5.heap[b]? ≠ some (.cells cs t z)) → b < w5.heap.size → w6.heap[b]? = w5.heap[b]? := fun b h1 h2 => hgrow.block b h2 (fun e => by
      obtain ⟨cur, hc⟩ := own_type HO5.out e.symm; exact h1 _ _ _ hc)
     have R5 := HR5.out; have R6 : RngO Value.string ixv w6 m2 r I todo' := by
      refine R5.same (fun b e => ?_) ?_
      ·subst e; refine hnot b ?_ (R5.lt.2 b rfl); intro cs t z hc; obtain ⟨es, clock, _, _, _, hb, _⟩ := R5.at; rw [hc] at hb; cases hb
      ·refine hnot _ ?_ R5.lt.1; intro cs t z hc; cases m2 with
       | none => have := R5.2.2; rw [hc] at this; cases this
       | some b =>
        obtain ⟨es, clock, since, seen, c0, _, _, _, _, hr, _⟩ := R5.at; rw [hc] at hr; cases hr
     have HFin : Hid ((X ++ [(jc, js)]).length = n + 1 ∧ OwnI wx.heap.size w6 (.slice a2 (n + 1) c2) (n + 1) (X ++ [(jc, js)]) ∧ RngO Value.string ixv w6 m2 r I todo' ∧ Below wx.heap.size wx w6) := by
      refine ⟨by rw [List.length_append, HN.out.1]; rfl, ?_, R6, hB6⟩; unfold OwnI; rw [List.flatMap_append]; simpa using hown
     clear hown hgrow hnil hB6 hnot R5 R6; go_wp2_with fail
     go_roundg todo'.length
     case measure => omega
     case rel =>
      obtain ⟨h1, h2, h3, h4⟩ := HFin.out; exact ⟨todo', done ++ [(key, (jc, js))], X ++ [(jc, js)], a2, n + 1, c2, rfl, rfl, ⟨h1, HNN.out⟩, h2, h3, h4, HPN, HX2⟩
end Go.Proofs.YtneojeidpfjpbaaGreatDoor.Lk
namespace Go.Proofs.YtneojeidpfjpbaaGreatDoor.Ys
open Go.RowKit Go.Sort
theorem ints_len {M : List Lk.Hd} {I : Lk.It} (ok : Lk.Ok M I) (h16 : ∀ h ∈ M, h.ws.length ≤ 16) : I.length ≤ 16 * M.length := by
 have hnd : (I.map (·.1)).Nodup := ok.keys; have hsub : ∀ k ∈ I.map (·.1), k ∈ M.flatMap fun h => h.ws.map Wr.key := fun k hk => by
  obtain ⟨⟨k', i⟩, hp, rfl⟩ := List.mem_map.1 hk; obtain ⟨h, hh, _, x, hx, e⟩ := (ok.tie k' i).1 hp; exact List.mem_flatMap.2 ⟨h, hh, List.mem_map.2 ⟨x, hx, e⟩⟩
 have h1 : (I.map (·.1)).length ≤ (M.flatMap fun h => h.ws.map Wr.key).length := List.Nodup.length_le_of_subset hnd hsub; have h2 : ∀ l : List Lk.Hd, (∀ h ∈ l, h.ws.length ≤ 16) → (l.flatMap fun h => h.ws.map Wr.key).length ≤ 16 * l.length := by
  intro l; induction l with
  | nil => intro _; simp
  | cons a l ih =>
   intro hl; rw [List.flatMap_cons, List.length_append, List.length_map, List.length_cons]; have := ih fun h hh => hl h (by simp [hh])
   have := hl a (by simp); omega
 rw [List.length_map] at h1; exact Nat.le_trans h1 (h2 M h16)
end Go.Proofs.YtneojeidpfjpbaaGreatDoor.Ys
namespace Go.Proofs.YtneojeidpfjpbaaGreatDoor.Vs
open Go.RowKit Go.Sort
def valV (o : Option ByteArray) : Value := .tuple #[.string (o.getD ⟨#[]⟩), .bool o.isSome]
theorem value_is {w : World} {k : ByteArray} {h : Hd} (t : Sp) (r : Row w k h) (hr : Ris h.vs) (hn : h.n ≤ 1152921504606846976) :
  Calls Tryz.prog 118 #[.slice (some ⟨h.g, 0, none⟩) h.n h.cap, sv t] w fun e w' => e = .returned (valV (valAt h.vs t)) ∧ Below w.heap.size w w' := by
 have hul := upTo_le h.vs t; rw [r.len] at hul; have hb0 : Below w.heap.size w (w.alloc (.cells #[.int .u64 t.a, .int .u32 t.b, .int .u32 t.c] 28)) := Below.al (Below.refl _ _) _; have HU := hid (upTo_is t (r.later hb0) hr hn); cases hu : upTo h.vs t with
 | zero =>
  rw [hu] at HU; have HV := hid (val_zero hu); clear r hr hul hu hb0; go_enter Tryz.func118, Tryz.ntmps118
  go_wp2_with (go_at_call 135; refine HU.out.mono ?_; rintro e w1 ⟨rfl, hb1⟩)
  go_ret2
  exact ⟨by rw [HV.out]; rfl, by (repeat (first | exact Below.refl _ _ | assumption | refine Below.drew ?_ | refine Below.al ?_ _ | refine Below.setCell ?_ (by first | exact Nat.le_refl _ | (simp; omega) | (simp; done)) _ | refine Below.on ?_ (by assumption)))⟩
 | succ m =>
  rw [hu] at HU hul; have HV := hid (val_succ hr hu); have hc := (r.later hb0).at (i := m) (by omega); obtain ⟨g, n, cap, vs⟩ := h; simp only at hc HV HU hul hn ⊢; obtain ⟨v, hv⟩ : ∃ v, v = nthV vs m := ⟨_, rfl⟩; rw [← hv] at hc HV; obtain ⟨s, d, x⟩ := v; have HC := hid hc; have q0 : ((m : Int) + 1 == 0) = false := by rw [beq_eq_false_iff_ne]; omega
  have q1 : IntKind.i64.wrap (m : Int) = (m : Int) := by rw [IntKind.wrap_i64]; omega
  clear r hr hu hv hc hb0; cases d with
  | true =>
   go_enter Tryz.func118, Tryz.ntmps118
   go_wp2_with (go_at_call 135; refine HU.out.mono ?_; rintro e w1 ⟨rfl, hb1⟩; have c4 := (HC.out.later hb1).c4; simp only at c4)
   go_ret2
   exact ⟨by rw [HV.out]; rfl, by (repeat (first | exact Below.refl _ _ | assumption | refine Below.drew ?_ | refine Below.al ?_ _ | refine Below.setCell ?_ (by first | exact Nat.le_refl _ | (simp; omega) | (simp; done)) _ | refine Below.on ?_ (by assumption)))⟩
  | false =>
   go_enter Tryz.func118, Tryz.ntmps118
   go_wp2_with (go_at_call 135; refine HU.out.mono ?_; rintro e w1 ⟨rfl, hb1⟩; have c4 := (HC.out.later hb1).c4; have c5 := (HC.out.later hb1).c5; simp only at c4 c5)
   go_ret2
   exact ⟨by rw [HV.out]; rfl, by (repeat (first | exact Below.refl _ _ | assumption | refine Below.drew ?_ | refine Below.al ?_ _ | refine Below.setCell ?_ (by first | exact Nat.le_refl _ | (simp; omega) | (simp; done)) _ | refine Below.on ?_ (by assumption)))⟩
end Go.Proofs.YtneojeidpfjpbaaGreatDoor.Vs
