import Derived.Test.YtfdbffadajepfaaGreatStateSnapshotC01
import Derived.Test.YtfdbffadajepfaaGreatB35
import Derived.Test.YtfdbffadajepfaaGreatB36
import Derived.Test.YtfdbffadajepfaaGreatB39
import Derived.Test.YtfdbffadajepfaaGreatB40
/- Blocks. -/
namespace Go.Proofs.YtfdbffadajepfaaGreat.Lk
open Go.RowKit Go.Sort Go.Shelf Go.Lib
set_option linter.unusedVariables false

theorem ics_len (i : Ix) : (ics i).length = 2 := rfl
theorem ics_one (i : Ix) : ∀ x ∈ ics i, x.oneCell' = true := by
  intro x hx
  simp [ics] at hx
  rcases hx with rfl | rfl <;> rfl
/-- a row of ids is sorted -/
theorem sortT_is {w : World} {B n : Nat} {a : Option Addr} {c : Nat} {U : List Ix} (h : OwnI B w (.slice a n c) n U) (hn : U.length = n) (hl : n < 4611686018427387904) :
    Calls Tryz.prog 45 #[.slice a n c, .func (.func 46) #[] #[]] w fun e w' => e = .returned (.tuple #[]) ∧
      ∃ U', U'.Perm U ∧ U'.Pairwise (fun x y => ltI y x = false) ∧ OwnI B w' (.slice a n c) n U' ∧ Onl (fun b => (Value.slice a n c).ownBlock = some b) w w' := by
  by_cases h0 : n = 0
  · letI : Inhabited Ix := ⟨(0, 0)⟩
    subst h0
    have e : U = [] := List.eq_nil_of_length_eq_zero hn
    subst e
    have hcon := AnyF.slices_SortFunc_none { Tryz.sortT with } a c (.func (.func 46) #[] #[]) w
    change Calls Tryz.prog 45 _ _ _ at hcon
    refine hcon.mono ?_
    rintro e w' ⟨rfl, rfl⟩
    exact ⟨rfl, [], List.Perm.refl _, by simp, h, Onl.refl _ _⟩
  · obtain ⟨g, rfl, _, _⟩ := own_cells h (by omega)
    have hlt : g < w.heap.size := (h.lt g rfl).2
    have eg : ∀ args w, (callFunc 46 args).run Tryz.prog w = .ok (.enter 46 args) w := enters_of Tryz.func46 (by kernel_rfl) rfl
    have hcmp : CmpLays Tryz.prog 46 #[] ics 2 (fun x y => cmpI x y) g 0 U.toArray.size w := fun _ _ _ _ x y => byID_is x y _
    have hcon := AnyQ.slices_SortFunc Tryz.sortT 2 Tryz.isAgg43 Tryz.sizeOf43 ics ics_len ics_one (fun x y : Ix => cmpI x y) (swo_of fun x : Ix => x) 46 #[] g 0 c U.toArray w eg hcmp (holds_row ics_len (by decide) h) hlt (by simpa [hn] using hl)
    change Calls Tryz.prog 45 _ _ _ at hcon
    simp only [List.size_toArray, hn] at hcon
    refine hcon.mono ?_
    rintro e w' ⟨rfl, d', m, os, hp, hs, rfl⟩
    have hp' : PermIn 0 U.toArray.size U.toArray d' := by simpa [hn] using hp
    have hsz : d'.size = U.toArray.size := hp'.1
    have hs' : SortedIn (ltOf fun x y : Ix => cmpI x y) 0 d'.size d' := by rw [hsz]; simpa [hn] using hs
    have hpm := perm_of hp'
    have hso := sorted_of hs'
    obtain ⟨h1, h2⟩ := sorted_row (ys := d'.toList) ics_len (by decide) h (by simpa using hsz) m os
    refine ⟨rfl, d'.toList, by simpa using hpm, ?_, by unfold OwnI; simpa using h1, ?_⟩
    · refine hso.imp fun {x y} hxy => ?_
      rw [← cmp_lt]; exact hxy
    · refine Onl.mono (by simpa using h2) (fun b hb => by rw [hb]; rfl)

theorem infoTx : (Tryz.prog.info? 43).map (fun i => (i.zero, i.size, i.bytes)) = some (some (.agg #[.int .u32 0, .int .u32 0]), 2, 8) := by kernel_rfl
theorem field_at (a b c d e f : Int) (ra wa : Option Addr) (rn rc wn wc : Nat) (w : World) : (Instr.field 62 (.agg #[.int .u32 a, .int .u32 b, .int .u32 c, .int .u64 d, .int .u32 e, .int .u32 f, .slice ra rn rc, .slice wa wn wc]) 2).run Tryz.prog w = .ok (.agg #[.int .u64 d, .int .u32 e, .int .u32 f]) w := by kernel_rfl
theorem iter_neS {m : Option Nat} {r : Nat} {w : World} {ps todo : List (ByteArray × Ix)} (h : RngO Value.string ixv w m r ps todo) {g : Nat} {t : TypeId} (hg : ∃ cur, w.heap[g]? = some (.cells cur t (0, 0))) : ¬ g = r := by
  rintro rfl
  obtain ⟨cur, hc⟩ := hg
  cases m with
  | none => have := h.2.2; rw [hc] at this; cases this
  | some b =>
    obtain ⟨es, clock, since, seen, c0, _, _, _, _, hr, _⟩ := h.at
    rw [hc] at hr; cases hr
/-- what is told of the intents that were looked at -/
def pick (V : List Hv) (s : T2) (aw al an : Int) (p : ByteArray × Ix) : Prop := insB p.1 s = true ∧ ∃ v ∈ V, v.h.id = p.2 ∧ lessB aw al an v.h.w v.h.l v.h.n = false

set_option maxRecDepth 8000 in
set_option maxHeartbeats 4000000 in
theorem blocks_is {w : World} {p oo : Nat} {ty : TypeId} {m1 m2 : Option Nat} {V : List Hv} {I : It} {s : T2} {aw al an : Int} (T : TbO w p oo ty m1 m2 V I) (hI : I.length ≤ 33554432) :
    Calls Tryz.prog 24 #[.pointer (some ⟨p, oo, none⟩), .agg #[.string s.1, .string s.2], .agg #[.int .u64 aw, .int .u32 al, .int .u32 an]] w fun e w' => ∃ (a : Option Addr) (m c : Nat) (D : List Ix), e = .returned (.slice a m c) ∧ Hid (D.length = m) ∧ Hid (RowI w' a D) ∧
      Hid (D.Pairwise (fun x y => ltI x y = true)) ∧ Hid (∀ i, i ∈ D ↔ ∃ h ∈ V.map Hv.h, h.id = i ∧ blkB s aw al an h = true) ∧ Hid (Below w.heap.size w w') := by
  obtain ⟨wx, hwx⟩ : ∃ wx, wx = (w.alloc (.cells #[.string s.1, .string s.2] 25)).alloc (.cells #[.int .u64 aw, .int .u32 al, .int .u32 an] 28) := ⟨_, rfl⟩
  have hbx : Below w.heap.size w wx := by rw [hwx]; exact Below.al (Below.al (Below.refl _ _) _) _
  have hsx : wx.heap.size = w.heap.size + 2 := by rw [hwx]; simp
  have S0 : Hid (wx.cell? ⟨w.heap.size, 0, none⟩ = some (.string s.1)) := by rw [hwx]; exact hid (by simp [go_sem])
  have S1 : Hid (wx.cell? ⟨w.heap.size, 1, none⟩ = some (.string s.2)) := by rw [hwx]; exact hid (by simp [go_sem])
  have A0 : Hid (wx.cell? ⟨w.heap.size + 1, 0, none⟩ = some (.int .u64 aw)) := by rw [hwx]; exact hid (by simp [go_sem])
  have A1 : Hid (wx.cell? ⟨w.heap.size + 1, 1, none⟩ = some (.int .u32 al)) := by rw [hwx]; exact hid (by simp [go_sem])
  have A2 : Hid (wx.cell? ⟨w.heap.size + 1, 2, none⟩ = some (.int .u32 an)) := by rw [hwx]; exact hid (by simp [go_sem])
  have T0 := T.later hbx
  have c1 := T0.c1
  obtain ⟨o, hr, R0⟩ := T0.ints.range (P := Tryz.prog) Tryz.underlying69
  obtain ⟨i0, hi, hz0, hz1, hz2⟩ := info_of infoTx
  obtain ⟨r, hrr⟩ : ∃ r, r = wx.heap.size := ⟨_, rfl⟩
  rw [← hrr] at hr R0
  have RR := hid R0
  have HT := hid T0
  have HBX := hid hbx
  have HSX := hid hsx
  have HRR := hid hrr
  clear T T0 hbx hsx hrr R0
  have c1' : ((w.alloc (.cells #[.string s.1, .string s.2] 25)).alloc (.cells #[.int .u64 aw, .int .u32 al, .int .u32 an] 28)).cell? ⟨p, oo + 1, none⟩ = some (.map m2) := by rw [← hwx]; exact c1
  rw [hwx] at hr
  go_enter Tryz.func24, Tryz.ntmps24
  go_wp2_with fail
  rw [← hwx]
  clear hwx hr c1' c1
  go_loopg [7] I.length (fun g s7 wr => ∃ (todo done : It) (X : List Ix) (a : Option Addr) (n c : Nat), g = todo.length ∧ s7 = .slice a n c ∧ Hid (X.length = n ∧ n + todo.length ≤ I.length) ∧ Hid (OwnI wx.heap.size wr (.slice a n c) n X) ∧ Hid (RngO Value.string ixv wr m2 r I todo) ∧ Hid (Below wx.heap.size wx wr) ∧
    Hid ((done ++ todo).Perm I) ∧ Hid (∀ i, i ∈ X ↔ ∃ q ∈ done, q.2 = i ∧ pick V s aw al an q))
  case atStart => exact ⟨I, [], [], none, 0, 0, rfl, rfl, ⟨rfl, by omega⟩, ⟨rfl, .inl ⟨rfl, rfl⟩⟩, RR, Below.al (Below.refl _ _) _, List.Perm.refl _, fun i => by simp⟩
  case round =>
    obtain ⟨todo, done, X, a, n, c, rfl, rfl, HN, HO, HG, HB, HP, HX⟩ := hrel
    clear RR
    rcases HG.out.next Tryz.prog with ⟨rfl, hn⟩ | ⟨⟨key, j⟩, todo', w1, hpm, hpI, hn, R1, hen, hon, hsz⟩
    · have SO := hid (sortT_is HO.out HN.out.1 (by have := HN.out.2; omega))
      go_wp2_with fail
      refine SO.out.mono ?_
      rintro e w2 ⟨rfl, X', hpX, hsX, hoX, honX⟩
      have hl' : X'.length = n := by rw [hpX.length_eq]; exact HN.out.1
      have CO := hid (compact_is hoX hl')
      have HPX := hid hpX
      have HSX' := hid hsX
      have HL' := hid hl'
      have HB2 : Hid (Below w.heap.size w w2 ∧ w.heap.size ≤ w2.heap.size ∧ ∀ b, (Value.slice a n c).ownBlock = some b → w.heap.size ≤ b) := by
        have h1 : Below w.heap.size w wr := Below.on HBX.out HB.out
        have h2 : ∀ b, (Value.slice a n c).ownBlock = some b → w.heap.size ≤ b := fun b hb => by have := (HO.out.lt b hb).1; have := HSX.out; omega
        have h3 := h1.trans (honX.below (B := w.heap.size) h2 h1.size)
        exact ⟨h3, h3.size, h2⟩
      clear SO hpX hsX hoX honX hl' hn
      go_wp2_with fail
      refine CO.out.mono ?_
      rintro e w3 ⟨m, rfl, HL, HRow, HOn⟩
      have HRI : Hid ((compactUpTo X'.toArray n).Pairwise (fun x y => ltI x y = true)) := comp_rise (fun i j hij hj => by
        have h1 := List.pairwise_iff_getElem.1 HSX'.out i j (by rw [HL'.out]; omega) (by rw [HL'.out]; exact hj) hij
        simpa [HL'.out, hj, show i < n by omega] using h1)
      have HME : Hid (∀ i, i ∈ compactUpTo X'.toArray n ↔ ∃ h ∈ V.map Hv.h, h.id = i ∧ blkB s aw al an h = true) := fun i => by
        have h1 : i ∈ compactUpTo X'.toArray n ↔ i ∈ X := by
          rw [← HPX.out.mem_iff]
          constructor
          · intro h
            obtain ⟨j, hj, rfl⟩ := comp_sub h
            have hj' : j < X'.length := by rw [HL'.out]; exact hj
            have : X'.toArray[j]! = X'[j] := by simp [hj']
            rw [this]; exact List.getElem_mem hj'
          · intro h
            obtain ⟨j, hj, rfl⟩ := List.getElem_of_mem h
            have : X'.toArray[j]! = X'[j] := by simp [hj]
            rw [← this]; exact comp_mem (by rw [← HL'.out]; exact hj)
        rw [h1, HX.out i]
        have hP := HP.out
        rw [List.append_nil] at hP
        constructor
        · rintro ⟨⟨k, i'⟩, hq, rfl, hk, v, hv, hid', hl⟩
          obtain ⟨h, hh, e1, x, hx, e2⟩ := (HT.out.ok.tie k i').1 (hP.mem_iff.1 hq)
          have : h = v.h := nodup_inj HT.out.ok.ids hh (List.mem_map.2 ⟨v, hv, rfl⟩) (e1.trans hid'.symm)
          subst this
          refine ⟨_, hh, e1, ?_⟩
          simp only [blkB, Bool.and_eq_true, List.any_eq_true, hl, Bool.not_false, and_true]
          exact ⟨x, hx, by rw [e2]; exact hk⟩
        · rintro ⟨h, hh, rfl, hb⟩
          simp only [blkB, Bool.and_eq_true, List.any_eq_true, Bool.not_eq_true'] at hb
          obtain ⟨⟨x, hx, hk⟩, hl⟩ := hb
          obtain ⟨v, hv, rfl⟩ := List.mem_map.1 hh
          exact ⟨(x.key, v.h.id), hP.mem_iff.2 ((HT.out.ok.tie _ _).2 ⟨_, hh, rfl, x, hx, rfl⟩), rfl, hk, v, hv, rfl, hl⟩
      have HBE : Hid (Below w.heap.size w w3) := HB2.out.1.trans (HOn.out.below (B := w.heap.size) HB2.out.2.2 HB2.out.2.1)
      clear CO
      go_wp2_with fail
      go_ret
      exact ⟨a, m, c, _, rfl, HL, HRow, HRI, HME, HBE⟩
    · obtain ⟨jc, js⟩ := j
      have hb1 : Below wx.heap.size wx w1 := HB.out.trans (hon.below (B := wx.heap.size) (fun k hk => by have := HRR.out; omega) HB.out.size)
      have hO1 : OwnI wx.heap.size w1 (.slice a n c) n X := owns_keep HO.out fun g hg => hon.block g (HO.out.lt g hg).2 (iter_neS HG.out (own_type HO.out hg))
      have hpl : todo'.length + 1 = todo.length := by have := hpm.length_eq; simpa using this.symm
      have T1 := HT.out.later hb1
      obtain ⟨v, hvV, hvid, hlook⟩ : ∃ v ∈ V, v.h.id = (jc, js) ∧ ∀ W, (∀ b, m1 = some b → W.heap[b]? = w1.heap[b]?) → (Instr.lookup 68 (.map m1) (.agg #[.int .u32 jc, .int .u32 js]) false).run Tryz.prog W = .ok (.agg #[.int .u32 v.h.id.1, .int .u32 v.h.id.2, .int .u32 v.h.home, .int .u64 v.h.w, .int .u32 v.h.l, .int .u32 v.h.n, .slice v.ra v.h.rs.length v.rc, .slice v.wa v.h.ws.length v.wc]) W := by
        obtain ⟨h, hh, e1, -⟩ := (HT.out.ok.tie key (jc, js)).1 hpI
        obtain ⟨v0, hv0, rfl⟩ := List.mem_map.1 hh
        rcases T1.held.looks (P := Tryz.prog) ids Tryz.underlying68 zero_hv (jc, js) with ⟨hn, _⟩ | ⟨v, hv, hl⟩
        · exact absurd (by rw [prs_keys]; exact List.mem_map.2 ⟨_, hh, e1⟩) hn
        · obtain ⟨v', hv', e⟩ := List.mem_map.1 hv
          injection e with e2 e3
          subst e3
          exact ⟨v', hv', e2, fun W hW => hl W hW false⟩
      obtain ⟨u1, hu1⟩ : ∃ u1, insB key s = u1 := ⟨_, rfl⟩
      obtain ⟨late, hla⟩ : ∃ late, lessB aw al an v.h.w v.h.l v.h.n = late := ⟨_, rfl⟩
      obtain ⟨wz, hwz⟩ : ∃ wz, wz = w1.alloc (.cells #[.int .u32 jc, .int .u32 js] 43) := ⟨_, rfl⟩
      have hbz : Below w1.heap.size w1 wz := by rw [hwz]; exact Below.al (Below.refl _ _) _
      have hxz : Below wx.heap.size wx wz := Below.on hb1 hbz
      have z0 : wz.cell? ⟨w1.heap.size, 0, none⟩ = some (.int .u32 jc) := by rw [hwz]; simp [go_sem]
      have z1 : wz.cell? ⟨w1.heap.size, 1, none⟩ = some (.int .u32 js) := by rw [hwz]; simp [go_sem]
      have s0 := cell_later hxz S0.out
      have s1 := cell_later hxz S1.out
      have a0 := cell_later hxz A0.out
      have a1 := cell_later hxz A1.out
      have a2 := cell_later hxz A2.out
      have Tz := HT.out.later hxz
      have cz0 := Tz.c0
      have HLK : Hid (∀ W, Below wz.heap.size wz W → (Instr.lookup 68 (.map m1) (.agg #[.int .u32 jc, .int .u32 js]) false).run Tryz.prog W = .ok (.agg #[.int .u32 v.h.id.1, .int .u32 v.h.id.2, .int .u32 v.h.home, .int .u64 v.h.w, .int .u32 v.h.l, .int .u32 v.h.n, .slice v.ra v.h.rs.length v.rc, .slice v.wa v.h.ws.length v.wc]) W) := fun W hB => hlook W (fun b e => ((hB.block b (Tz.held.lt b e)).trans (hbz.block b (T1.held.lt b e))))
      have IN : Hid (∀ W, Calls Tryz.prog 44 #[.string key, .agg #[.string s.1, .string s.2]] W fun e w' => e = .returned (.bool u1) ∧ Below W.heap.size W w') := fun W => inside_is hu1 W
      have LS : Hid (∀ W, Calls Tryz.prog 9 #[.agg #[.int .u64 aw, .int .u32 al, .int .u32 an], .agg #[.int .u64 v.h.w, .int .u32 v.h.l, .int .u32 v.h.n]] W fun e w' => e = .returned (.bool late) ∧ Below W.heap.size W w') := fun W => less_is hla W
      have HPK : Hid (pick V s aw al an (key, (jc, js)) ↔ (u1 && !late) = true) := by
        show _ ↔ _
        rw [Bool.and_eq_true, Bool.not_eq_true']
        constructor
        · rintro ⟨h1, v', hv', e, hl⟩
          have : v' = v := by
            have e1 : v'.h = v.h := nodup_inj HT.out.ok.ids (List.mem_map.2 ⟨v', hv', rfl⟩) (List.mem_map.2 ⟨v, hvV, rfl⟩) (e.trans hvid.symm)
            have hnd := HT.out.held.nodup ids
            rw [show (prs V).map (·.1) = V.map (fun v => v.h.id) by simp [prs, List.map_map, Function.comp_def]] at hnd
            exact nodup_inj hnd hv' hvV (e.trans hvid.symm)
          subst this
          exact ⟨hu1.symm.trans h1, hla.symm.trans hl⟩
        · rintro ⟨h1, h2⟩
          exact ⟨hu1.trans h1, v, hvV, hvid, hla.trans h2⟩
      have hfd := field_at v.h.id.1 v.h.id.2 v.h.home v.h.w v.h.l v.h.n v.ra v.wa v.h.rs.length v.rc v.h.ws.length v.wc
      have HR1 := hid (R1.later hbz)
      have HOZ : Hid (OwnI wx.heap.size wz (.slice a n c) n X) := owns_keep hO1 fun g hg => hbz.block g (hO1.lt g hg).2
      have HXZ := hid hxz
      have HPM := hid hpm
      simp only [ixv] at hn hen
      clear R1 hb1 hO1 hpm hpI hon hsz T1 Tz hlook hvV hvid hu1 hla hxz hbz HO HG HB
      go_wp2_with fail
      rw [← hwz]
      clear hwz
      go_cut [34] (fun s34 wN => s34 = .bool (u1 && !late) ∧ Hid (Below wz.heap.size wz wN))
      case first =>
        cases u1 with
        | false =>
          have k0 := cell_regrown s0
          have k1 := cell_regrown s1
          refine wp_region_quiet_below (by kernel_rfl) (by kernel_rfl) ?_
          repeat (go_big_quiet_step (((go_at_call 44; exact Calls.regrown_of (IN.out _)))))
          refine wpQuiet_nil ?_
          intro wn hwn
          replace hwn := below_of_regrown hwn
          go_wp2_with fail
          go_meet
          exact ⟨rfl, hid hwn⟩
        | true =>
          go_region_held3 (fun w' => w'.cell? ⟨w.heap.size, 0, none⟩ = some (.string s.1) ∧ w'.cell? ⟨w.heap.size, 1, none⟩ = some (.string s.2) ∧ w'.cell? ⟨w.heap.size + 1, 0, none⟩ = some (.int .u64 aw) ∧ w'.cell? ⟨w.heap.size + 1, 1, none⟩ = some (.int .u32 al) ∧ w'.cell? ⟨w.heap.size + 1, 2, none⟩ = some (.int .u32 an) ∧ w'.cell? ⟨p, oo, none⟩ = some (.map m1) ∧ w'.cell? ⟨w1.heap.size, 0, none⟩ = some (.int .u32 jc) ∧ w'.cell? ⟨w1.heap.size, 1, none⟩ = some (.int .u32 js) ∧ (Instr.lookup 68 (.map m1) (.agg #[.int .u32 jc, .int .u32 js]) false).run Tryz.prog w' = .ok (.agg #[.int .u32 v.h.id.1, .int .u32 v.h.id.2, .int .u32 v.h.home, .int .u64 v.h.w, .int .u32 v.h.l, .int .u32 v.h.n, .slice v.ra v.h.rs.length v.rc, .slice v.wa v.h.ws.length v.wc]) w' ∧ Below wz.heap.size wz w')
            ((refine (fun (hB : Below wz.heap.size wz _) => ⟨cell_later hB s0, cell_later hB s1, cell_later hB a0, cell_later hB a1, cell_later hB a2, cell_later hB cz0, cell_later hB z0, cell_later hB z1, HLK.out _ hB, hB⟩) ?_; (repeat (first | exact Below.refl _ _ | assumption | refine Below.drew ?_ | refine Below.al ?_ _ | refine Below.setCell ?_ (by first | exact Nat.le_refl _ | (simp; omega) | (simp; done)) _ | refine Below.on ?_ (by assumption)))))
            (first
              | (go_at_call 44; refine (IN.out _).mono ?_; rintro e w7 ⟨rfl, hw7⟩)
              | (go_at_call 9; refine (LS.out _).mono ?_; rintro e w8 ⟨rfl, hw8⟩))
          all_goals (try go_wp2_with fail)
          all_goals go_meet
          all_goals refine ⟨by simp, hid ?_⟩
          all_goals ((repeat (first | exact Below.refl _ _ | assumption | refine Below.drew ?_ | refine Below.al ?_ _ | refine Below.setCell ?_ (by first | exact Nat.le_refl _ | (simp; omega) | (simp; done)) _ | refine Below.on ?_ (by assumption))))
      case rest =>
        obtain ⟨rfl, HN2⟩ := hcut
        rename World => wN
        have z0 := cell_later HN2.out z0
        have z1 := cell_later HN2.out z1
        have HXN : Hid (Below wx.heap.size wx wN) := Below.on HXZ.out HN2.out
        have HRN := hid (HR1.out.later HN2.out)
        have HON : Hid (OwnI wx.heap.size wN (.slice a n c) n X) := owns_keep HOZ.out fun g hg => HN2.out.block g (HOZ.out.lt g hg).2
        have HPN : Hid ((done ++ [(key, (jc, js))] ++ todo').Perm I) := by
          refine List.Perm.trans ?_ HP.out
          rw [List.append_assoc]
          exact List.Perm.append_left _ HPM.out.symm
        have HNN : Hid (n + 1 + todo'.length ≤ I.length) := by have := HN.out.2; show _ ≤ _; omega
        have HXM : Hid (∀ i, (∃ q ∈ done ++ [(key, (jc, js))], q.2 = i ∧ pick V s aw al an q) ↔ (i ∈ X ∨ (i = (jc, js) ∧ (u1 && !late) = true))) := fun i => by
          rw [HX.out i, ← HPK.out]
          constructor
          · rintro ⟨q, hq, e, hp⟩
            rcases List.mem_append.1 hq with hq | hq
            · exact .inl ⟨q, hq, e, hp⟩
            · simp at hq; subst hq; exact .inr ⟨e.symm, hp⟩
          · rintro (⟨q, hq, e, hp⟩ | ⟨rfl, hp⟩)
            · exact ⟨q, by simp [hq], e, hp⟩
            · exact ⟨_, by simp, rfl, hp⟩
        clear HR1 HOZ HXZ HN2 HPM HPK IN LS HLK s0 s1 a0 a1 a2 cz0 hfd hen hn HX
        generalize hcond : (u1 && !late) = cond at *
        clear hcond
        cases cond with
        | false =>
          have HX2 : Hid (∀ i, i ∈ X ↔ ∃ q ∈ done ++ [(key, (jc, js))], q.2 = i ∧ pick V s aw al an q) := fun i => by rw [HXM.out i]; simp
          clear HXM
          go_wp2_with fail
          go_roundg todo'.length
          case measure => omega
          case rel => exact ⟨todo', done ++ [(key, (jc, js))], X, a, n, c, rfl, rfl, ⟨HN.out.1, by have := HNN.out; omega⟩, HON, HRN, HXN, HPN, HX2⟩
        | true =>
          have HX2 : Hid (∀ i, i ∈ X ++ [(jc, js)] ↔ ∃ q ∈ done ++ [(key, (jc, js))], q.2 = i ∧ pick V s aw al an q) := fun i => by rw [HXM.out i]; simp
          clear HXM
          obtain ⟨w5, hw5⟩ : ∃ w5, w5 = wN.alloc (.cells #[.int .u32 jc, .int .u32 js] 43) := ⟨_, rfl⟩
          have hb5 : Below wN.heap.size wN w5 := by rw [hw5]; exact Below.al (Below.refl _ _) _
          have HO5 : Hid (OwnI wx.heap.size w5 (.slice a n c) n X) := owns_keep HON.out fun g hg => hb5.block g (HON.out.lt g hg).2
          have blk5 : w5.heap[wN.heap.size]? = some (.cells (ics (jc, js)).toArray 43) := by rw [hw5]; exact (MapKept.heap_alloc _ _).1
          have HCL : Hid (∀ j x, (ics (jc, js))[j]? = some x → w5.cell? ((⟨wN.heap.size, 0, none⟩ : Addr).add j) = some x) := fun j x hj => by
            rw [Addr.add_lit, Nat.zero_add]
            exact cell_of_obj blk5 (by simpa using hj)
          have HX5 : Hid (Below wx.heap.size wx w5) := Below.on HXN.out hb5
          have HR5 := hid (HRN.out.later hb5)
          have hs5 : wx.heap.size ≤ w5.heap.size := HX5.out.size
          have hnb : n + 1 ≤ 33554432 := by have := HNN.out; omega
          clear hb5 blk5 HRN HON HXN
          go_wp2_with (at_builtin; refine wpList_append_own _ rfl _ _ 39 rfl wx.heap.size 43 i0 (.agg #[.int .u32 0, .int .u32 0]) 2 8 Tryz.underlying39 hi hz0 hz1 hz2 rfl (by decide) (.slice a n c) n (X.flatMap ics) rfl (by rw [← hw5]; exact HO5.out) ⟨wN.heap.size, 0, none⟩ 1 1 (ics (jc, js)) rfl rfl (by rw [← hw5]; exact HCL.out) (ics_one _) (by unfold maxLen; omega) (by omega) (by rw [← hw5]; exact hs5) ?_)
          intro v2 w6 hown hgrow hnil
          rw [← hw5] at hgrow
          obtain ⟨a2, c2, rfl⟩ := owns_slice hown
          have hB6 : Below wx.heap.size wx w6 := Below.grown HX5.out hgrow (by exact hs5) (fun k hk => (HO5.out.lt k hk).1)
          have hnot : ∀ b, (∀ cs t z, w5.heap[b]? ≠ some (.cells cs t z)) → b < w5.heap.size → w6.heap[b]? = w5.heap[b]? := fun b h1 h2 => hgrow.block b h2 (fun e => by
            obtain ⟨cur, hc⟩ := own_type HO5.out e.symm
            exact h1 _ _ _ hc)
          have R5 := HR5.out
          have R6 : RngO Value.string ixv w6 m2 r I todo' := by
            refine R5.same (fun b e => ?_) ?_
            · subst e
              refine hnot b ?_ (R5.lt.2 b rfl)
              intro cs t z hc
              obtain ⟨es, clock, _, _, _, hb, _⟩ := R5.at
              rw [hc] at hb; cases hb
            · refine hnot _ ?_ R5.lt.1
              intro cs t z hc
              cases m2 with
              | none => have := R5.2.2; rw [hc] at this; cases this
              | some b =>
                obtain ⟨es, clock, since, seen, c0, _, _, _, _, hr, _⟩ := R5.at
                rw [hc] at hr; cases hr
          have HFin : Hid ((X ++ [(jc, js)]).length = n + 1 ∧ OwnI wx.heap.size w6 (.slice a2 (n + 1) c2) (n + 1) (X ++ [(jc, js)]) ∧ RngO Value.string ixv w6 m2 r I todo' ∧ Below wx.heap.size wx w6) := by
            refine ⟨by rw [List.length_append, HN.out.1]; rfl, ?_, R6, hB6⟩
            unfold OwnI
            rw [List.flatMap_append]
            simpa using hown
          clear hown hgrow hnil hB6 hnot R5 R6
          go_wp2_with fail
          go_roundg todo'.length
          case measure => omega
          case rel =>
            obtain ⟨h1, h2, h3, h4⟩ := HFin.out
            exact ⟨todo', done ++ [(key, (jc, js))], X ++ [(jc, js)], a2, n + 1, c2, rfl, rfl, ⟨h1, HNN.out⟩, h2, h3, h4, HPN, HX2⟩
end Go.Proofs.YtfdbffadajepfaaGreat.Lk
/- A read that nothing blocks, in plain words. -/
namespace Go.Proofs.YtfdbffadajepfaaGreat.Ys
open Go.RowKit Go.Sort
set_option linter.unusedVariables false

/-- what is held writes in the span above the stamp alone -/
def Free (s : Ps) (lo hi : ByteArray) (t : Vs.Sp) : Prop := ∀ h ∈ s.H, (∃ x ∈ h.ws, inS lo hi x.key = true) → t.lt (atH h) = true
/-- the read is the same -/
def SameR (s s' : Ps) (lo hi : ByteArray) (t : Vs.Sp) : Prop := Vs.rdE s'.M s'.wm lo hi t = Vs.rdE s.M s.wm lo hi t ∧ Vs.rdL s'.M s'.wm lo hi t = Vs.rdL s.M s.wm lo hi t
theorem SameR.refl (s : Ps) (lo hi : ByteArray) (t : Vs.Sp) : SameR s s lo hi t := ⟨rfl, rfl⟩
theorem SameR.trans {s s' s'' : Ps} {lo hi : ByteArray} {t : Vs.Sp} (h : SameR s s' lo hi t) (k : SameR s' s'' lo hi t) : SameR s s'' lo hi t := ⟨k.1.trans h.1, k.2.trans h.2⟩
theorem same_of {s s' : Ps} {lo hi : ByteArray} {t : Vs.Sp} (h1 : t.lt s'.wm = t.lt s.wm) (h2 : Vs.readM s'.M lo hi t = Vs.readM s.M lo hi t) : SameR s s' lo hi t := by
  unfold SameR Vs.rdL Vs.rdE
  rw [h1, h2]
  exact ⟨rfl, rfl⟩
theorem read_inst {M : Vs.Mst} (h : Vs.Rising M) {lo hi : ByteArray} {a t : Vs.Sp} (ws : List Wr) (hw : (∃ x ∈ ws, inS lo hi x.key = true) → t.lt a = true) : Vs.readM (Vs.instR M ws a) lo hi t = Vs.readM M lo hi t := by
  unfold Vs.instR
  split
  · rw [Vs.readM_is, Vs.readM_is]
    cases hl : t.lt a with
    | true => rw [read_above h hl]
    | false =>
      rw [read_from h hl]
      refine range_lay ws (Vs.readAll_rising h t) fun x hx => ?_
      cases hi' : inS lo hi x.key with
      | false => rfl
      | true => have := hw ⟨x, hx, hi'⟩; rw [hl] at this; cases this
  · rfl
section
variable {s : Ps} {lo hi : ByteArray} {t : Vs.Sp}
theorem free_sub {s' : Ps} (h : Free s lo hi t) (hs : ∀ x ∈ s'.H, x ∈ s.H) : Free s' lo hi t := fun x hx => h x (hs x hx)
theorem setS_M (s : Ps) (r : Rg) : (setS s r).M = s.M ∧ (setS s r).wm = s.wm ∧ (setS s r).H = Lk.dropM s.H (r.c, r.s) := by
  unfold setS layS
  split <;> exact ⟨rfl, rfl, rfl⟩
/-- a record that is taken leaves the read as it was -/
theorem snap_step (hg : Vs.Good s.M) (hf : Free s lo hi t) {r : Rg} (hk : r.k ≠ 5) (he : apE s r = 0) (h2 : r.k = 2 → t.lt (at' r) = true) (h4 : r.k = 4 → t.lt (at' r) = false) : SameR s (apS s r) lo hi t ∧ Free (apS s r) lo hi t := by
  have herr : r.err = 0 := by
    by_cases e : r.err = 0
    · exact e
    · rw [(ap_bad e).1] at he; cases he
  rcases rules_k (err_valid herr) hk with k | k | k | k
  · rw [(ap_1 herr k).2]
    unfold resS
    split
    · exact ⟨SameR.refl .., hf⟩
    · exact ⟨⟨rfl, rfl⟩, hf⟩
  · rw [(ap_2 herr k).1] at he
    rw [(ap_2 herr k).2, (prp_yes he).2.2.2.2.2.2]
    refine ⟨⟨rfl, rfl⟩, fun x hx hin => ?_⟩
    rcases List.mem_append.1 hx with hx | hx
    · exact hf x hx hin
    · rw [List.mem_singleton] at hx
      subst hx
      exact h2 k
  · rw [(ap_3 herr k).1] at he
    rw [(ap_3 herr k).2]
    cases h3 : (Lg.outM s.E (r.c, r.s)).isSome with
    | true => simp [dcdE, h3] at he
    | false =>
      by_cases ho : r.oc = 1
      · have he' : cmtE s r = 0 := by simpa [dcdE, h3, ho] using he
        rw [show dcdS s r = cmtS s r by simp [dcdS, h3, ho]]
        obtain ⟨h, _, hh, hid, _, ht, _, es⟩ := cmt_yes he'
        rw [es]
        obtain ⟨e1, e2, e3⟩ := setS_M { s with M := Vs.instR s.M h.ws (at' r) } r
        refine ⟨same_of (by rw [e2]) ?_, free_sub hf fun x hx => by rw [e3] at hx; exact (List.mem_filter.1 hx).1⟩
        rw [e1]
        exact read_inst hg.rising h.ws fun hin => by
          have h1 := hf h hh hin
          exact Vs.Sp.lt_le h1 ht
      · rw [show dcdS s r = setS s r by simp [dcdS, h3, ho]]
        obtain ⟨e1, e2, e3⟩ := setS_M s r
        exact ⟨same_of (by rw [e2]) (by rw [e1]), free_sub hf fun x hx => by rw [e3] at hx; exact (List.mem_filter.1 hx).1⟩
  · rw [(ap_4 herr k).2]
    unfold mrkS
    split
    · rename_i hl
      have hl' : s.wm.lt (at' r) = true := hl
      have ha := h4 k
      have e1 : Vs.prM s.M s.wm (at' r) = Vs.pruneM s.M (at' r) := by unfold Vs.prM; rw [hl']; rfl
      have e2 : Vs.prK s.wm (at' r) = at' r := by unfold Vs.prK; rw [hl']; rfl
      rw [e1, e2]
      refine ⟨same_of ?_ ?_, hf⟩
      · show t.lt (at' r) = t.lt s.wm
        rw [ha, Vs.Sp.le_trans (Vs.Sp.lt_asymm hl') ha]
      · show Vs.readM (Vs.pruneM s.M (at' r)) lo hi t = Vs.readM s.M lo hi t
        rw [Vs.readM_is, Vs.readM_is, Vs.pruneM_read hg ha]
    · exact ⟨SameR.refl .., hf⟩
end
end Go.Proofs.YtfdbffadajepfaaGreat.Ys
/- Blocks. -/
namespace Go.Proofs.YtfdbffadajepfaaGreat.Ys
open Go.RowKit Go.Sort
set_option linter.unusedVariables false

theorem ints_len {M : List Lk.Hd} {I : Lk.It} (ok : Lk.Ok M I) (h16 : ∀ h ∈ M, h.ws.length ≤ 16) : I.length ≤ 16 * M.length := by
  have hnd : (I.map (·.1)).Nodup := ok.keys
  have hsub : ∀ k ∈ I.map (·.1), k ∈ M.flatMap fun h => h.ws.map Wr.key := fun k hk => by
    obtain ⟨⟨k', i⟩, hp, rfl⟩ := List.mem_map.1 hk
    obtain ⟨h, hh, _, x, hx, e⟩ := (ok.tie k' i).1 hp
    exact List.mem_flatMap.2 ⟨h, hh, List.mem_map.2 ⟨x, hx, e⟩⟩
  have h1 : (I.map (·.1)).length ≤ (M.flatMap fun h => h.ws.map Wr.key).length := List.Nodup.length_le_of_subset hnd hsub
  have h2 : ∀ l : List Lk.Hd, (∀ h ∈ l, h.ws.length ≤ 16) → (l.flatMap fun h => h.ws.map Wr.key).length ≤ 16 * l.length := by
    intro l
    induction l with
    | nil => intro _; simp
    | cons a l ih =>
      intro hl
      rw [List.flatMap_cons, List.length_append, List.length_map, List.length_cons]
      have := ih fun h hh => hl h (by simp [hh])
      have := hl a (by simp)
      omega
  rw [List.length_map] at h1
  exact Nat.le_trans h1 (h2 M h16)
/-- does what is held block the read? -/
def blkA (s : Ps) (lo hi : ByteArray) (t : Vs.Sp) : Bool := s.H.any (Lk.blkB (lo, hi) t.a t.b t.c)
theorem free_of {s : Ps} {lo hi : ByteArray} {t : Vs.Sp} (h : blkA s lo hi t = false) : Free s lo hi t := fun x hx hin => by
  have := List.any_eq_false.1 h x hx
  unfold Lk.blkB at this
  have h1 : (x.ws.any fun y => Lk.insB y.key (lo, hi)) = true := by
    obtain ⟨y, hy, e⟩ := hin
    exact List.any_eq_true.2 ⟨y, hy, e⟩
  rw [h1] at this
  show lessB t.a t.b t.c x.w x.l x.n = true
  simpa using this
section
variable {F : Nat → Prop} {w : World} {p : Nat} {m1 m2 m : Option Nat} {V : List Lk.Hv} {I : Lk.It} {s : Ps}
set_option maxHeartbeats 1000000 in
theorem sblocks_is (T : St F w p m1 m2 m V I s) (hI : I.length ≤ 33554432) (lo hi : ByteArray) (t : Vs.Sp) :
    Calls Tryz.prog 8 #[sp p, .agg #[.string lo, .string hi], .agg #[.int .u64 t.a, .int .u32 t.b, .int .u32 t.c]] w fun e w' => ∃ (a : Option Addr) (n c : Nat), e = .returned (.slice a n c) ∧ Hid (decide (0 < n) = blkA s lo hi t) ∧ Below w.heap.size w w' := by
  obtain ⟨wx, hwx⟩ : ∃ wx, wx = (w.alloc (.cells #[.string lo, .string hi] 25)).alloc (.cells #[.int .u64 t.a, .int .u32 t.b, .int .u32 t.c] 28) := ⟨_, rfl⟩
  have hbx : Below w.heap.size w wx := by rw [hwx]; exact Below.al (Below.al (Below.refl _ _) _) _
  have x0 : wx.cell? ⟨w.heap.size, 0, none⟩ = some (.string lo) := by rw [hwx]; simp [go_sem]
  have x1 : wx.cell? ⟨w.heap.size, 1, none⟩ = some (.string hi) := by rw [hwx]; simp [go_sem]
  have c0 : wx.cell? ⟨w.heap.size + 1, 0, none⟩ = some (.int .u64 t.a) := by rw [hwx]; simp [go_sem]
  have c1 : wx.cell? ⟨w.heap.size + 1, 1, none⟩ = some (.int .u32 t.b) := by rw [hwx]; simp [go_sem]
  have c2 : wx.cell? ⟨w.heap.size + 1, 2, none⟩ = some (.int .u32 t.c) := by rw [hwx]; simp [go_sem]
  have BL : Hid (∀ W, Below wx.heap.size wx W → Calls Tryz.prog 24 #[.pointer (some ⟨p, 2, none⟩), .agg #[.string lo, .string hi], .agg #[.int .u64 t.a, .int .u32 t.b, .int .u32 t.c]] W fun e w' => ∃ (a : Option Addr) (n c : Nat), e = .returned (.slice a n c) ∧ Hid (decide (0 < n) = blkA s lo hi t) ∧ Below W.heap.size W w') := hid fun W hb => by
    refine (Lk.blocks_is (s := (lo, hi)) (T.later (Below.on hbx hb)).tb hI).mono ?_
    rintro e w' ⟨a, n, c, D, he, h1, _, _, h4, h5⟩
    refine ⟨a, n, c, he, hid ?_, h5.out⟩
    have hm := h4.out
    rw [T.h] at hm
    have hl := h1.out
    rw [Bool.eq_iff_iff]
    unfold blkA
    rw [List.any_eq_true, decide_eq_true_eq]
    constructor
    · intro h0
      obtain ⟨i, hi'⟩ : ∃ i, i ∈ D := by
        cases D with
        | nil => simp at hl; omega
        | cons d D => exact ⟨d, by simp⟩
      obtain ⟨h, hh, _, hb'⟩ := (hm i).1 hi'
      exact ⟨h, hh, hb'⟩
    · rintro ⟨h, hh, hb'⟩
      have := (hm h.id).2 ⟨h, hh, rfl, hb'⟩
      have := List.length_pos_of_mem this
      omega
  obtain ⟨E, hE⟩ : ∃ E, blkA s lo hi t = E := ⟨_, rfl⟩
  rw [hE] at BL ⊢
  have HBX := hid hbx
  clear T hI hbx hE
  go_enter Tryz.func8, Tryz.ntmps8
  go_wp2_with fail
  rw [← hwx]
  clear hwx
  go_region_held3 (fun w' => w'.cell? ⟨w.heap.size, 0, none⟩ = some (.string lo) ∧ w'.cell? ⟨w.heap.size, 1, none⟩ = some (.string hi) ∧ w'.cell? ⟨w.heap.size + 1, 0, none⟩ = some (.int .u64 t.a) ∧ w'.cell? ⟨w.heap.size + 1, 1, none⟩ = some (.int .u32 t.b) ∧ w'.cell? ⟨w.heap.size + 1, 2, none⟩ = some (.int .u32 t.c) ∧ Below wx.heap.size wx w')
    ((refine (fun (hB : Below wx.heap.size wx _) => ⟨cell_later hB x0, cell_later hB x1, cell_later hB c0, cell_later hB c1, cell_later hB c2, hB⟩) ?_; (repeat (first | with_reducible exact Below.refl _ _ | with_reducible assumption | with_reducible refine Below.drew ?_ | with_reducible refine Below.al ?_ _ | with_reducible refine Below.setCell ?_ (by first | exact Nat.le_refl _ | (simp; omega) | (simp; done)) _ | with_reducible refine Below.on ?_ (by assumption)))))
    (first | (go_at_call 24; refine (BL.out _ (by (repeat (first | with_reducible exact Below.refl _ _ | with_reducible assumption | with_reducible refine Below.drew ?_ | with_reducible refine Below.al ?_ _ | with_reducible refine Below.setCell ?_ (by first | exact Nat.le_refl _ | (simp; omega) | (simp; done)) _ | with_reducible refine Below.on ?_ (by assumption))))).mono ?_; rintro e w2 ⟨a, n, c, rfl, HG, hb2⟩; have hB2 : Below wx.heap.size wx w2 := (by refine Below.on ?_ hb2; (repeat (first | with_reducible exact Below.refl _ _ | with_reducible assumption | with_reducible refine Below.drew ?_ | with_reducible refine Below.al ?_ _ | with_reducible refine Below.setCell ?_ (by first | exact Nat.le_refl _ | (simp; omega) | (simp; done)) _ | with_reducible refine Below.on ?_ (by assumption))))))
  all_goals (try go_wp2_with fail)
  all_goals go_ret
  all_goals exact ⟨a, n, c, rfl, HG, Below.on HBX.out (by (repeat (first | with_reducible exact Below.refl _ _ | with_reducible assumption | with_reducible refine Below.drew ?_ | with_reducible refine Below.al ?_ _ | with_reducible refine Below.setCell ?_ (by first | exact Nat.le_refl _ | (simp; omega) | (simp; done)) _ | with_reducible refine Below.on ?_ (by assumption))))⟩
end
end Go.Proofs.YtfdbffadajepfaaGreat.Ys
/- StateSnapshot. -/
namespace Go.Proofs.YtfdbffadajepfaaGreat.Ys
open Go.RowKit Go.Sort
set_option linter.unusedVariables false

section
variable {B : Nat} {w : World} {p : Nat} {s : Ps}
theorem Sta.read (T : Sta B w p s) (hn : Vs.countM s.M ≤ 268435456) (lo hi : ByteArray) (t : Vs.Sp) :
    Calls Tryz.prog 7 #[sp p, .agg #[.string lo, .string hi], .agg #[.int .u64 t.a, .int .u32 t.b, .int .u32 t.c]] w fun e w' => ∃ (a : Option Addr) (n c : Nat), e = .returned (.tuple #[.slice a n c, .int .i64 (Vs.rdE s.M s.wm lo hi t)]) ∧ Hid (RdO w.heap.size w' a n c (Vs.rdL s.M s.wm lo hi t)) ∧ Below w.heap.size w w' := by
  obtain ⟨F, m1, m2, m, V, I, T, hl⟩ := T
  exact sread_is T hn lo hi t
theorem Sta.blocks (T : Sta B w p s) (h16 : ∀ h ∈ s.H, writesOk h.ws = true) (hl : s.H.length ≤ 1048576) (lo hi : ByteArray) (t : Vs.Sp) :
    Calls Tryz.prog 8 #[sp p, .agg #[.string lo, .string hi], .agg #[.int .u64 t.a, .int .u32 t.b, .int .u32 t.c]] w fun e w' => ∃ (a : Option Addr) (n c : Nat), e = .returned (.slice a n c) ∧ Hid (decide (0 < n) = blkA s lo hi t) ∧ Below w.heap.size w w' := by
  obtain ⟨F, m1, m2, m, V, I, T, _⟩ := T
  exact sblocks_is T (by have := ints_len T.okI fun h hh => Vs.writes_len (h16 h hh); omega) lo hi t
end
theorem RdO.later {B : Nat} {w w' : World} {a : Option Addr} {n c : Nat} {l : Vs.Prs} (h : RdO B w a n c l) (hb : Below w.heap.size w w') : RdO B w' a n c l := ⟨h.1, h.2.later hb⟩
theorem RdO.chg {B B' : Nat} {w w' : World} {a : Option Addr} {n c : Nat} {l : Vs.Prs} (h : RdO B w a n c l) (hc : Chg B' w w') : RdO B w' a n c l := ⟨h.1, hc.owns h.2 (by decide) (by decide)⟩
theorem RdO.row {B : Nat} {w : World} {a : Option Addr} {n c : Nat} {l : Vs.Prs} (h : RdO B w a n c l) : Row2 w a l := by
  obtain ⟨e, h⟩ := h
  subst e
  exact h.row
/-- two lists that were read -/
theorem same_is {B B' : Nat} {w : World} {a b : Option Addr} {n m c d : Nat} {l : Vs.Prs} (h : RdO B w a n c l) (k : RdO B' w b m d l) (hl : l.length ≤ 1152921504606846976) :
    Calls Tryz.prog 12 #[.slice a n c, .slice b m d] w fun e w' => e = .returned (.bool true) ∧ Below w.heap.size w w' := by
  have := Vs.samePairs_is (c := c) (d := d) (u := true) (by simp) h.row k.row hl hl
  rw [h.1, k.1]
  exact this
theorem rd_512 (M : Vs.Mst) (mk : Vs.Sp) (lo hi : ByteArray) (t : Vs.Sp) : (Vs.rdL M mk lo hi t).length ≤ 512 := by
  unfold Vs.rdL
  split
  · rename_i h
    unfold Vs.rdE at h
    split at h
    · cases h
    · split at h
      · cases h
      · omega
  · simp
/-- what stands behind k of the later records -/
structure Snap (wx wr : World) (B p : Nat) (s : Ps) (lo hi : ByteArray) (t : Vs.Sp) (Q : Int) (a : Option Addr) (n c : Nat) (l : Vs.Prs) (k : Nat) : Prop where
  st : Sta B wr p s
  got : RdO wx.heap.size wr a n c l
  rd : Vs.rdE s.M s.wm lo hi t = Q
  rl : Vs.rdL s.M s.wm lo hi t = l
  free : Free s lo hi t
  hist : ∃ C R, Hist s C R ∧ C.length ≤ 1048577 + k
  bl : Below wx.heap.size wx wr
  hB : wx.heap.size ≤ B ∧ B ≤ wr.heap.size
section
variable {wx wr w' : World} {B p : Nat} {s : Ps} {lo hi : ByteArray} {t : Vs.Sp} {Q : Int} {a : Option Addr} {n c : Nat} {l : Vs.Prs} {k : Nat}
theorem Snap.later (S : Snap wx wr B p s lo hi t Q a n c l k) (hb : Below wr.heap.size wr w') : Snap wx w' B p s lo hi t Q a n c l k :=
  ⟨S.st.later hb, S.got.later hb, S.rd, S.rl, S.free, S.hist, Below.on S.bl hb, S.hB.1, Nat.le_trans S.hB.2 hb.size⟩
theorem Snap.succ (S : Snap wx wr B p s lo hi t Q a n c l k) : Snap wx wr B p s lo hi t Q a n c l (k + 1) :=
  ⟨S.st, S.got, S.rd, S.rl, S.free, by obtain ⟨C, R, h, hl⟩ := S.hist; exact ⟨C, R, h, by omega⟩, S.bl, S.hB⟩
theorem Snap.cnt (S : Snap wx wr B p s lo hi t Q a n c l k) (hk : k ≤ 1048576) : Vs.countM s.M ≤ 268435456 := by
  obtain ⟨C, R, h, hl⟩ := S.hist
  exact h.cnt28 (by omega)
theorem Snap.jb (S : Snap wx wr B p s lo hi t Q a n c l k) {u : Vs.Sp} (h : acB s u = true) : jbB u = true := by
  obtain ⟨C, R, h', hl⟩ := S.hist
  exact h'.jb h
theorem laidC_len' (C : List Cm) (c : Cm) (ho : Ord C) : (laidC C c).length = C.length + 1 := laid_len ho c
/-- a record more -/
theorem Snap.step (S : Snap wx wr B p s lo hi t Q a n c l k) {r : Rg} (hr : RgR r) (hk : r.k ≠ 5) (h2 : r.k = 2 → t.lt (at' r) = true) (h4 : r.k = 4 → t.lt (at' r) = false) (T : Sta B w' p (apS s r)) (hc : Chg B wr w') : Snap wx w' B p (apS s r) lo hi t Q a n c l (k + 1) := by
  have hbl : Below wx.heap.size wx w' := S.bl.trans (by obtain ⟨G, ho, hg⟩ := hc; exact ho.below (fun b hb => Nat.le_trans S.hB.1 (hg b hb).1) S.bl.size)
  by_cases he : apE s r = 0
  · obtain ⟨⟨e1, e2⟩, hf⟩ := snap_step S.st.good S.free hk he h2 h4
    refine ⟨T, S.got.chg hc, e1.trans S.rd, e2.trans S.rl, hf, ?_, hbl, S.hB.1, Nat.le_trans S.hB.2 hc.size⟩
    obtain ⟨C, R, H, hl⟩ := S.hist
    obtain ⟨I, hI⟩ := S.st.okI
    obtain ⟨s1, s2⟩ := H.step S.st.good hI hr hk he
    by_cases h3 : r.k = 3 ∧ r.oc = 1
    · obtain ⟨h, _, _, H'⟩ := s1 h3
      exact ⟨_, _, H', by rw [laid_len H.ord]; omega⟩
    · exact ⟨_, _, s2 h3, by omega⟩
  · have e := ap_no he
    rw [e] at T ⊢
    exact (Snap.succ ⟨T, S.got.chg hc, S.rd, S.rl, S.free, S.hist, hbl, S.hB.1, Nat.le_trans S.hB.2 hc.size⟩)
end
/-- is a later record passed over? -/
def skB (r : Rg) (L : Bool) : Bool := ((r.k == 5) || ((r.k == 2) && !L)) || ((r.k == 4) && L)

set_option maxRecDepth 16000 in
set_option maxHeartbeats 4000000 in
theorem law_snapshot {w : World} {x : Pa} (hL : RowG w x.la x.ls) (hl : x.ls.length ≤ 1048576) (hY : RowG w x.ya x.ys) (hy : x.ys.length ≤ 1048576) :
    Calls Tryz.prog 3 #[x.val] w fun e w' => e = .returned (.bool true) ∧ Below w.heap.size w w' := by
  obtain ⟨wx, hwx⟩ : ∃ wx, wx = w.alloc (.cells x.cells 30) := ⟨_, rfl⟩
  have hbx : Below w.heap.size w wx := by rw [hwx]; exact Below.al (Below.refl _ _) _
  have BP : BoxP wx w.heap.size x := by rw [hwx]; exact boxP w x _
  have x0 := BP.c0; have x1 := BP.c1; have x2 := BP.c2; have x3 := BP.c3; have x4 := BP.c4; have x5 := BP.c5; have x6 := BP.c6; have x7 := BP.c7
  have HP := hid BP
  have HI := hid (history_is (hL.later hbx) hl)
  have HY := hid (hY.later hbx)
  have HBX := hid hbx
  obtain ⟨M, hM⟩ : ∃ M, x.ys.length = M := ⟨_, rfl⟩
  have HM := hid hM
  rw [hM] at hy
  have X7 : Hid (wx.cell? ⟨w.heap.size, 7, none⟩ = some (.slice x.ya M x.yc)) := hid (by rw [← hM]; exact x7)
  clear hL hY hbx BP hM
  go_enter Tryz.func3, Tryz.ntmps3
  go_wp2_with fail
  rw [← hwx]
  clear hwx
  refine HI.out.mono ?_
  rintro e w1 ⟨p, a, n, c, rfl, HO, hb1⟩
  obtain ⟨B, s, U, R, hB1, hB2, T, _, hUn, _, hH, hn, hRn⟩ := HO.out
  have HT := hid T
  have HH := hid hH
  have HB1 := hid hb1
  have HBB := hid (And.intro hB1 hB2)
  have hcl : (U.map Cv.c).length ≤ 4194304 := by rw [List.length_map]; omega
  have HC : Hid ((U.map Cv.c).length ≤ 1048577) := hid (by rw [List.length_map]; omega)
  have HHL : Hid (s.H.length ≤ 1048576) := hid (Nat.le_trans hH.hln hRn)
  have y2 := cell_later hb1 x2; have y3 := cell_later hb1 x3; have y4 := cell_later hb1 x4; have y5 := cell_later hb1 x5; have y6 := cell_later hb1 x6
  have RD := hid (T.read (hH.cnt28 hcl) x.lo x.hi x.t)
  obtain ⟨Q, hQ⟩ : ∃ Q, Vs.rdE s.M s.wm x.lo x.hi x.t = Q := ⟨_, rfl⟩
  obtain ⟨l, hll⟩ : ∃ l, Vs.rdL s.M s.wm x.lo x.hi x.t = l := ⟨_, rfl⟩
  have HQ := hid (And.intro hQ hll)
  have HL5 : Hid (l.length ≤ 1152921504606846976) := hid (by rw [← hll]; have := rd_512 s.M s.wm x.lo x.hi x.t; omega)
  rw [hQ, hll] at RD
  clear HI HO T hH hb1 hB1 hB2 x0 x1 x2 x3 x4 x5 x6 x7 hQ hll hcl hUn hn hRn
  go_wp2_with fail
  refine RD.out.mono ?_
  rintro e w2 ⟨a2, n2, c2, rfl, HR2, hb2⟩
  have z2 := cell_later hb2 y2; have z3 := cell_later hb2 y3; have z4 := cell_later hb2 y4; have z5 := cell_later hb2 y5; have z6 := cell_later hb2 y6
  have HT2 := hid (HT.out.later hb2)
  have HB2 := hid (Below.on HB1.out hb2)
  have HBB2 : Hid (wx.heap.size ≤ B ∧ B ≤ w2.heap.size) := hid ⟨HBB.out.1, Nat.le_trans HBB.out.2 hb2.size⟩
  have HG2 : Hid (RdO wx.heap.size w2 a2 n2 c2 l) := hid ⟨HR2.out.1, Lk.owns_base HR2.out.2 HB1.out.size⟩
  have BK := hid (HT2.out.blocks HH.out.hok HHL.out x.lo x.hi x.t)
  obtain ⟨K, hK⟩ : ∃ K, blkA s x.lo x.hi x.t = K := ⟨_, rfl⟩
  have HK := hid hK
  rw [hK] at BK
  clear RD hb2 HT HB1 HBB HR2 y2 y3 y4 y5 y6 hK
  go_wp2_with fail
  refine BK.out.mono ?_
  rintro e w3 ⟨a3, n3, c3, rfl, HN3, hb3⟩
  have HB3 := hid (Below.on HB2.out hb3)
  have hn3 : decide ((n3 : Int) > 0) = K := by rw [← HN3.out]; simp
  have hn3' : decide ((0 : Int) < (n3 : Int)) = K := by rw [← HN3.out]; simp
  have hn3n : decide (0 < n3) = K := HN3.out
  cases K
  · have HS0 : Hid (Snap wx w3 B p s x.lo x.hi x.t Q a2 n2 c2 l 0) := hid ⟨HT2.out.later hb3, HG2.out.later hb3, HQ.out.1, HQ.out.2, free_of HK.out, ⟨_, _, HH.out, by have := HC.out; omega⟩, HB3.out, HBB2.out.1, Nat.le_trans HBB2.out.2 hb3.size⟩
    clear hb3 HT2 HB2 HBB2 HG2 BK HK HN3 z2 z3 z4 z5 z6 HH HHL HC HQ
    go_wp2_with fail
    go_loopg [7] M (fun gg s7 wr => ∃ (k : Nat) (s : Ps), k ≤ M ∧ gg = M - k ∧ s7 = .int .i64 k ∧ Hid (Snap wx wr B p s x.lo x.hi x.t Q a2 n2 c2 l k))
    case atStart => exact ⟨0, s, by omega, by omega, rfl, HS0⟩
    case round =>
      obtain ⟨k, s, hk, rfl, rfl, HS⟩ := hrel
      clear HS0
      have hbr := HS.out.bl
      have v7 := cell_later hbr X7.out
      by_cases hlt : k < M
      · obtain ⟨r, hr⟩ : ∃ r, x.ys[k]? = some r := ⟨x.ys[k]'(by rw [HM.out]; exact hlt), by simp⟩
        obtain ⟨⟨rb, ro, hla, BX⟩, RA⟩ := HY.out k r hr
        rw [hla] at v7
        have bx := BX.later hbr
        have b0 := bx.c0; have b1 := bx.c1; have b2 := bx.c2; have b3 := bx.c3; have b4 := bx.c4; have b5 := bx.c5; have b6 := bx.c6; have b7 := bx.c7; have b8 := bx.c8; have b9 := bx.c9; have b10 := bx.c10; have b11 := bx.c11
        have HRA := hid RA
        obtain ⟨wa, hwa⟩ : ∃ wa, wa = wr.alloc (.cells r.cells 48) := ⟨_, rfl⟩
        have hba : Below wr.heap.size wr wa := by rw [hwa]; exact Below.al (Below.refl _ _) _
        have BQ : BoxG wa wr.heap.size r := by rw [hwa]; exact boxG wr r _
        have HSA := hid (HS.out.later hba)
        have bp := HP.out.later (B := 0) HSA.out.bl
        have q0 := BQ.c0; have q6 := BQ.c6; have q7 := BQ.c7; have q8 := BQ.c8
        have p4 := bp.c4; have p5 := bp.c5; have p6 := bp.c6
        have HBQ := hid BQ
        obtain ⟨q, hq⟩ : ∃ q, q = wr.heap.size := ⟨_, rfl⟩
        obtain ⟨L, hL⟩ : ∃ L, x.t.lt (at' r) = L := ⟨_, rfl⟩
        have HL : Hid (lessB x.t.a x.t.b x.t.c r.w r.l r.n = L) := hid hL
        have HLL := hid hL
        clear BX RA hla hr bx hba bp hbr BQ hL
        go_upto_region 11 with fail
        rw [← hwa]
        clear hwa b0 b1 b2 b3 b4 b5 b6 b7 b8 b9 b10 b11 v7
        go_cut [74] from 35 to 96 (fun s74 wz => ∃ w4, w4 = wz ∧ s74 = .bool (skB r L) ∧ Below wa.heap.size wa w4)
        case first =>
          have LS : Hid (∀ W, Calls Tryz.prog 9 #[.agg #[.int .u64 x.t.a, .int .u32 x.t.b, .int .u32 x.t.c], .agg #[.int .u64 r.w, .int .u32 r.l, .int .u32 r.n]] W fun e w' => e = .returned (.bool L) ∧ Below W.heap.size W w') := hid fun W => less_is HL.out W
          by_cases h5 : r.k = 5
          · have e5 : (r.k == 5) = true := by simpa using h5
            have HE : Hid (skB r L = true) := hid (by unfold skB; rw [e5]; rfl)
            clear h5
            go_wp2_with fail
            go_meet
            exact ⟨_, rfl, by rw [HE.out], Below.refl _ _⟩
          · have e5 : (r.k == 5) = false := by simpa using h5
            by_cases h2 : r.k = 2
            · have e2 : (r.k == 2) = true := by simpa using h2
              have e4 : (r.k == 4) = false := by simp [h2]
              have HE : Hid (skB r L = !L) := hid (by unfold skB; rw [e5, e2, e4]; cases L <;> rfl)
              clear h5 h2
              cases L
              · go_wp2_with (go_at_call 9; refine (LS.out _).mono ?_; rintro e wl ⟨rfl, hbl⟩)
                go_meet
                exact ⟨_, rfl, by rw [HE.out]; rfl, hbl⟩
              · go_wp2_with (go_at_call 9; refine (LS.out _).mono ?_; rintro e wl ⟨rfl, hbl⟩; have q0 := cell_later hbl q0)
                go_meet
                exact ⟨_, rfl, by rw [HE.out]; rfl, hbl⟩
            · have e2 : (r.k == 2) = false := by simpa using h2
              by_cases h4 : r.k = 4
              · have e4 : (r.k == 4) = true := by simpa using h4
                have HE : Hid (skB r L = L) := hid (by unfold skB; rw [e5, e2, e4]; cases L <;> rfl)
                clear h5 h2 h4
                cases L
                · go_wp2_with (go_at_call 9; refine (LS.out _).mono ?_; rintro e wl ⟨rfl, hbl⟩)
                  go_meet
                  exact ⟨_, rfl, by rw [HE.out], hbl⟩
                · go_wp2_with (go_at_call 9; refine (LS.out _).mono ?_; rintro e wl ⟨rfl, hbl⟩)
                  go_meet
                  exact ⟨_, rfl, by rw [HE.out], hbl⟩
              · have e4 : (r.k == 4) = false := by simpa using h4
                have HE : Hid (skB r L = false) := hid (by unfold skB; rw [e5, e2, e4]; cases L <;> rfl)
                clear h5 h2 h4
                go_wp2_with fail
                go_meet
                exact ⟨_, rfl, by rw [HE.out], Below.refl _ _⟩
        case rest =>
          obtain ⟨w4, rfl, rfl, hb4⟩ := hcut
          have HS4 := hid (HSA.out.later hb4)
          obtain ⟨K, hK⟩ : ∃ K, skB r L = K := ⟨_, rfl⟩
          rw [hK]
          have HK := hid hK
          have bq := HBQ.out.later hb4
          have b0 := bq.c0; have b1 := bq.c1; have b2 := bq.c2; have b3 := bq.c3; have b4 := bq.c4; have b5 := bq.c5; have b6 := bq.c6; have b7 := bq.c7; have b8 := bq.c8; have b9 := bq.c9; have b10 := bq.c10; have b11 := bq.c11
          clear hb4 hK bq q0 q6 q7 q8 p4 p5 p6 HL
          cases K
          · have hk5 : r.k ≠ 5 := fun e => by have := HK.out; unfold skB at this; simp [e] at this
            have hk2 : r.k = 2 → x.t.lt (at' r) = true := fun e => by have := HK.out; rw [HLL.out]; unfold skB at this; simp [e] at this; exact this
            have hk4 : r.k = 4 → x.t.lt (at' r) = false := fun e => by have := HK.out; rw [HLL.out]; unfold skB at this; simp [e] at this; exact this
            have HKK := hid (And.intro hk5 (And.intro hk2 hk4))
            clear hk5 hk2 hk4 HK
            go_wp2_with fail
            refine (copied_is (HRA.out.ok.later HS4.out.bl) HRA.out.rl HRA.out.wl).mono ?_
            rintro e w5 ⟨g1, g2, rfl, hr1, hr2, hne⟩
            have hb5 : Below w4.heap.size w4 w5 := hr1.bl
            have HS5 := hid (HS4.out.later hb5)
            have OK5 := own_ok ((HRA.out.ok.later HS4.out.bl).later hb5) hr1 hr2
            have AP := hid (HS5.out.st.applyOwn HS5.out.hB.2 OK5 HRA.out.rg HKK.out.1 (HS5.out.cnt (by omega)) (fun _ => HS5.out.jb))
            clear hr1 hr2 hne hb5 OK5 b0 b1 b2 b3 b4 b5 b6 b7 b8 b9 b10 b11
            go_wp2_with fail
            refine AP.out.mono ?_
            rintro e w6 ⟨rfl, HA6⟩
            have HS6 := hid (HS5.out.step HRA.out.rg HKK.out.1 HKK.out.2.1 HKK.out.2.2 HA6.out.1 HA6.out.2)
            have bp := HP.out.later (B := 0) HS6.out.bl
            have p2 := bp.c2; have p3 := bp.c3; have p4 := bp.c4; have p5 := bp.c5; have p6 := bp.c6
            have RD := hid (HS6.out.st.read (HS6.out.cnt (by omega)) x.lo x.hi x.t)
            rw [HS6.out.rd, HS6.out.rl] at RD
            clear AP HA6 bp
            go_wp2_with fail
            refine RD.out.mono ?_
            rintro e w7 ⟨a4, n4, c4, rfl, HR4, hb7⟩
            have HS7 := hid (HS6.out.later hb7)
            have SP := hid (same_is HS7.out.got HR4.out HL5.out)
            have hqq : (Q != Q) = false := by simp
            clear RD hb7 p2 p3 p4 p5 p6
            go_wp2_with fail
            refine SP.out.mono ?_
            rintro e w8 ⟨rfl, hb8⟩
            have HS8 := hid (HS7.out.later hb8)
            clear SP hb8
            go_wp2_with fail
            go_roundg (M - (k + 1))
            case measure => omega
            case rel => exact ⟨k + 1, apS s r, by omega, rfl, by go_num, HS8⟩
          · go_wp2_with fail
            go_roundg (M - (k + 1))
            case measure => omega
            case rel => exact ⟨k + 1, s, by omega, rfl, by go_num, hid HS4.out.succ⟩
      · obtain rfl : M = k := by omega
        have HBF := hid (Below.on HBX.out hbr)
        go_wp2_with fail
        go_ret
        exact ⟨rfl, HBF.out⟩
  · clear hb3
    go_wp2_with fail
    go_ret
    exact ⟨rfl, Below.on HBX.out HB3.out⟩
end Go.Proofs.YtfdbffadajepfaaGreat.Ys
namespace Go.Proofs.YtfdbffadajepfaaGreat
open Go.ChangeShapes Go.WideShapes Go.ChangeAt Go.RowKit Go.Deep Ys
set_option maxRecDepth 100000 in
theorem opened_stateSnapshot {H : Type} {enc : TypeId × Value → H} {W : World} {r : Reach} {b : Nat} {v : Value} {d : DataW H} {p : List MemPlace}
    (hv : Value.okWide Tryz.prog W r b 30 v) (h : DataW.Trod enc Tryz.prog W 0 (fun _ => true) true 30 v d p) (hk : Rows.uptoBulk d ≤ 1048576) :
    Calls Tryz.prog 3 #[v] W fun e w' => e = .returned (.bool true) ∧ Below W.heap.size W w' := by
  obtain ⟨x, rfl, h1, h2, h3, h4, _⟩ := open_past hv h hk
  exact law_snapshot h1 h2 h3 h4
end Go.Proofs.YtfdbffadajepfaaGreat
