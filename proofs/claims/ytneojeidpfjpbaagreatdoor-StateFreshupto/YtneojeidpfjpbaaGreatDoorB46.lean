import Derived.Test.YtneojeidpfjpbaaGreatDoorB45
set_option linter.unusedVariables false
set_option maxHeartbeats 2000000
namespace Go.Proofs.YtneojeidpfjpbaaGreatDoor.Vs
open Go.RowKit Go.Sort Go.Shelf
abbrev pv (k x : ByteArray) : Value := .agg #[.string k, .string x]
def flatP (l : Prs) : List Value := l.flatMap fun e => [.string e.1, .string e.2]
theorem flatP_snoc (l : Prs) (e : ByteArray × ByteArray) : flatP (l ++ [e]) = flatP l ++ [.string e.1, .string e.2] := by simp [flatP]
theorem flatP_get : ∀ (l : Prs) (i o : Nat), i < l.length → o < 2 → (flatP l)[i * 2 + o]? = [Value.string (nth2 l i).1, .string (nth2 l i).2][o]?
 | [], i, o, h, _ => by simp at h
 | v :: vs, i, o, h, ho => by
  show ([Value.string v.1, .string v.2] ++ flatP vs)[i * 2 + o]? = _
  cases i with
  | zero => rw [List.getElem?_append_left (by simp; omega)]; simp [nth2]
  | succ i =>
   have e : (i + 1) * 2 + o - [Value.string v.1, .string v.2].length = i * 2 + o := by simp; omega
   rw [List.getElem?_append_right (by simp; omega), e, flatP_get vs i o (by simpa using h) ho]; simp [nth2]
def OwnP (w : World) (B : Nat) (v : Value) (l : Prs) : Prop := w.ownsRow B 113 2 v l.length (flatP l)
theorem OwnP.later {w w' : World} {B : Nat} {v : Value} {l : Prs} (h : OwnP w B v l) (hb : Below w.heap.size w w') : OwnP w' B v l := owns_keep h fun g hg => hb.block g (World.ownsRow.lt h g hg).2
theorem OwnP.nil (w : World) (B : Nat) : OwnP w B (.slice none 0 0) [] := World.ownsRow_nil _ _ _ _
theorem OwnP.base {w : World} {B B' : Nat} {v : Value} {l : Prs} (h : OwnP w B v l) (hB : B' ≤ B) : OwnP w B' v l := by
 obtain ⟨h1, h2 | ⟨g, cap, cur, hv, hg, r⟩⟩ := h
 ·exact ⟨h1, .inl h2⟩
 ·exact ⟨h1, .inr ⟨g, cap, cur, hv, Nat.le_trans hB hg, r⟩⟩
theorem OwnP.slice {w : World} {B : Nat} {v : Value} {l : Prs} (h : OwnP w B v l) : ∃ a c, v = .slice a l.length c := owns_slice h
theorem OwnP.row {w : World} {B c : Nat} {a : Option Addr} {l : Prs} (h : OwnP w B (.slice a l.length c) l) : Row2 w a l := fun i hi => by
 have h' := h; obtain ⟨_, ⟨e, e2⟩ | ⟨g, cap, cur, e, _, hg, _⟩⟩ := h'
 ·omega
 ·injection e with e1 _ e3
  subst e1 e3; have hc : ∀ o, o < 2 → w.cell? ⟨g, i * 2 + o, none⟩ = [Value.string (nth2 l i).1, .string (nth2 l i).2][o]? := fun o ho => by
   rw [World.ownsRow.cellAt h _ (by omega), flatP_get l i o hi ho]
  exact ⟨g, 0, rfl, by rw [Nat.zero_add]; exact hc 0 (by omega), by rw [Nat.zero_add]; exact hc 1 (by omega)⟩
theorem infoPr : (Tryz.prog.info? 113).map (fun i => (i.zero, i.size, i.bytes)) = some (some (pv ⟨#[]⟩ ⟨#[]⟩), 2, 32) := by kernel_rfl
attribute [local go_sem] Oper.semAt_some
def RdI (wS : World) (n₀ b2 b3 bp : Nat) (t : Sp) {E : List En} (pre : List (Of E)) (W : World) : Prop :=
 (∃ v, Boxed W bp 109 v ∧ W.ownsRow n₀ 113 2 v (rdOf (pre.map (fun x => x.1)) t).length (flatP (rdOf (pre.map (fun x => x.1)) t)) ∧ (rdOf (pre.map (fun x => x.1)) t).length ≤ 512) ∧
 (Boxed W b2 109 (.slice none 0 0) ∧ Boxed W b3 34 (.int .i64 0)) ∧ Below wS.heap.size wS W
def RdX (wS : World) (b2 b3 : Nat) (t : Sp) {E : List En} (c : Code) (pre : List (Of E)) (W : World) : Prop :=
 ((c = .ret ∧ 512 < (rdOf (pre.map (fun x => x.1)) t).length) ∧ Boxed W b2 109 (.slice none 0 0) ∧ Boxed W b3 34 (.int .i64 142)) ∧ Below wS.heap.size wS W
theorem rdI_own {wS : World} {n₀ b2 b3 bp Q : Nat} {t : Sp} {E : List En} (hq : wS.heap.size ≤ Q) : OwnFrom Q (RdI wS n₀ b2 b3 bp t (E := E)) :=
 OwnFrom.and (Own.from (holdsRow_own n₀ bp 109 113 2 (fun pre : List (Of E) => (rdOf (pre.map (fun x => x.1)) t).length) (fun pre => flatP (rdOf (pre.map (fun x => x.1)) t)) (fun pre _ => (rdOf (pre.map (fun x => x.1)) t).length ≤ 512)) _)
  (OwnFrom.and (OwnFrom.and (Own.from (boxed_own _ _ (fun _ => _)) _) (Own.from (boxed_own _ _ (fun _ => _)) _)) (ownFrom_below (Nat.le_refl _) hq))
theorem rdX_own {wS : World} {b2 b3 Q : Nat} {t : Sp} {E : List En} (c : Code) (hq : wS.heap.size ≤ Q) : OwnFrom Q (RdX wS b2 b3 t (E := E) c) :=
 OwnFrom.and (OwnFrom.and (ownFrom_pure _ _) (OwnFrom.and (Own.from (boxed_own _ _ (fun _ => _)) _) (Own.from (boxed_own _ _ (fun _ => _)) _))) (ownFrom_below (Nat.le_refl _) hq)
set_option maxRecDepth 100000 in
theorem read_is {F : Nat → Prop} {w : World} {p o : Nat} {ty : TypeId} {M : Mst} {mk : Sp} (h : StoG F w p o ty M mk) (lo hi : ByteArray) (t : Sp) (hn : countM M ≤ 268435456) :
  Calls Tryz.prog 81 #[.pointer (some ⟨p, o, none⟩), .agg #[.string lo, .string hi], sv t] w fun e w' => ∃ v, e = .returned (.tuple #[v, .int .i64 (rdE M mk lo hi t)]) ∧ OwnP w' w.heap.size v (rdL M mk lo hi t) ∧ Below w.heap.size w w' := by
 obtain ⟨m, h, rfl⟩ := h; refine (callsIn_wide (n := 5)).1 ?_; obtain ⟨wS, hwS⟩ : ∃ wS, wS = (w.alloc (.cells #[.string lo, .string hi] 25)).alloc (.cells #[.int .u64 t.a, .int .u32 t.b, .int .u32 t.c] 28) := ⟨_, rfl⟩; have hbS : Below w.heap.size w wS := by rw [hwS]; exact Below.al (Below.al (Below.refl _ _) _) _
 have hsz : wS.heap.size = w.heap.size + 1 + 1 := by rw [hwS]; simp
 have kS : wS.heap[w.heap.size]? = some (.cells #[.string lo, .string hi] 25 (0, 0)) := by
  rw [hwS]; exact (Below.heap_alloc _ _ _ (by simp)).trans (World.alloc_heap_new w _)
 have kT : wS.heap[w.heap.size + 1]? = some (.cells #[.int .u64 t.a, .int .u32 t.b, .int .u32 t.c] 28 (0, 0)) := by
  rw [hwS]; have := World.alloc_heap_new (w.alloc (.cells #[.string lo, .string hi] 25)) (.cells #[.int .u64 t.a, .int .u32 t.b, .int .u32 t.c] 28)
  rw [World.size_alloc] at this; exact this
 obtain ⟨wa, hwa⟩ : ∃ wa, wa = (wS.alloc (.cells #[.slice none 0 0] 109)).alloc (.cells #[.int .i64 0] 34) := ⟨_, rfl⟩; have hba : Below wS.heap.size wS wa := by rw [hwa]; exact Below.al (Below.al (Below.refl _ _) _) _
 have b2 : Boxed wa wS.heap.size 109 (.slice none 0 0) := by rw [hwa]; exact (Boxed.new wS _ _).alloc _
 have b3 : Boxed wa (wS.heap.size + 1) 34 (.int .i64 0) := by
  rw [hwa]; have := Boxed.new (wS.alloc (.cells #[.slice none 0 0] 109)) 34 (.int .i64 0)
  rw [World.size_alloc] at this; exact this
 have ha := h.later (Below.on hbS hba); have s0 : wa.cell? ⟨w.heap.size, 0, none⟩ = some (.string lo) := cell_later hba (cell_of_obj kS rfl); have s1 : wa.cell? ⟨w.heap.size, 1, none⟩ = some (.string hi) := cell_later hba (cell_of_obj kS rfl); have t0 : wa.cell? ⟨w.heap.size + 1, 0, none⟩ = some (.int .u64 t.a) := cell_later hba (cell_of_obj kT rfl); have t1 : wa.cell? ⟨w.heap.size + 1, 1, none⟩ = some (.int .u32 t.b) := cell_later hba (cell_of_obj kT rfl); have t2 : wa.cell? ⟨w.heap.size + 1, 2, none⟩ = some (.int .u32 t.c) := cell_later hba (cell_of_obj kT rfl); have c1 := Sto.c1 ha; have c2 := Sto.c2 ha; have c3 := Sto.c3 ha; have kt0 := cell_regrown t0; have kt1 := cell_regrown t1; have kt2 := cell_regrown t2
 have kc1 := cell_regrown c1; have kc2 := cell_regrown c2; have kc3 := cell_regrown c3
 rw [hsz] at b2 b3; have H := hid (show _ ∧ _ ∧ _ ∧ _ ∧ _ ∧ _ ∧ _ from ⟨h, hbS, hba, b2, b3, kS, kT⟩); have HSZ := hid hsz; have HN := hid hn; clear h ha hbS hba hsz kS kT b2 b3 hn; refine callsIn_of_wp_marks Tryz.func81 rfl trivial ?_ rfl; simp only [Tryz.ntmps81, List.size_toArray, List.length_cons, List.length_nil, Nat.reduceAdd, Nat.reduceSub, Array.replicate_succ, Array.replicate_zero, List.push_toArray, List.append_toArray, List.nil_append, List.cons_append]; refine wpIn_wide.2 ?_; go_wp2_with fail
 rw [← hwS, ← hwa]; clear hwS hwa; cases hlt : t.lt mk with
 | true =>
  have hlt' : lessB t.a t.b t.c mk.a mk.b mk.c = true := hlt; have HE : Hid (rdE (abs m) mk lo hi t = 90) := by show _ = _; unfold rdE; rw [hlt]; rfl
  clear hlt; refine wp_region_quiet_below (by kernel_rfl) (by kernel_rfl) ?_; repeat (go_big_quiet_step ((go_at_call 59; exact Calls.regrown_of (less_is (by assumption) _))))
  refine wpQuiet_nil ?_; intro w1 hw; replace hw := below_of_regrown hw; obtain ⟨h, hbS, hba, b2, b3, kS, kT⟩ := H.out; have b2' : Boxed w1 (w.heap.size + 1 + 1) 109 (.slice none 0 0) := (hw.block _ b2.lt).trans b2; have b3' : Boxed w1 (w.heap.size + 1 + 1 + 1) 34 (.int .i64 0) := (hw.block _ b3.lt).trans b3; have d2 := b2'.cell; have f2 := b2'.frozen; have d3 := b3'.cell; have f3 := b3'.frozen
  have hbw : Below w.heap.size w w1 := Below.on (Below.on hbS hba) hw; have x2 := ((b2'.set (.slice none 0 0)).other (B' := w.heap.size + 1 + 1 + 1) (by omega) (.int .i64 90)).cell; have x3 := ((b3'.other (B' := w.heap.size + 1 + 1) (by omega) (.slice none 0 0)).set (.int .i64 90)).cell; have ne1 : (w.heap.size + 1 + 1 + 1 = w.heap.size + 1 + 1) = False := by simp
  clear h hbS hba b2 b3 kS kT kt0 kt1 kt2 kc1 kc2 kc3 t0 t1 t2 c1 c2 c3 s0 s1 hw; go_wp2_with fail
  refine ⟨.tuple #[.slice none 0 0, .int .i64 90], ?_, .slice none 0 0, by rw [HE.out], ?_, Below.setCell (Below.setCell hbw (by simp; omega) _) (by simp; omega) _⟩
  ·simp [results, Tryz.f81, go_sem, x2, x3]
  ·unfold rdL; rw [HE.out]; exact OwnP.nil _ _
 | false =>
  have hlt' : lessB t.a t.b t.c mk.a mk.b mk.c = false := hlt; have HEE : Hid (rdE (abs m) mk lo hi t = if 512 < (readM (abs m) lo hi t).length then 142 else 0) := by show _ = _; unfold rdE; rw [hlt]; rfl
  clear hlt; refine wp_region_quiet_below (by kernel_rfl) (by kernel_rfl) ?_; repeat (go_big_quiet_step ((go_at_call 59; exact Calls.regrown_of (less_is (by assumption) _))))
  refine wpQuiet_nil ?_; intro w1 hw; replace hw := below_of_regrown hw; obtain ⟨wb, hwb⟩ : ∃ wb, wb = w1.alloc (.cells #[.slice none 0 0] 109) := ⟨_, rfl⟩; have hbb : Below wa.heap.size wa wb := by rw [hwb]; exact Below.al hw _
  have bp : Boxed wb w1.heap.size 109 (.slice none 0 0) := by rw [hwb]; exact Boxed.new _ _ _
  have hsl : wa.heap.size ≤ w1.heap.size := hw.size; have s0 := cell_later hbb s0; have s1 := cell_later hbb s1; have RG : Hid (∀ W, Below wb.heap.size wb W → Calls Tryz.prog 99 #[.pointer (some ⟨p, o, none⟩), .agg #[.string lo, .string hi]] W fun e w' => ∃ R B, e = .returned (itv 133 R B) ∧ Hid (It w' R B m lo hi) ∧ Below W.heap.size W w') := fun W hb =>
   (range_is ((H.out.1.later (Below.on (Below.on H.out.2.1 H.out.2.2.1) (Below.on hbb hb))).xi) lo hi).mono fun e w' ⟨R, B, he, hit, hb', _, _⟩ => ⟨R, B, he, hit, hb'⟩
  have HBB := hid hbb; have HBP := hid bp; clear kt0 kt1 kt2 kc1 kc2 kc3 t0 t1 t2 c1 c2 c3 hw hbb bp; go_wp2_with fail
  rw [← hwb]; clear hwb; go_region_held3 (fun w' => w'.cell? ⟨w.heap.size, 0, none⟩ = some (.string lo) ∧ w'.cell? ⟨w.heap.size, 1, none⟩ = some (.string hi) ∧ Below wb.heap.size wb w')
   ((refine (fun (hB : Below wb.heap.size wb _) => ⟨cell_later hB s0, cell_later hB s1, hB⟩) ?_; (repeat (first | exact Below.refl _ _ | assumption | refine Below.drew ?_ | refine Below.al ?_ _ | refine Below.setCell ?_ (by first | exact Nat.le_refl _ | (simp; omega) | (simp; done)) _ | refine Below.on ?_ (by assumption)))))
   (first | (go_at_call 99; refine (RG.out _ ?_).mono ?_; ((repeat (first | exact Below.refl _ _ | assumption | refine Below.drew ?_ | refine Below.al ?_ _ | refine Below.setCell ?_ (by first | exact Nat.le_refl _ | (simp; omega) | (simp; done)) _ | refine Below.on ?_ (by assumption)))); rintro e w2 ⟨R, Bs, rfl, hit, hb2⟩))
  have hbc : Below wb.heap.size wb w2 := by (repeat (first | exact Below.refl _ _ | assumption | refine Below.drew ?_ | refine Below.al ?_ _ | refine Below.setCell ?_ (by first | exact Nat.le_refl _ | (simp; omega) | (simp; done)) _ | refine Below.on ?_ (by assumption)))
  clear RG s0 s1; obtain ⟨h, hbS, hba, b2, b3, kS, kT⟩ := H.out; have hb02 : Below wa.heap.size wa w2 := Below.on HBB.out hbc; have b2' : Boxed w2 (w.heap.size + 1 + 1) 109 (.slice none 0 0) := (hb02.block _ b2.lt).trans b2; have b3' : Boxed w2 (w.heap.size + 1 + 1 + 1) 34 (.int .i64 0) := (hb02.block _ b3.lt).trans b3; have bp' : Boxed w2 w1.heap.size 109 (.slice none 0 0) := (hbc.block _ HBP.out.lt).trans HBP.out; have hBS : Below wS.heap.size wS w2 := Below.on hba hb02; have hl3 := b3.lt; have hl4 := bp'.lt; have hszS := HSZ.out; obtain ⟨E, hE⟩ : ∃ E, rangeX m lo hi = E := ⟨_, rfl⟩; have hstops := range_stops (5 - 1) hit.out; rw [hE] at hstops; have hEm : ∀ e ∈ E, e ∈ m := fun e he => by rw [← hE] at he; exact (List.mem_filter.1 he).1
  have HKT := hid kT; have HRW : Hid (∀ W, Below wS.heap.size wS W → ∀ z : Of E, Row W z.1.1 z.1.2 ∧ Ris z.1.2.vs ∧ z.1.2.n ≤ 268435456) := fun W hb z => by
   have hz : z.1 ∈ m := hEm _ z.2; have hr := h.row _ hz; have hmm : (z.1.1, z.1.2.vs) ∈ abs m := List.mem_map.2 ⟨_, hz, rfl⟩; refine ⟨hr.later (Below.on hbS hb), (h.good.chain _ hmm).2, ?_⟩; have h1 := count_mem hmm; have h2 := hr.len; have h3 := HN.out; simp only at h1; omega
  have HRD : Hid (readM (abs m) lo hi t = rdOf E t) := by show _ = _; rw [← hE, rdOf_range]
  have HXS : Hid (E.length ≤ 268435456) := by
   show _ ≤ _
   have h1 := count_keys h.good; rw [abs_len] at h1; have h2 : (rangeX m lo hi).length ≤ m.length := List.length_filter_le _ _; rw [hE] at h2; have h3 := HN.out; omega
  have HBW := hid hbS; clear hE hit h hbS hba b2 b3 kS kT hb02 H HBB HBP hEm; go_wp2_with fail
  refine (wpIn_wide (n := 5)).1 ?_; apply wpIn_rangeFunc_ownG rfl (by decide) (gf := 133) (lb := #[.pointer (some ⟨R, 0, none⟩), .pointer (some ⟨Bs, 0, none⟩)]) rfl trivial (enters_of Tryz.func133 (by kernel_rfl) rfl)
   hstops kp_t kp_b (Below.refl _ _) (fun _ => rfl)
   (RdI wS wS.heap.size (w.heap.size + 1 + 1) (w.heap.size + 1 + 1 + 1) w1.heap.size t) (RdX wS (w.heap.size + 1 + 1) (w.heap.size + 1 + 1 + 1) t) (rdI_own hBS.size) (fun c => rdX_own c hBS.size)
   ⟨⟨_, bp', World.ownsRow_nil _ _ _ _, by simp [rdOf, abs, readAll]⟩, ⟨b2', b3'⟩, hBS⟩
  case hassign =>
   intro y z W K hK; gi_wp2
   exact hK
  case hbody =>
   rintro y pre z W ⟨⟨u, hv, hrow, hle⟩, ⟨hb2', hb3'⟩, hBw⟩ hlt; obtain ⟨L, hL⟩ : ∃ L, rdOf (pre.map (fun x => x.1)) t = L := ⟨_, rfl⟩; rw [hL] at hrow hle; have hrow : OwnP W wS.heap.size u L := hrow; obtain ⟨ua, uc, rfl⟩ := hrow.slice; obtain ⟨hrw, hri, hzn⟩ := HRW.out W hBw z; have VA := hid (value_is t hrw hri (by omega)); have hmapz : (pre ++ [z]).map (fun x => x.1) = pre.map (fun x => x.1) ++ [z.1] := by simp
   have hkt := (hBw.block (w.heap.size + 1) (by have := HSZ.out; omega)).trans HKT.out; have t0 : W.cell? ⟨w.heap.size + 1, 0, none⟩ = some (.int .u64 t.a) := cell_of_obj hkt rfl; have t1 : W.cell? ⟨w.heap.size + 1, 1, none⟩ = some (.int .u32 t.b) := cell_of_obj hkt rfl; have t2 : W.cell? ⟨w.heap.size + 1, 2, none⟩ = some (.int .u32 t.c) := cell_of_obj hkt rfl; cases hval : valAt z.1.2.vs t with
   | none =>
    rw [hval, show valV none = .tuple #[.string ⟨#[]⟩, .bool false] from rfl] at VA; have HR2 : Hid (rdOf ((pre ++ [z]).map (fun x => x.1)) t = L) := by show _ = _; rw [hmapz, rdOf_none hval, hL]
    have HP := hid (show _ ∧ _ ∧ _ ∧ _ ∧ _ ∧ _ from ⟨hv, hrow, hle, hb2', hb3', hBw⟩); clear hrw hri hzn hval hmapz hkt hv hrow hle hb2' hb3' hBw hL; gi_wp2_with ((try refine ⟨trivial, ?_⟩); gi_at_call 118; refine (CallsIn.inRound y (callsIn_wide.2 VA.out)).mono ?_; rintro e w3 ⟨rfl, hb3⟩)
    obtain ⟨hv, hrow, hle, hb2', hb3', hBw⟩ := HP.out; refine ⟨below_keepsFrom _ hb3, Kp.of_below hb3, ⟨_, (hb3.block _ hv.lt).trans hv, ?_, ?_⟩, ⟨(hb3.block _ hb2'.lt).trans hb2', (hb3.block _ hb3'.lt).trans hb3'⟩, Below.on hBw hb3⟩
    ·rw [HR2.out]; exact hrow.later hb3
    ·rw [HR2.out]; exact hle
   | some x =>
    rw [hval, show valV (some x) = .tuple #[.string x, .bool true] from rfl] at VA; have HR2 : Hid (rdOf ((pre ++ [z]).map (fun x => x.1)) t = L ++ [(z.1.1, x)]) := by show _ = _; rw [hmapz, rdOf_some hval, hL]
    have HP := hid (show _ ∧ _ ∧ _ ∧ _ ∧ _ ∧ _ from ⟨hv, hrow, hle, hb2', hb3', hBw⟩); obtain ⟨n, hln⟩ : ∃ n, L.length = n := ⟨_, rfl⟩; have HLN := hid hln; rw [hln] at hle; have HRN : Hid (OwnP W wS.heap.size (.slice ua n uc) L) := by rw [← hln]; exact hrow
    have HVN : Hid (Boxed W w1.heap.size 109 (.slice ua n uc)) := by rw [← hln]; exact hv
    have hsW := hBw.size; clear hrw hri hzn hval hmapz hkt hv hrow hb2' hb3' hBw hL hln; by_cases h5 : n = 512
    ·have q5 : ((n : Int) == 512) = true := by rw [h5]; rfl
     have H5 := hid h5; clear h5; gi_wp2_with ((try refine ⟨trivial, ?_⟩); gi_at_call 118; refine (CallsIn.inRound y (callsIn_wide.2 VA.out)).mono ?_; rintro e w3 ⟨rfl, hb3⟩; have v3 : Boxed w3 w1.heap.size 109 (.slice ua n uc) := (hb3.block _ HVN.out.lt).trans HVN.out; have v3c := v3.cell; have b23 : Boxed w3 (w.heap.size + 1 + 1) 109 (.slice none 0 0) := (hb3.block _ HP.out.2.2.2.1.lt).trans HP.out.2.2.2.1; have b23c := b23.cell; have b23f := b23.frozen; have b33 : Boxed w3 (w.heap.size + 1 + 1 + 1) 34 (.int .i64 0) := (hb3.block _ HP.out.2.2.2.2.1.lt).trans HP.out.2.2.2.2.1; have b33c := b33.cell; have b33f := b33.frozen)
     obtain ⟨hv, hrow, hle, hb2', hb3', hBw⟩ := HP.out; refine ⟨(below_keepsFrom _ hb3).trans (((KeepsOthers.setCell _ _ _).trans (KeepsOthers.setCell _ _ _)).from _), ⟨⟨rfl, ?_⟩, (b23.set _).other (by omega) _, (b33.other (by omega) _).set _⟩, Below.setCell (Below.setCell (Below.on hBw hb3) (by have := HSZ.out; show _ ≤ w.heap.size + 1 + 1; omega) _) (by have := HSZ.out; show _ ≤ w.heap.size + 1 + 1 + 1; omega) _⟩; rw [HR2.out, List.length_append, HLN.out, H5.out, List.length_singleton]; decide
    ·have q5 : ((n : Int) == 512) = false := by rw [beq_eq_false_iff_ne]; omega
     have g1 : n + 1 ≤ maxLen := by unfold maxLen; omega
     have g2 : (n + 1) * 32 ≤ 140737488355328 := by omega
     have hn5 : n + 1 ≤ 512 := by omega
     obtain ⟨i0, hi0, hz0, hz1, hz2⟩ := info_ofV infoPr; have hF0 : wS.heap.size ≤ W.heap.size := hsW; have hF1 : wS.heap.size ≤ w1.heap.size := by have := HSZ.out; omega
     have hF2 : w.heap.size + 1 + 1 ≠ w1.heap.size := by omega
     have hF3 : w.heap.size + 1 + 1 + 1 ≠ w1.heap.size := by omega
     clear h5; gi_wp2_with (first
      | ((try refine ⟨trivial, ?_⟩); gi_at_call 118; refine (CallsIn.inRound y (callsIn_wide.2 VA.out)).mono ?_; rintro e w3 ⟨rfl, hb3⟩; have v3 : Boxed w3 w1.heap.size 109 (.slice ua n uc) := (hb3.block _ HVN.out.lt).trans HVN.out; have v3c := v3.cell; have v3f := v3.frozen; have r3 : w3.ownsRow wS.heap.size 113 2 (.slice ua n uc) n (flatP L) := (by have := HRN.out.later hb3; unfold OwnP at this; rw [HLN.out] at this; exact this); have hs3 := hb3.size)
      | (gi_at_builtin; refine wpListIn_append_own _ rfl _ _ 109 rfl wS.heap.size 113 i0 (pv ⟨#[]⟩ ⟨#[]⟩) 2 32 Tryz.underlying109 hi0 hz0 hz1 hz2 rfl (by decide) (.slice ua n uc) n (flatP L) rfl (r3.alloc _) ⟨w3.heap.size, 0, none⟩ 1 1 [.string z.1.1, .string x] rfl rfl (World.news_of_block (World.alloc_heap_new w3 (.cells #[.string z.1.1, .string x] 113))) (by intro u hu; simp at hu; rcases hu with rfl | rfl <;> rfl) g1 g2 (by simp; omega) ?_; intro v' w4 hown' hgrow _; obtain ⟨g', cap', rfl⟩ := ownsRow_succ hown'; have hkp := kp_appended (v' := .slice (some ⟨g', 0, none⟩) (n + 1) cap') v3 r3 hgrow (not_ixt rfl) (not_ixt rfl); obtain ⟨hv1, hv2, hr2, hk2, hb4⟩ := v3.appended (by decide) r3 (by omega) (by omega) hown' hgrow; have hc1 := hv1.cell; have hf1 := hv1.frozen))
     obtain ⟨hv, hrow, hle, hb2', hb3', hBw⟩ := HP.out; have k2 : Boxed w3 (w.heap.size + 1 + 1) 109 (.slice none 0 0) := (hb3.block _ hb2'.lt).trans hb2'; have k3 : Boxed w3 (w.heap.size + 1 + 1 + 1) 34 (.int .i64 0) := (hb3.block _ hb3'.lt).trans hb3'; have k2' := ((k2.alloc (.cells #[.string z.1.1, .string x] 113)).kept hgrow (k2.not_row (by decide) r3)).other hF2 (.slice (some ⟨g', 0, none⟩) (n + 1) cap'); have k3' := ((k3.alloc (.cells #[.string z.1.1, .string x] 113)).kept hgrow (k3.not_row (by decide) r3)).other hF3 (.slice (some ⟨g', 0, none⟩) (n + 1) cap'); refine ⟨(below_keepsFrom _ hb3).trans (hk2.from _), (Kp.of_below hb3).trans hkp, ⟨_, hv2, ?_, ?_⟩, ⟨k2', k3'⟩, (Below.on hBw hb3).trans hb4⟩
     ·rw [HR2.out, flatP_snoc, List.length_append, HLN.out]; exact hr2
     ·rw [HR2.out, List.length_append, HLN.out]; exact hn5
  case hdone =>
   rintro D ys W hD hys ⟨⟨u, hv, hrow, hle⟩, ⟨hb2', hb3'⟩, hBw⟩ hK; rw [hys] at hrow hle; have hrow : OwnP W wS.heap.size u (rdOf E t) := hrow; obtain ⟨ua, uc, rfl⟩ := hrow.slice; obtain ⟨n, hln⟩ : ∃ n, (rdOf E t).length = n := ⟨_, rfl⟩; have HE0 : Hid (rdE (abs m) mk lo hi t = 0) := by show _ = _; rw [HEE.out, HRD.out, if_neg (by omega)]
   rw [hln] at hv; have HRO := hid hrow; have HLN := hid hln; have c := hv.cell; have d2 := hb2'.cell; have f2 := hb2'.frozen; have d3 := hb3'.cell; have f3 := hb3'.frozen
   have hK' := ((KeepsOthers.setCell W ⟨w.heap.size + 1 + 1, 0, none⟩ (.slice ua n uc)).trans (KeepsOthers.setCell _ ⟨w.heap.size + 1 + 1 + 1, 0, none⟩ (.int .i64 0))).same D _ hK rfl; have x2 := (boxed_put ((hb2'.set (.slice ua n uc)).other (B' := w.heap.size + 1 + 1 + 1) (by omega) (.int .i64 0)) hK' rfl (.deferred none)).cell; have x3 := (boxed_put ((hb3'.other (B' := w.heap.size + 1 + 1) (by omega) (.slice ua n uc)).set (.int .i64 0)) hK' rfl (.deferred none)).cell; have HBK : Hid (Below w.heap.size w W) := Below.on HBW.out hBw; have H23 := hid (And.intro hb2' hb3'); clear hv hb2' hb3' hBw hrow hln hle; go_wp2_with fail
   refine ⟨by simp, .inl ⟨_, _, rfl, run_takeDeferred hK', ?_⟩⟩; refine ⟨.tuple #[.slice ua n uc, .int .i64 0], ?_, .slice ua n uc, by rw [HE0.out], ?_, ?_⟩
   ·simp [results, Tryz.f81, go_sem, x2, x3]
   ·unfold rdL; rw [if_pos HE0.out, HRD.out]
    have r1 : OwnP W w.heap.size (.slice ua n uc) (rdOf E t) := by rw [← HLN.out]; exact HRO.out.base (by have := HSZ.out; omega)
    have r2 : (W.setCell ⟨w.heap.size + 1 + 1, 0, none⟩ (.slice ua n uc)).ownsRow w.heap.size 113 2 (.slice ua n uc) (rdOf E t).length (flatP (rdOf E t)) := own_box r1 H23.out.1 (by decide); have r3 := own_box (u' := .int .i64 0) r2 (H23.out.2.other (B' := w.heap.size + 1 + 1) (by omega) (.slice ua n uc)) (by decide); exact ownsRow_putObj r3 _ hK' rfl
   ·exact (Below.setCell (Below.setCell HBK.out (by show w.heap.size ≤ w.heap.size + 1 + 1; omega) _) (by show w.heap.size ≤ w.heap.size + 1 + 1 + 1; omega) _).trans (belowK_b (w := w) (Nat.le_refl _) _ D _ _ (by have := HBW.out.size; have := hBS.size; omega) hK' rfl rfl)
  case hstop =>
   rintro D c pre W hD hpre ⟨⟨⟨rfl, h5⟩, hb2', hb3'⟩, hBw⟩ hK; have x2 := (boxed_put hb2' hK rfl (.deferred none)).cell; have x3 := (boxed_put hb3' hK rfl (.deferred none)).cell; have HE0 : Hid (rdE (abs m) mk lo hi t = 142) := by
    show _ = _
    have := rdOf_prefix hpre t; rw [HEE.out, HRD.out, if_pos (by omega)]
   have HBK : Hid (Below w.heap.size w W) := Below.on HBW.out hBw; gi_wp2
   refine ⟨by simp, .inl ⟨_, _, rfl, run_takeDeferred hK, ?_⟩⟩; refine ⟨.tuple #[.slice none 0 0, .int .i64 142], ?_, .slice none 0 0, by rw [HE0.out], ?_, ?_⟩
   ·simp [results, Tryz.f81, go_sem, x2, x3]
   ·unfold rdL; rw [HE0.out]; exact OwnP.nil _ _
   ·exact HBK.out.trans (belowK_b (w := w) (Nat.le_refl _) W D _ _ (by have := HBW.out.size; have := hBS.size; omega) hK rfl rfl)
end Go.Proofs.YtneojeidpfjpbaaGreatDoor.Vs
namespace Go.Proofs.YtneojeidpfjpbaaGreatDoor.Ys
open Go.RowKit Go.Sort
def RdO (B : Nat) (w : World) (a : Option Addr) (n c : Nat) (l : Vs.Prs) : Prop := n = l.length ∧ Vs.OwnP w B (.slice a n c) l
section
variable {F : Nat → Prop} {w : World} {p : Nat} {m1 m2 m : Option Nat} {V : List Lk.Hv} {I : Lk.It} {s : Ps}
theorem sread_is (T : St F w p m1 m2 m V I s) (hn : Vs.countM s.M ≤ 268435456) (lo hi : ByteArray) (t : Vs.Sp) :
  Calls Tryz.prog 44 #[sp p, .agg #[.string lo, .string hi], .agg #[.int .u64 t.a, .int .u32 t.b, .int .u32 t.c]] w fun e w' => ∃ (a : Option Addr) (n c : Nat), e = .returned (.tuple #[.slice a n c, .int .i64 (Vs.rdE s.M s.wm lo hi t)]) ∧ Hid (RdO w.heap.size w' a n c (Vs.rdL s.M s.wm lo hi t)) ∧ Below w.heap.size w w' := by
 obtain ⟨wx, hwx⟩ : ∃ wx, wx = (w.alloc (.cells #[.string lo, .string hi] 25)).alloc (.cells #[.int .u64 t.a, .int .u32 t.b, .int .u32 t.c] 28) := ⟨_, rfl⟩; have hbx : Below w.heap.size w wx := by rw [hwx]; exact Below.al (Below.al (Below.refl _ _) _) _
 have x0 : wx.cell? ⟨w.heap.size, 0, none⟩ = some (.string lo) := by rw [hwx]; simp [go_sem]
 have x1 : wx.cell? ⟨w.heap.size, 1, none⟩ = some (.string hi) := by rw [hwx]; simp [go_sem]
 have c0 : wx.cell? ⟨w.heap.size + 1, 0, none⟩ = some (.int .u64 t.a) := by rw [hwx]; simp [go_sem]
 have c1 : wx.cell? ⟨w.heap.size + 1, 1, none⟩ = some (.int .u32 t.b) := by rw [hwx]; simp [go_sem]
 have c2 : wx.cell? ⟨w.heap.size + 1, 2, none⟩ = some (.int .u32 t.c) := by rw [hwx]; simp [go_sem]
 have RD : Hid (∀ W, Below wx.heap.size wx W → Calls Tryz.prog 81 #[.pointer (some ⟨p, 5, none⟩), .agg #[.string lo, .string hi], .agg #[.int .u64 t.a, .int .u32 t.b, .int .u32 t.c]] W fun e w' => ∃ (a : Option Addr) (n c : Nat), e = .returned (.tuple #[.slice a n c, .int .i64 (Vs.rdE s.M s.wm lo hi t)]) ∧ Hid (RdO w.heap.size w' a n c (Vs.rdL s.M s.wm lo hi t)) ∧ Below W.heap.size W w') := hid fun W hb => by
  refine (Vs.read_is (T.later (Below.on hbx hb)).st lo hi t hn).mono ?_; rintro e w' ⟨v, he, ho, hbw⟩; obtain ⟨a, c, rfl⟩ := owns_slice ho; exact ⟨a, _, c, he, hid ⟨rfl, Lk.owns_base ho (Below.on hbx hb).size⟩, hbw⟩
 obtain ⟨E, hE⟩ : ∃ E, Vs.rdE s.M s.wm lo hi t = E := ⟨_, rfl⟩; obtain ⟨l, hl⟩ : ∃ l, Vs.rdL s.M s.wm lo hi t = l := ⟨_, rfl⟩; rw [hE, hl] at RD ⊢; have HBX := hid hbx; clear T hn hbx hE hl; go_enter Tryz.func44, Tryz.ntmps44
 go_wp2_with fail
 rw [← hwx]; clear hwx; go_region_held3 (fun w' => w'.cell? ⟨w.heap.size, 0, none⟩ = some (.string lo) ∧ w'.cell? ⟨w.heap.size, 1, none⟩ = some (.string hi) ∧ w'.cell? ⟨w.heap.size + 1, 0, none⟩ = some (.int .u64 t.a) ∧ w'.cell? ⟨w.heap.size + 1, 1, none⟩ = some (.int .u32 t.b) ∧ w'.cell? ⟨w.heap.size + 1, 2, none⟩ = some (.int .u32 t.c) ∧ Below wx.heap.size wx w')
  ((refine (fun (hB : Below wx.heap.size wx _) => ⟨cell_later hB x0, cell_later hB x1, cell_later hB c0, cell_later hB c1, cell_later hB c2, hB⟩) ?_; (repeat (first | with_reducible exact Below.refl _ _ | with_reducible assumption | with_reducible refine Below.drew ?_ | with_reducible refine Below.al ?_ _ | with_reducible refine Below.setCell ?_ (by first | exact Nat.le_refl _ | (simp; omega) | (simp; done)) _ | with_reducible refine Below.on ?_ (by assumption)))))
  (first | (go_at_call 81; refine (RD.out _ (by (repeat (first | with_reducible exact Below.refl _ _ | with_reducible assumption | with_reducible refine Below.drew ?_ | with_reducible refine Below.al ?_ _ | with_reducible refine Below.setCell ?_ (by first | exact Nat.le_refl _ | (simp; omega) | (simp; done)) _ | with_reducible refine Below.on ?_ (by assumption))))).mono ?_; rintro e w2 ⟨a, n, c, rfl, HG, hb2⟩; have hB2 : Below wx.heap.size wx w2 := (by refine Below.on ?_ hb2; (repeat (first | with_reducible exact Below.refl _ _ | with_reducible assumption | with_reducible refine Below.drew ?_ | with_reducible refine Below.al ?_ _ | with_reducible refine Below.setCell ?_ (by first | exact Nat.le_refl _ | (simp; omega) | (simp; done)) _ | with_reducible refine Below.on ?_ (by assumption))))))
 all_goals (try go_wp2_with fail)
 all_goals (refine bodyPost_ret (v := .tuple #[.slice a n c, .int .i64 E]) (by simp [results, Tryz.results44, go_sem]) rfl ⟨a, n, c, rfl, ?_, Below.on HBX.out (by (repeat (first | with_reducible exact Below.refl _ _ | with_reducible assumption | with_reducible refine Below.drew ?_ | with_reducible refine Below.al ?_ _ | with_reducible refine Below.setCell ?_ (by first | exact Nat.le_refl _ | (simp; omega) | (simp; done)) _ | with_reducible refine Below.on ?_ (by assumption))))⟩)
 all_goals exact HG
end
end Go.Proofs.YtneojeidpfjpbaaGreatDoor.Ys
namespace Go.Proofs.YtneojeidpfjpbaaGreatDoor.Vs
open Go.RowKit Go.Sort
def eqP (x y : T2) : Bool := decide (x = y)
theorem run_nePair (x y : T2) (w : World) : (binOp .neq 113 (.agg #[.string x.1, .string x.2]) (.agg #[.string y.1, .string y.2])).run Tryz.prog w = .ok (.bool (!eqP x y)) w := by
 obtain ⟨a, b⟩ := x; obtain ⟨c, d⟩ := y; by_cases h1 : a = c
 ·by_cases h2 : b = d
  ·subst h1 h2; simp [eqP, go_sem, Tryz.underlying113]
  ·have q2 := toList_beq' (decide_eq_false h2); subst h1; simp [eqP, go_sem, Tryz.underlying113, h2, q2]
 ·have q1 := toList_beq' (decide_eq_false h1); simp [eqP, go_sem, Tryz.underlying113, h1, q1]
def allP (xs ys : Prs) (k : Nat) : Bool := allB (fun i => eqP (nth2 xs i) (nth2 ys i)) k
theorem allP_eq {xs ys : Prs} (h : xs.length = ys.length) (ha : allP xs ys xs.length = true) : xs = ys := by
 have hi : ∀ n i, i < n → allB (fun i => eqP (nth2 xs i) (nth2 ys i)) n = true → nth2 xs i = nth2 ys i := by
  intro n; induction n with
  | zero => intro i hi; omega
  | succ n ih =>
   intro i hi ha; rw [allB, Bool.and_eq_true] at ha; by_cases e : i = n
   ·subst e; simpa [eqP] using ha.2
   ·exact ih i (by omega) ha.1
 apply List.ext_getElem h
 intro i h1 h2; have := hi _ i h1 ha; simpa [nth2, h1, h2] using this
theorem samePairs_is {a b : Option Addr} {c d : Nat} {xs ys : Prs} {w : World} {u : Bool} (hu : decide (xs = ys) = u) (h : Row2 w a xs) (k : Row2 w b ys) (hl : xs.length ≤ 1152921504606846976) (hl2 : ys.length ≤ 1152921504606846976) :
  Calls Tryz.prog 48 #[.slice a xs.length c, .slice b ys.length d] w fun e w' => e = .returned (.bool u) ∧ Below w.heap.size w w' := by
 subst hu; by_cases hne : xs.length = ys.length
 ·have q0 : ((xs.length : Int) != (ys.length : Int)) = false := by simp [hne]
  obtain ⟨n, hn⟩ : ∃ n, n = xs.length := ⟨_, rfl⟩; have hn2 : n = ys.length := hn.trans hne; have HA := hid (show _ ∧ _ ∧ _ ∧ _ from ⟨h, k, hn, hn2⟩); rw [← hn, ← hn2] at q0; rw [← hn] at hl ⊢; rw [← hn2]; clear h k hn hn2 hne hl2; go_enter Tryz.func48, Tryz.ntmps48
  go_wp2_with fail
  go_loopg [5] n (fun g s5 wr => ∃ i : Nat, i ≤ n ∧ g = n - i ∧ s5 = .int .i64 i ∧ Hid (Below w.heap.size w wr) ∧ Hid (allP xs ys i = true))
  case atStart => exact ⟨0, by omega, by omega, rfl, Below.refl _ _, rfl⟩
  case round =>
   obtain ⟨i, hi, rfl, rfl, HB, HP⟩ := hrel; by_cases hlt : i < n
   ·obtain ⟨ba, oa, ea, a0, a1⟩ := (HA.out.1.later HB.out) i (by have := HA.out.2.2.1; omega); obtain ⟨bb, ob, eb, b0, b1⟩ := (HA.out.2.1.later HB.out) i (by have := HA.out.2.2.2; omega); subst ea eb; obtain ⟨x, hx⟩ : ∃ x, x = nth2 xs i := ⟨_, rfl⟩; obtain ⟨y, hy⟩ : ∃ y, y = nth2 ys i := ⟨_, rfl⟩; rw [← hx] at a0 a1; rw [← hy] at b0 b1; obtain ⟨u, hu⟩ : ∃ u, eqP x y = u := ⟨_, rfl⟩; have HU : Hid (eqP (nth2 xs i) (nth2 ys i) = u) := by show _ = _; rw [← hx, ← hy]; exact hu
    have hrun := fun w => run_nePair x y w
    rw [hu] at hrun; have ka0 := cell_regrown a0; have ka1 := cell_regrown a1; have kb0 := cell_regrown b0; have kb1 := cell_regrown b1
    clear hx hy hu; obtain ⟨x1, x2⟩ := x; obtain ⟨y1, y2⟩ := y; simp only at hrun a0 a1 b0 b1 ka0 ka1 kb0 kb1; cases u with
    | true =>
     go_wp2_with fail
     go_quiet (fail)
     go_wp2_with fail
     go_roundg (n - (i + 1))
     case measure => omega
     case rel => exact ⟨i + 1, by omega, rfl, by go_num, Below.drewN HB.out _, allB_yes HP.out HU.out⟩
    | false =>
     have HE : Hid (decide (xs = ys) = false) := decide_eq_false fun e => by have := HU.out; rw [e] at this; simp [eqP] at this
     go_wp2_with fail
     go_quiet (fail)
     go_wp2_with fail
     go_ret
     exact ⟨ret_bool (by rw [HE.out]), Below.drewN HB.out _⟩
   ·obtain rfl : i = n := by omega
    have HE : Hid (xs = ys) := allP_eq (HA.out.2.2.1.symm.trans HA.out.2.2.2) (by rw [← HA.out.2.2.1]; exact HP.out); go_wp2_with fail
    go_ret
    exact ⟨ret_bool (by rw [HE.out]; simp), HB.out⟩
 ·have q0 : ((xs.length : Int) != (ys.length : Int)) = true := by simp; omega
  have HE : Hid (decide (xs = ys) = false) := decide_eq_false fun e => hne (by rw [e])
  clear hne; go_enter Tryz.func48, Tryz.ntmps48
  go_wp2_with fail
  go_ret
  exact ⟨ret_bool (by rw [HE.out]), by (repeat (first | exact Below.refl _ _ | assumption | refine Below.drew ?_ | refine Below.al ?_ _ | refine Below.setCell ?_ (by first | exact Nat.le_refl _ | (simp; omega) | (simp; done)) _ | refine Below.on ?_ (by assumption)))⟩
end Go.Proofs.YtneojeidpfjpbaaGreatDoor.Vs
