import Derived.Test.YtmlacdfdpdkdaaaDoorVInstall
import Derived.Test.YtmlacdfdpdkdaaaDoorVRowsV
import Derived.Stop.RegionWithIn
/- Above. -/
namespace Go.Proofs.YtmlacdfdpdkdaaaDoor.Vs
open Go.RowKit Go.Sort Go.Shelf
set_option linter.unusedVariables false
attribute [local go_sem] Oper.semAt_some

def lastS (cs : Chain) : Sp := (nthV cs (cs.length - 1)).s
/-- has a key of the span a version above t? -/
def abB (M : Mst) (lo hi : ByteArray) (t : Sp) : Bool := (rangeX M lo hi).any fun e => t.lt (lastS e.2)
theorem last_above {cs : Chain} (h : Ris cs) (h0 : cs ≠ []) (t : Sp) : t.lt (lastS cs) = cs.any fun v => t.lt v.s := by
  have hl : 0 < cs.length := List.length_pos_iff.2 h0
  rw [Bool.eq_iff_iff, List.any_eq_true]
  constructor
  · intro h1
    exact ⟨nthV cs (cs.length - 1), by simp [nthV, show cs.length - 1 < cs.length by omega], h1⟩
  · rintro ⟨v, hv, hvt⟩
    obtain ⟨i, hi, rfl⟩ := List.mem_iff_getElem.1 hv
    unfold lastS
    rw [nthV_get (by omega : cs.length - 1 < cs.length)]
    by_cases e : i = cs.length - 1
    · subst e; exact hvt
    · exact Sp.trans hvt (List.pairwise_iff_getElem.1 h i (cs.length - 1) hi (by omega) (by omega))
theorem ab_dump {M : Mst} (h : Good M) (lo hi : ByteArray) (t : Sp) : abB M lo hi t = (dumpM M).any fun e => inS lo hi e.1 && t.lt e.2.s := by
  have hc := h.chain
  clear h
  unfold abB rangeX dumpM
  induction M with
  | nil => rfl
  | cons x M ih =>
    have ih := ih fun e he => hc e (by simp [he])
    have hx := hc x (by simp)
    have hh : (x.2.map fun v => (x.1, v)).any (fun e => inS lo hi e.1 && t.lt e.2.s) = (inS lo hi x.1 && t.lt (lastS x.2)) := by
      rw [last_above hx.2 hx.1, List.any_map]
      cases hi' : inS lo hi x.1 with
      | true => simp [Function.comp_def, hi']
      | false => simp [Function.comp_def, hi']
    rw [List.filter_cons, List.flatMap_cons, List.any_append, hh, ← ih]
    cases inS lo hi x.1 <;> simp
def abL (E : List En) (t : Sp) : Bool := E.any fun e => t.lt (lastS e.2.vs)
theorem abL_snoc (l : List En) (e : En) (t : Sp) : abL (l ++ [e]) t = (abL l t || t.lt (lastS e.2.vs)) := by simp [abL]
theorem abL_prefix {l m : List En} (h : l <+: m) {t : Sp} (hl : abL l t = true) : abL m t = true := by
  obtain ⟨r, rfl⟩ := h
  unfold abL at hl ⊢; rw [List.any_append, hl]; rfl
theorem abL_is (m : List En) (lo hi : ByteArray) (t : Sp) : abL (rangeX m lo hi) t = abB (abs m) lo hi t := by
  unfold abL abB; rw [← abs_range]; unfold abs; rw [List.any_map]; rfl
def AbI (wS : World) (b6 : Nat) (t : Sp) {E : List En} (pre : List (Of E)) (W : World) : Prop :=
  (Boxed W b6 4 (.bool false) ∧ abL (pre.map (fun x => x.1)) t = false) ∧ Below wS.heap.size wS W
def AbX (wS : World) (b6 : Nat) (t : Sp) {E : List En} (c : Code) (pre : List (Of E)) (W : World) : Prop :=
  ((c = .ret ∧ abL (pre.map (fun x => x.1)) t = true) ∧ Boxed W b6 4 (.bool true)) ∧ Below wS.heap.size wS W
theorem abI_own {wS : World} {b6 Q : Nat} {t : Sp} {E : List En} (hq : wS.heap.size ≤ Q) : OwnFrom Q (AbI wS b6 t (E := E)) :=
  OwnFrom.and (OwnFrom.and (Own.from (boxed_own _ _ (fun _ => _)) _) (ownFrom_pure _ _)) (ownFrom_below (Nat.le_refl _) hq)
theorem abX_own {wS : World} {b6 Q : Nat} {t : Sp} {E : List En} (c : Code) (hq : wS.heap.size ≤ Q) : OwnFrom Q (AbX wS b6 t (E := E) c) :=
  OwnFrom.and (OwnFrom.and (ownFrom_pure _ _) (Own.from (boxed_own _ _ (fun _ => _)) _)) (ownFrom_below (Nat.le_refl _) hq)

set_option maxRecDepth 100000 in
set_option maxHeartbeats 2000000 in
theorem above_is {F : Nat → Prop} {w : World} {p o : Nat} {ty : TypeId} {M : Mst} {mk : Sp} (h : StoG F w p o ty M mk) (lo hi : ByteArray) (t : Sp) (hn : countM M ≤ 268435456) :
    Calls Tryd.prog 23 #[.pointer (some ⟨p, o, none⟩), .agg #[.string lo, .string hi], sv t] w fun e w' => e = .returned (.bool (abB M lo hi t)) ∧ Below w.heap.size w w' := by
  obtain ⟨m, h, rfl⟩ := h
  refine (callsIn_wide (n := 5)).1 ?_
  obtain ⟨wS, hwS⟩ : ∃ wS, wS = (w.alloc (.cells #[.string lo, .string hi] 38)).alloc (.cells #[.int .u64 t.a, .int .u32 t.b, .int .u32 t.c] 33) := ⟨_, rfl⟩
  have hbS : Below w.heap.size w wS := by rw [hwS]; exact Below.al (Below.al (Below.refl _ _) _) _
  have hsz : wS.heap.size = w.heap.size + 1 + 1 := by rw [hwS]; simp
  have kS : wS.heap[w.heap.size]? = some (.cells #[.string lo, .string hi] 38 (0, 0)) := by
    rw [hwS]; exact (Below.heap_alloc _ _ _ (by simp)).trans (World.alloc_heap_new w _)
  have kT : wS.heap[w.heap.size + 1]? = some (.cells #[.int .u64 t.a, .int .u32 t.b, .int .u32 t.c] 33 (0, 0)) := by
    rw [hwS]; have := World.alloc_heap_new (w.alloc (.cells #[.string lo, .string hi] 38)) (.cells #[.int .u64 t.a, .int .u32 t.b, .int .u32 t.c] 33)
    rw [World.size_alloc] at this; exact this
  obtain ⟨wa, hwa⟩ : ∃ wa, wa = wS.alloc (.cells #[.bool false] 4) := ⟨_, rfl⟩
  have hba : Below wS.heap.size wS wa := by rw [hwa]; exact Below.al (Below.refl _ _) _
  have b6 : Boxed wa wS.heap.size 4 (.bool false) := by rw [hwa]; exact Boxed.new wS _ _
  have ha := h.later (Below.on hbS hba)
  have s0 : wa.cell? ⟨w.heap.size, 0, none⟩ = some (.string lo) := cell_later hba (cell_of_obj kS rfl)
  have s1 : wa.cell? ⟨w.heap.size, 1, none⟩ = some (.string hi) := cell_later hba (cell_of_obj kS rfl)
  rw [hsz] at b6
  have RG : Hid (∀ W, Below wa.heap.size wa W → Calls Tryd.prog 18 #[.pointer (some ⟨p, o, none⟩), .agg #[.string lo, .string hi]] W fun e w' => ∃ R B, e = .returned (itv 50 R B) ∧ Hid (It w' R B m lo hi) ∧ Below W.heap.size W w') := fun W hb =>
      (range_is ((ha.later hb).xi) lo hi).mono fun e w' ⟨R, B, he, hit, hb', _, _⟩ => ⟨R, B, he, hit, hb'⟩
  have H := hid (show _ ∧ _ ∧ _ ∧ _ ∧ _ from ⟨h, hbS, hba, b6, kT⟩)
  have HSZ := hid hsz
  have HN := hid hn
  clear h ha hbS hba hsz kS kT b6 hn
  refine callsIn_of_wp_marks Tryd.func23 rfl trivial ?_ rfl
  simp only [Tryd.ntmps23, List.size_toArray, List.length_cons, List.length_nil, Nat.reduceAdd, Nat.reduceSub, Array.replicate_succ, Array.replicate_zero, List.push_toArray, List.append_toArray, List.nil_append, List.cons_append]
  refine wpIn_wide.2 ?_
  go_wp2_with fail
  rw [← hwS, ← hwa]
  clear hwS hwa
  go_region_held3 (fun w' => w'.cell? ⟨w.heap.size, 0, none⟩ = some (.string lo) ∧ w'.cell? ⟨w.heap.size, 1, none⟩ = some (.string hi) ∧ Below wa.heap.size wa w')
      ((refine (fun (hB : Below wa.heap.size wa _) => ⟨cell_later hB s0, cell_later hB s1, hB⟩) ?_; (repeat (first | exact Below.refl _ _ | assumption | refine Below.drew ?_ | refine Below.al ?_ _ | refine Below.setCell ?_ (by first | exact Nat.le_refl _ | (simp; omega) | (simp; done)) _ | refine Below.on ?_ (by assumption)))))
      (first | (go_at_call 18; refine (RG.out _ ?_).mono ?_; ((repeat (first | exact Below.refl _ _ | assumption | refine Below.drew ?_ | refine Below.al ?_ _ | refine Below.setCell ?_ (by first | exact Nat.le_refl _ | (simp; omega) | (simp; done)) _ | refine Below.on ?_ (by assumption)))); rintro e w2 ⟨R, Bs, rfl, hit, hb2⟩))
  have hb02 : Below wa.heap.size wa w2 := by (repeat (first | exact Below.refl _ _ | assumption | refine Below.drew ?_ | refine Below.al ?_ _ | refine Below.setCell ?_ (by first | exact Nat.le_refl _ | (simp; omega) | (simp; done)) _ | refine Below.on ?_ (by assumption)))
  clear RG s0 s1
  obtain ⟨h, hbS, hba, b6, kT⟩ := H.out
  have b6' : Boxed w2 (w.heap.size + 1 + 1) 4 (.bool false) := (hb02.block _ b6.lt).trans b6
  have hBS : Below wS.heap.size wS w2 := Below.on hba hb02
  have hl6 := b6'.lt
  have hszS := HSZ.out
  obtain ⟨E, hE⟩ : ∃ E, rangeX m lo hi = E := ⟨_, rfl⟩
  have hstops := range_stops (5 - 1) hit.out
  rw [hE] at hstops
  have hEm : ∀ e ∈ E, e ∈ m := fun e he => by rw [← hE] at he; exact (List.mem_filter.1 he).1
  have HKT := hid kT
  have HRW : Hid (∀ W, Below wS.heap.size wS W → ∀ z : Of E, Row W z.1.1 z.1.2 ∧ (∃ k, z.1.2.n = k + 1 ∧ (nthV z.1.2.vs k).s = lastS z.1.2.vs) ∧ z.1.2.n ≤ 268435456) := fun W hb z => by
      have hz : z.1 ∈ m := hEm _ z.2
      have hr := h.row _ hz
      have hmm : (z.1.1, z.1.2.vs) ∈ abs m := List.mem_map.2 ⟨_, hz, rfl⟩
      have h0 := List.length_pos_iff.2 (h.good.chain _ hmm).1
      have h2 := hr.len
      refine ⟨hr.later (Below.on hbS hb), ⟨z.1.2.n - 1, by simp only at h0; omega, by unfold lastS; rw [h2]⟩, ?_⟩
      have h1 := count_mem hmm
      have h3 := HN.out
      simp only at h1
      omega
  have HAB : Hid (abB (abs m) lo hi t = abL E t) := by show _ = _; rw [← hE, abL_is]
  have HBW := hid hbS
  clear hE hit h hbS hba b6 kT hb02 H hEm
  go_wp2_with fail
  refine (wpIn_wide (n := 5)).1 ?_
  apply wpIn_rangeFunc_ownG rfl (by decide) (gf := 50) (lb := #[.pointer (some ⟨R, 0, none⟩), .pointer (some ⟨Bs, 0, none⟩)]) rfl trivial (enters_of Tryd.func50 (by kernel_rfl) rfl)
      hstops kp_t kp_b (Below.refl _ _) (fun _ => rfl)
      (AbI wS (w.heap.size + 1 + 1) t) (AbX wS (w.heap.size + 1 + 1) t) (abI_own hBS.size) (fun c => abX_own c hBS.size)
      ⟨⟨b6', rfl⟩, hBS⟩
  case hassign =>
    intro y z W K hK
    gi_wp2
    exact hK
  case hbody =>
    rintro y pre z W ⟨⟨hb6, hab⟩, hBw⟩ hlt
    obtain ⟨hrw, ⟨k, hk, hls⟩, hzn⟩ := HRW.out W hBw z
    have LA := hid (fun W' (hb : Below W.heap.size W W') => last_is (hrw.later hb) hk (by omega))
    have hmapz : (pre ++ [z]).map (fun x => x.1) = pre.map (fun x => x.1) ++ [z.1] := by simp
    have hkt := (hBw.block (w.heap.size + 1) (by have := HSZ.out; omega)).trans HKT.out
    have t0 : W.cell? ⟨w.heap.size + 1, 0, none⟩ = some (.int .u64 t.a) := cell_of_obj hkt rfl
    have t1 : W.cell? ⟨w.heap.size + 1, 1, none⟩ = some (.int .u32 t.b) := cell_of_obj hkt rfl
    have t2 : W.cell? ⟨w.heap.size + 1, 2, none⟩ = some (.int .u32 t.c) := cell_of_obj hkt rfl
    obtain ⟨s, hs⟩ : ∃ s, s = (nthV z.1.2.vs k).s := ⟨_, rfl⟩
    rw [← hs] at LA hls
    obtain ⟨u, hu⟩ : ∃ u, t.lt s = u := ⟨_, rfl⟩
    have HAU : Hid (abL ((pre ++ [z]).map (fun x => x.1)) t = u) := by show _ = _; rw [hmapz, abL_snoc, hab, ← hls, hu]; rfl
    have LE := hid (fun W => less_is (show lessB t.a t.b t.c s.a s.b s.c = u from hu) W)
    have HP := hid (show _ ∧ _ from ⟨hb6, hBw⟩)
    clear hrw hzn hls hmapz hkt hb6 hBw hab hs hu hk
    cases u with
    | true =>
      gi_wp2_with fail
      gi_region_with (first
        | ((try refine ⟨trivial, ?_⟩); gi_at_call 16; refine (CallsIn.inRound y (callsIn_wide.2 (LA.out _ ?_))).mono ?_; ((repeat (first | exact Below.refl _ _ | assumption | refine Below.drew ?_ | refine Below.al ?_ _ | refine Below.setCell ?_ (by first | exact Nat.le_refl _ | (simp; omega) | (simp; done)) _ | refine Below.on ?_ (by assumption)))); rintro e w3 ⟨rfl, hb3⟩; have t0 := cell_later hb3 t0; have t1 := cell_later hb3 t1; have t2 := cell_later hb3 t2)
        | ((try refine ⟨trivial, ?_⟩); gi_at_call 15; refine (CallsIn.inRound y (callsIn_wide.2 (LE.out _))).mono ?_; rintro e w4 ⟨rfl, hb4⟩))
      all_goals
        have hb34 : Below W.heap.size W w4 := by (repeat (first | exact Below.refl _ _ | assumption | refine Below.drew ?_ | refine Below.al ?_ _ | refine Below.setCell ?_ (by first | exact Nat.le_refl _ | (simp; omega) | (simp; done)) _ | refine Below.on ?_ (by assumption)))
        have b64 : Boxed w4 (w.heap.size + 1 + 1) 4 (.bool false) := (hb34.block _ HP.out.1.lt).trans HP.out.1
        have b64c := b64.cell
        have b64f := b64.frozen
        clear t0 t1 t2
        gi_wp2_with fail
        refine ⟨(below_keepsFrom _ hb34).trans ((KeepsOthers.setCell _ _ _).from _), ⟨⟨rfl, HAU.out⟩, b64.set _⟩, Below.setCell (Below.on HP.out.2 hb34) (by have := HSZ.out; show _ ≤ w.heap.size + 1 + 1; omega) _⟩
    | false =>
      gi_wp2_with fail
      gi_region_with (first
        | ((try refine ⟨trivial, ?_⟩); gi_at_call 16; refine (CallsIn.inRound y (callsIn_wide.2 (LA.out _ ?_))).mono ?_; ((repeat (first | exact Below.refl _ _ | assumption | refine Below.drew ?_ | refine Below.al ?_ _ | refine Below.setCell ?_ (by first | exact Nat.le_refl _ | (simp; omega) | (simp; done)) _ | refine Below.on ?_ (by assumption)))); rintro e w3 ⟨rfl, hb3⟩; have t0 := cell_later hb3 t0; have t1 := cell_later hb3 t1; have t2 := cell_later hb3 t2)
        | ((try refine ⟨trivial, ?_⟩); gi_at_call 15; refine (CallsIn.inRound y (callsIn_wide.2 (LE.out _))).mono ?_; rintro e w4 ⟨rfl, hb4⟩))
      all_goals
        have hb34 : Below W.heap.size W w4 := by (repeat (first | exact Below.refl _ _ | assumption | refine Below.drew ?_ | refine Below.al ?_ _ | refine Below.setCell ?_ (by first | exact Nat.le_refl _ | (simp; omega) | (simp; done)) _ | refine Below.on ?_ (by assumption)))
        clear t0 t1 t2
        gi_wp2_with fail
        refine ⟨below_keepsFrom _ hb34, Kp.of_below hb34, ⟨(hb34.block _ HP.out.1.lt).trans HP.out.1, HAU.out⟩, Below.on HP.out.2 hb34⟩
  case hdone =>
    rintro D ys W hD hys ⟨⟨hb6, hab⟩, hBw⟩ hK
    rw [hys] at hab
    have HE0 : Hid (abB (abs m) lo hi t = false) := by show _ = _; rw [HAB.out, hab]
    have d6 := hb6.cell; have f6 := hb6.frozen
    have hK' := (KeepsOthers.setCell W ⟨w.heap.size + 1 + 1, 0, none⟩ (.bool false)).same D _ hK rfl
    have x6 := (boxed_put (hb6.set (.bool false)) hK' rfl (.deferred none)).cell
    have HBK : Hid (Below w.heap.size w W) := Below.on HBW.out hBw
    clear hb6 hBw hab
    go_wp2_with fail
    refine ⟨by simp, .inl ⟨_, _, rfl, run_takeDeferred hK', ?_⟩⟩
    refine ⟨.bool false, ?_, by rw [HE0.out], ?_⟩
    · simp [results, Tryd.f23, go_sem, x6]
    · exact (Below.setCell HBK.out (by show w.heap.size ≤ w.heap.size + 1 + 1; omega) _).trans (belowK_b (w := w) (Nat.le_refl _) _ D _ _ (by have := HBW.out.size; have := hBS.size; omega) hK' rfl rfl)
  case hstop =>
    rintro D c pre W hD hpre ⟨⟨⟨rfl, h5⟩, hb6⟩, hBw⟩ hK
    have x6 := (boxed_put hb6 hK rfl (.deferred none)).cell
    have HE0 : Hid (abB (abs m) lo hi t = true) := by show _ = _; rw [HAB.out]; exact abL_prefix hpre h5
    have HBK : Hid (Below w.heap.size w W) := Below.on HBW.out hBw
    gi_wp2
    refine ⟨by simp, .inl ⟨_, _, rfl, run_takeDeferred hK, ?_⟩⟩
    refine ⟨.bool true, ?_, by rw [HE0.out], ?_⟩
    · simp [results, Tryd.f23, go_sem, x6]
    · exact HBK.out.trans (belowK_b (w := w) (Nat.le_refl _) W D _ _ (by have := HBW.out.size; have := hBS.size; omega) hK rfl rfl)
end Go.Proofs.YtmlacdfdpdkdaaaDoor.Vs
