import Derived.Test.YtmlacdfdpdkdaaaDoorVInstall
import Derived.Maps.AppendAt
/- New, Watermark. -/
namespace Go.Proofs.YtmlacdfdpdkdaaaDoor.Vs
open Go.RowKit Go.Sort
set_option linter.unusedVariables false

theorem stonew_is (w : World) : Calls Tryd.prog 4 #[] w fun e w' => ∃ p F, e = .returned (pt p) ∧ Sto F w' p [] ⟨0, 0, 0⟩ ∧ (∀ b, F b → w.heap.size ≤ b) ∧ Below w.heap.size w w' := by
  go_enter Tryd.func4, Tryd.ntmps4
  go_wp2_with fail
  go_ret
  obtain ⟨W, hW⟩ : ∃ W, W = w.alloc (.cells #[.pointer none, .int .u64 0, .int .u32 0, .int .u32 0] 66) := ⟨_, rfl⟩
  have hb2 : Below w.heap.size w W := by rw [hW]; exact Below.al (Below.refl _ _) _
  have kb : W.heap[w.heap.size]? = some (.cells #[.pointer none, .int .u64 0, .int .u32 0, .int .u32 0] 66 (0, 0)) := by rw [hW]; exact World.alloc_heap_new _ _
  refine ⟨w.heap.size, fun b => b = w.heap.size, rfl, ⟨[], ?_, rfl⟩, ?_, by rw [← hW]; exact hb2⟩
  · rw [← hW]
    refine ⟨⟨_, kb, rfl, rfl, rfl⟩, stT_store, ⟨.nil, _, _, kb, stT_store.1, rfl, trivial, rfl, List.Pairwise.nil⟩, fun e he => (by cases he), List.Pairwise.nil, Good.nil, rfl, fun e he => (by cases he), ?_⟩
    rintro b rfl
    exact ⟨_, _, _, kb, .inl rfl⟩
  · rintro b rfl
    exact Nat.le_refl _
end Go.Proofs.YtmlacdfdpdkdaaaDoor.Vs
/- What loops over an iterator keep. -/
namespace Go.Proofs.YtmlacdfdpdkdaaaDoor.Vs
open Go.RowKit Go.Sort Go.Shelf
set_option linter.unusedVariables false
attribute [local go_sem] Oper.semAt_some

theorem not_ixt {t : TypeId} (h : (t == 104 || t == 38 || t == 62) = false) : ¬ IxT t := by
  simp only [Bool.or_eq_false_iff, beq_eq_false_iff_ne] at h
  rintro (e | e | e)
  · exact h.1.1 e
  · exact h.1.2 e
  · exact h.2 e
theorem row_not {W : World} {base size k : Nat} {e : TypeId} {v : Value} {xs : List Value} (hr : W.ownsRow base e size v k xs) (he : ¬ IxT e) {b : Nat} {cs : Array Value} {t : TypeId} {z : Nat × Nat} (ht : IxT t) (hb : W.heap[b]? = some (.cells cs t z)) : some b ≠ v.ownBlock := by
  rcases hr.2 with ⟨rfl, _⟩ | ⟨g, cap, cur, rfl, _, hgb, _⟩
  · simp [Value.ownBlock]
  · intro e'
    obtain rfl : b = g := by simpa [Value.ownBlock] using e'
    rw [hb] at hgb
    cases hgb
    exact he ht
/-- 'out = append(out, ..)' keeps what no call changes -/
theorem kp_appended {W w1 : World} {n₀ B : Nat} {t e : TypeId} {size : Nat} {v v' : Value} {k : Nat} {xs : List Value} {tmp : Obj}
    (hv : Boxed W B t v) (hrow : W.ownsRow n₀ e size v k xs) (hgrow : (W.alloc tmp).grownBy w1 v.ownBlock) (ht : ¬ IxT t) (he : ¬ IxT e) : Kp W (w1.setCell ⟨B, 0, none⟩ v') := by
  refine ⟨Nat.le_trans (Nat.le_trans (by simp) hgrow.size) (by simp [World.setCell]), fun b cs ty z hty hb => ?_⟩
  have hlt := (Array.getElem?_eq_some_iff.1 hb).1
  have hne : b ≠ B := fun e' => by subst e'; rw [show W.heap[b]? = _ from hv] at hb; cases hb; exact ht hty
  refine (Below.heap_setCell _ _ _ _ hne).trans ((hgrow.block b (by simp; omega) (row_not hrow he hty hb)).trans ((Below.heap_alloc W tmp b hlt).trans hb))

theorem kp_set {W : World} {B : Nat} {t : TypeId} {v : Value} (h : Boxed W B t v) (ht : ¬ IxT t) (u : Value) : Kp W (W.setCell ⟨B, 0, none⟩ u) :=
  Kp.of_onl (F := fun b => b = B) (Onl.set (F := fun b => b = B) (Onl.refl _ _) rfl _ _) fun b cs ty z hf ho hty => by subst hf; rw [show W.heap[b]? = _ from h] at ho; cases ho; exact ht hty
/-- three boxes, all written -/
theorem three {W : World} {a b c : Nat} {ta tb tc : TypeId} {x y z : Value} (h1 : Boxed W a ta x) (h2 : Boxed W b tb y) (h3 : Boxed W c tc z) (hab : a ≠ b) (hac : a ≠ c) (hbc : b ≠ c) (x' y' z' : Value) :
    Boxed (((W.setCell ⟨a, 0, none⟩ x').setCell ⟨b, 0, none⟩ y').setCell ⟨c, 0, none⟩ z') a ta x' ∧ Boxed (((W.setCell ⟨a, 0, none⟩ x').setCell ⟨b, 0, none⟩ y').setCell ⟨c, 0, none⟩ z') b tb y' ∧ Boxed (((W.setCell ⟨a, 0, none⟩ x').setCell ⟨b, 0, none⟩ y').setCell ⟨c, 0, none⟩ z') c tc z' :=
  ⟨((h1.set x').other hab _).other hac _, ((h2.other (Ne.symm hab) _).set y').other hbc _, ((h3.other (Ne.symm hac) _).other (Ne.symm hbc) _).set z'⟩
theorem keeps3 (W : World) (a b c : Addr) (x y z : Value) : KeepsOthers W (((W.setCell a x).setCell b y).setCell c z) := ((KeepsOthers.setCell _ _ _).trans (KeepsOthers.setCell _ _ _)).trans (KeepsOthers.setCell _ _ _)
theorem boxed_put {W : World} {B D : Nat} {t : TypeId} {v : Value} {o : Obj} (h : Boxed W B t v) (hD : W.heap[D]? = some o) (ho : o.isCells = false) (o' : Obj) : Boxed (W.putObj D o') B t v :=
  h.kept (grownBy_putObj' W D o') (fun e => by
    have e2 : B = D := by simpa using e
    subst e2
    rw [show W.heap[B]? = _ from h] at hD; cases hD; cases ho)
end Go.Proofs.YtmlacdfdpdkdaaaDoor.Vs
/- Len: a fold over the index. -/
namespace Go.Proofs.YtmlacdfdpdkdaaaDoor.Vs
open Go.RowKit Go.Sort Go.Shelf
set_option linter.unusedVariables false
attribute [local go_sem] Oper.semAt_some

abbrev fnv (f : Nat) : Value := .func (.func f) #[] #[]
def lenE (l : List En) : Nat := (l.map (·.2.n)).sum
theorem lenE_snoc (l : List En) (e : En) : lenE (l ++ [e]) = lenE l + e.2.n := by simp [lenE]
theorem lenE_le {l : List En} {e : En} (h : e ∈ l) : e.2.n ≤ lenE l := by
  induction l with
  | nil => cases h
  | cons x l ih =>
    simp only [lenE, List.map_cons, List.sum_cons]
    rcases List.mem_cons.1 h with rfl | h
    · omega
    · have := ih h; unfold lenE at this; omega
theorem len1_is {a n cap s : Nat} {g : Option Addr} {k : ByteArray} (hs : a + n = s) (h : s ≤ 1152921504606846976) (w : World) :
    Calls Tryd.prog 56 #[.int .i64 a, .string k, .slice g n cap] w fun e w' => e = .returned (.int .i64 (s : Nat)) ∧ w' = w := by
  subst hs
  go_enter Tryd.func56, Tryd.ntmps56
  go_wp2_with fail
  go_ret
  exact ⟨by go_num, rfl⟩
def FlI (w : World) {E : List En} (pre : List (Of E)) (W : World) : Prop :=
  Boxed W (w.heap.size + 1) 3 (.int .i64 (lenE (pre.map (fun x => x.1)) : Nat)) ∧ Boxed W (w.heap.size + 1 + 1) 110 (fnv 56) ∧ Below w.heap.size w W
theorem flI_own {w : World} {Q : Nat} {E : List En} (hq : w.heap.size ≤ Q) : OwnFrom Q (FlI w (E := E)) :=
  OwnFrom.and (Own.from (boxed_own _ _ (fun pre : List (Of E) => .int .i64 (lenE (pre.map (fun x => x.1)) : Nat))) _) (OwnFrom.and (Own.from (boxed_own _ _ (fun _ => _)) _) (ownFrom_below (Nat.le_refl _) hq))
theorem lenE_bound {E : List En} (N : Nat) (hN : ∀ e ∈ E, e.2.n ≤ N) : ∀ pre : List (Of E), lenE (pre.map (fun x => x.1)) ≤ pre.length * N
  | [] => by simp [lenE]
  | x :: pre => by
    have := lenE_bound N hN pre
    have := hN x.1 x.2
    simp only [lenE, List.map_cons, List.sum_cons, List.length_cons, Nat.add_mul, Nat.one_mul] at *
    omega

set_option maxRecDepth 100000 in
set_option maxHeartbeats 1000000 in
theorem foldL_is {w : World} {x o : Nat} {l : List En} (h : Xi w x o l) (lo hi : ByteArray) (hl : l.length ≤ 1073741824) (hn : ∀ e ∈ l, e.2.n ≤ 536870912) :
    Calls Tryd.prog 57 #[.pointer (some ⟨x, o, none⟩), .agg #[.string lo, .string hi], .int .i64 0, fnv 56] w fun e w' => e = .returned (.int .i64 (lenE (rangeX l lo hi) : Nat)) ∧ Below w.heap.size w w' := by
  obtain ⟨E, hE⟩ : ∃ E, rangeX l lo hi = E := ⟨_, rfl⟩
  have hEn : ∀ e ∈ E, e.2.n ≤ 536870912 := fun e he => hn e (by rw [← hE] at he; exact (List.mem_filter.1 he).1)
  rw [hE]
  refine (callsIn_wide (n := 5)).1 ?_
  obtain ⟨wa, hwa⟩ : ∃ wa, wa = ((w.alloc (.cells #[.string lo, .string hi] 38)).alloc (.cells #[.int .i64 0] 3)).alloc (.cells #[fnv 56] 110) := ⟨_, rfl⟩
  have hb0 : Below w.heap.size w wa := by rw [hwa]; exact Below.al (Below.al (Below.al (Below.refl _ _) _) _) _
  have bO : Boxed wa (w.heap.size + 1) 3 (.int .i64 0) := by
    rw [hwa]; have := Boxed.new (w.alloc (.cells #[.string lo, .string hi] 38)) 3 (.int .i64 0)
    simp only [World.size_alloc] at this; exact this.alloc _
  have bF : Boxed wa (w.heap.size + 1 + 1) 110 (fnv 56) := by
    rw [hwa]; have := Boxed.new ((w.alloc (.cells #[.string lo, .string hi] 38)).alloc (.cells #[.int .i64 0] 3)) 110 (fnv 56)
    simp only [World.size_alloc] at this; exact this
  have cS : wa.cell? ⟨w.heap.size, 0, none⟩ = some (.string lo) ∧ wa.cell? ⟨w.heap.size, 1, none⟩ = some (.string hi) := by
    have h0 : wa.heap[w.heap.size]? = some (.cells #[.string lo, .string hi] 38 (0, 0)) := by rw [hwa]; exact (Below.heap_alloc _ _ _ (by simp; omega)).trans ((Below.heap_alloc _ _ _ (by simp)).trans (World.alloc_heap_new w _))
    exact ⟨cell_of_obj h0 rfl, cell_of_obj h0 rfl⟩
  have cS0 := cS.1
  have cS1 := cS.2
  have RG := hid (range_is (h.later hb0) lo hi)
  refine callsIn_of_wp_marks Tryd.func57 rfl trivial ?_ rfl
  simp only [Tryd.ntmps57, List.size_toArray, List.length_cons, List.length_nil, Nat.reduceAdd, Nat.reduceSub, Array.replicate_succ, Array.replicate_zero, List.push_toArray, List.append_toArray, List.nil_append, List.cons_append]
  subst hwa
  gi_wp2_with ((try refine ⟨trivial, ?_⟩); gi_at_call 18; refine (callsIn_wide.2 RG.out).mono ?_; rintro e w1 ⟨R, Bs, rfl, hit, hb1, hR, hBs⟩)
  have bO1 : Boxed w1 (w.heap.size + 1) 3 (.int .i64 0) := (hb1.block _ bO.lt).trans bO
  have bF1 : Boxed w1 (w.heap.size + 1 + 1) 110 (fnv 56) := (hb1.block _ bF.lt).trans bF
  have hB1 : Below w.heap.size w w1 := Below.on hb0 hb1
  have hs1 := bF1.lt
  have hxs : (rangeX l lo hi).length ≤ l.length := List.length_filter_le _ _
  have hstops := range_stops (5 - 1) hit
  rw [hE] at hstops hxs
  clear RG hR hBs hb1 bO bF h cS cS0 cS1 hit hE
  refine wpIn_rangeFunc_ownG rfl (by decide) (gf := 50) (lb := #[.pointer (some ⟨R, 0, none⟩), .pointer (some ⟨Bs, 0, none⟩)]) rfl trivial (enters_of Tryd.func50 (by kernel_rfl) rfl)
    hstops kp_t kp_b (Below.refl _ _) (fun _ => rfl)
    (FlI w) (fun _ _ _ => False) (flI_own (by omega)) (fun _ _ _ _ _ hs _ _ => hs)
    ⟨bO1, bF1, hB1⟩
    (fun y => { tmps := #[.pointer (some ⟨x, o, none⟩), .agg #[.string lo, .string hi], .int .i64 0, fnv 56, undef, .pointer (some ⟨w.heap.size, 0, none⟩), .pointer (some ⟨w.heap.size + 1, 0, none⟩), .pointer (some ⟨w.heap.size + 1 + 1, 0, none⟩), .int .i64 0, .string y.1.1, .slice (some ⟨y.1.2.g, 0, none⟩) y.1.2.n y.1.2.cap, .pointer (some ⟨x, o, none⟩), .bool false, undef, .pointer (some ⟨x, o, none⟩), .agg #[.string lo, .string hi], itv 50 R Bs, .string y.1.1, .slice (some ⟨y.1.2.g, 0, none⟩) y.1.2.n y.1.2.cap, undef, undef, undef, undef, undef, undef], defers := [] }) ?assign ?body ?done ?stop
  case assign =>
    intro y z W K hK
    gi_wp2
    exact hK
  case body =>
    rintro y pre z W ⟨hv, hF, hBw⟩ hlt
    have hbd := lenE_bound 536870912 hEn (pre ++ [z])
    have hsn : lenE ((pre ++ [z]).map (fun x => x.1)) = lenE (pre.map (fun x => x.1)) + z.1.2.n := by rw [List.map_append]; exact lenE_snoc _ _
    have hs : lenE ((pre ++ [z]).map (fun x => x.1)) ≤ 1152921504606846976 := by
      have h1 : (pre ++ [z]).length ≤ 1073741824 := by rw [List.length_append, List.length_singleton]; omega
      exact Nat.le_trans hbd (Nat.le_trans (Nat.mul_le_mul_right _ h1) (by decide))
    obtain ⟨s, hsd⟩ : ∃ s, lenE ((pre ++ [z]).map (fun x => x.1)) = s := ⟨_, rfl⟩
    obtain ⟨q, hqd⟩ : ∃ q, lenE (pre.map (fun x => x.1)) = q := ⟨_, rfl⟩
    rw [hqd] at hsn hv
    rw [hsd] at hsn hs
    have HSD := hid hsd
    have hc := hv.cell
    have hcf := hF.cell
    have hfr := hv.frozen
    have GA := hid (fun W => len1_is (cap := z.1.2.cap) (g := some ⟨z.1.2.g, 0, none⟩) (k := z.1.1) hsn.symm hs W)
    have HV := hid (show _ ∧ _ ∧ _ from ⟨hv, hF, hBw⟩)
    clear hv hF hBw hsd hqd hbd hsn
    gi_wp2_with ((try refine ⟨trivial, ?_⟩); gi_at_call 56; refine (CallsIn.inRound y (callsIn_wide.2 (GA.out _))).mono ?_; rintro e w2 ⟨rfl, rfl⟩)
    obtain ⟨hv, hF, hBw⟩ := HV.out
    refine ⟨(KeepsOthers.setCell _ _ _).from _, kp_set hv (not_ixt rfl) _, ?_, hF.other (by omega) _, Below.setCell hBw (by simp) _⟩
    rw [HSD.out]; exact hv.set _
  case done =>
    rintro D ys W hD hys ⟨hv, hF, hBw⟩ hK
    have hc := hv.cell
    rw [hys] at hc
    gi_wp2
    refine ⟨by simp, .inl ⟨_, _, rfl, run_takeDeferred hK, ?_⟩⟩
    exact ⟨_, results_tmp rfl _ _ _, rfl, hBw.trans (belowK_b (w := w) (Nat.le_refl _) W D _ _ (by omega) hK rfl rfl)⟩
  case stop =>
    rintro D c pre W _ _ h _
    exact h.elim

theorem lenE_abs {m : List En} (h : ∀ e ∈ m, e.2.vs.length = e.2.n) : lenE m = countM (abs m) := by
  induction m with
  | nil => rfl
  | cons x m ih =>
    have h1 := ih fun e he => h e (by simp [he])
    have h2 := h x (by simp)
    simp only [lenE, countM, abs, List.map_cons, List.sum_cons] at h1 ⊢
    omega
theorem stolen_is {F : Nat → Prop} {w : World} {p o : Nat} {ty : TypeId} {M : Mst} {mk : Sp} (h : StoG F w p o ty M mk) (hn : countM M ≤ 268435456) :
    Calls Tryd.prog 27 #[.pointer (some ⟨p, o, none⟩)] w fun e w' => e = .returned (.int .i64 (countM M : Nat)) ∧ Below w.heap.size w w' := by
  obtain ⟨m, h, rfl⟩ := h
  have hk := count_keys h.good
  rw [abs_len] at hk
  have hl : ∀ e ∈ m, e.2.vs.length = e.2.n := fun e he => (h.row e he).len
  have hle := lenE_abs hl
  have FL := hid (foldL_is h.xi ⟨#[]⟩ ⟨#[]⟩ (by omega) (fun e he => by have := lenE_le he; omega))
  rw [rangeX_all, hle] at FL
  clear h hk hl hle
  obtain ⟨n, hn'⟩ : ∃ n, n = countM (abs m) := ⟨_, rfl⟩
  rw [← hn'] at FL ⊢
  clear hn' hn
  go_enter Tryd.func27, Tryd.ntmps27
  go_wp2_with (go_at_call 57; refine FL.out.mono ?_; rintro e w1 ⟨rfl, hb1⟩)
  go_ret
  exact ⟨rfl, hb1⟩
end Go.Proofs.YtmlacdfdpdkdaaaDoor.Vs
