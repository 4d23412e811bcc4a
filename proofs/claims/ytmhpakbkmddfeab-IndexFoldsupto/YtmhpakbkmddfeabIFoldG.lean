import Derived.Test.YtmhpakbkmddfeabIStir
namespace Go.Proofs.Ytmhpakbkmddfeab
open Go.RowKit Go.Sort Go.Shelf
set_option linter.unusedVariables false
attribute [local go_sem] Oper.semAt_some

theorem xi_own {β : Type} (x : Nat) (f : β → List En) : Own (fun s W => Xi W x (f s)) := fun s X Y row hs hg hrow =>
  hs.keep ⟨hg.size, fun b cs t z _ hb => (grownBy_keeps_cells hg hrow hb rfl).trans hb⟩ (by obtain ⟨v, hb⟩ := hs.box; exact grownBy_keeps_cells hg hrow hb rfl)
theorem onl_keepsFrom {F : Nat → Prop} {W W' : World} (B : Nat) (h : Onl F W W') (hF : ∀ k o, F k → W.heap[k]? = some o → o.isCells = true) : KeepsFrom B W W' :=
  ⟨h.size, fun k o _ hk ho => (h.block k (Array.getElem?_eq_some_iff.1 hk).1 (fun hf => by rw [hF k o hf hk] at ho; cases ho)).trans hk⟩
theorem OwnE.cells {w : World} {B k : Nat} {v : Value} {l : List En} {o : Obj} (h : OwnE w B v l) (hk : OwnB v k) (ho : w.heap[k]? = some o) : o.isCells = true := by
  have h' := h
  obtain ⟨hl, ⟨rfl, _⟩ | ⟨g, cap, cur, rfl, _, hgb, _⟩⟩ := h'
  · simp [OwnB, Value.ownBlock] at hk
  · have e2 : g = k := by simpa [OwnB, Value.ownBlock] using hk
    subst e2
    rw [hgb] at ho; cases ho; rfl
theorem Boxed.keepO {w w' : World} {F : Nat → Prop} {b : Nat} {t : TypeId} {u : Value} (h : Boxed w b t u) (ho : Onl F w w') (hn : ¬ F b) : Boxed w' b t u := (ho.block b h.lt hn).trans h
theorem OwnE.low {w : World} {B k : Nat} {v : Value} {l : List En} (h : OwnE w B v l) (hk : OwnB v k) : B ≤ k := (World.ownsRow.lt h k hk).1
theorem OwnE.some {w : World} {B : Nat} {v : Value} {l : List En} {e : En} (h : OwnE w B v (l ++ [e])) : ∃ g cap, v = .slice (some ⟨g, 0, none⟩) (l.length + 1) cap := by
  have ho2 : w.ownsRow B 41 2 v (l.length + 1) (flatE (l ++ [e])) := by have := h; unfold OwnE at this; rw [List.length_append] at this; exact this
  exact ownsRow_succ ho2
theorem own_box {W : World} {n₀ B : Nat} {t e : TypeId} {size k : Nat} {v u u' : Value} {xs : List Value} (h : W.ownsRow n₀ e size v k xs) (hb : Boxed W B t u) (hte : t ≠ e) : (W.setCell ⟨B, 0, none⟩ u').ownsRow n₀ e size v k xs :=
  h.kept (grownBy_setCell' W B u') (.inr (hb.not_row hte h).symm)
abbrev fnv (f : Nat) : Value := .func (.func f) #[] #[]

theorem gather_at {W : World} {B n uc b : Nat} {ua : Option Addr} {M : List En} (hrow : OwnE W B (.slice ua n uc) M) (hn : M.length = n) (hv : Boxed W b 42 (.slice ua n uc)) (k : ByteArray) (v : Int) (hl : (n + 1) * 64 ≤ 140737488355328) (hB : B ≤ W.heap.size) :
    Calls Try.prog 22 #[.slice ua n uc, .string k, .int .i64 v] W fun e w' => ∃ g cap, e = .returned (.slice (some ⟨g, 0, none⟩) (n + 1) cap) ∧ Boxed w' b 42 (.slice ua n uc) ∧ Hid (OwnE w' B (.slice (some ⟨g, 0, none⟩) (n + 1) cap) (M ++ [(k, v)]) ∧ Onl (OwnB (.slice ua n uc)) W w') := by
  subst hn
  refine (gather_is hrow k v hl hB).mono ?_
  rintro e w' ⟨v', he, ho', hon⟩
  obtain ⟨g, cap, rfl⟩ := ho'.some
  exact ⟨g, cap, he, Boxed.keepO hv hon (fun e => hv.not_row (by decide) hrow e.symm), ho', hon⟩
theorem gather_ends {w W w2 : World} {B b n uc g cap : Nat} {ua : Option Addr} {M M' : List En} (hrow : OwnE W B (.slice ua n uc) M) (hv : Boxed W b 42 (.slice ua n uc)) (hBw : Below B w W) (hb : B ≤ b) (hv2 : Boxed w2 b 42 (.slice ua n uc)) (ho' : OwnE w2 B (.slice (some ⟨g, 0, none⟩) (n + 1) cap) M') (hon : Onl (OwnB (.slice ua n uc)) W w2) (hBW : B ≤ W.heap.size) (Q : Nat) :
    KeepsFrom Q W (w2.setCell ⟨b, 0, none⟩ (.slice (some ⟨g, 0, none⟩) (n + 1) cap)) ∧ Kp W (w2.setCell ⟨b, 0, none⟩ (.slice (some ⟨g, 0, none⟩) (n + 1) cap)) ∧ Boxed (w2.setCell ⟨b, 0, none⟩ (.slice (some ⟨g, 0, none⟩) (n + 1) cap)) b 42 (.slice (some ⟨g, 0, none⟩) (n + 1) cap) ∧ OwnE (w2.setCell ⟨b, 0, none⟩ (.slice (some ⟨g, 0, none⟩) (n + 1) cap)) B (.slice (some ⟨g, 0, none⟩) (n + 1) cap) M' ∧ Below B w (w2.setCell ⟨b, 0, none⟩ (.slice (some ⟨g, 0, none⟩) (n + 1) cap)) :=
  ⟨(onl_keepsFrom Q hon (fun k o hk => hrow.cells hk)).trans ((KeepsOthers.setCell _ _ _).from _), (hrow.kp hon).trans (kp_set hv2 (not_ixt rfl) _), hv2.set _, own_box ho' hv2 (by decide), Below.setCell (hBw.trans (hon.below (fun k hk => hrow.low hk) hBW)) hb _⟩
theorem fold_room {l m e p n : Nat} (hl : (l + m + 2) * 64 ≤ 140737488355328) (hxs : e ≤ l) (hlt : p < e) (hll : n = m + p) : (n + 1) * 64 ≤ 140737488355328 := Nat.le_trans (Nat.mul_le_mul_right 64 (show n + 1 ≤ l + m + 2 by omega)) hl
theorem flat_step {pre : List En} {m M : List En} {x : En} (h : m ++ pre = M) : m ++ (pre ++ [x]) = M ++ [(x.1, x.2)] := by rw [← h, List.append_assoc]

/-- the loop of Fold goes on -/
def FgI (w : World) (B : Nat) (m : List En) {E : List En} (pre : List (Of E)) (W : World) : Prop :=
  (∃ v, Boxed W (w.heap.size + 1) 42 v ∧ W.ownsRow B 41 2 v (m ++ pre.map (fun x => x.1)).length (flatE (m ++ pre.map (fun x => x.1))) ∧ True) ∧ Boxed W (w.heap.size + 1 + 1) 54 (fnv 22) ∧ Below B w W
theorem fgI_own {w : World} {B Q : Nat} {m E : List En} (h : B ≤ w.heap.size) (hq : B ≤ Q) : OwnFrom Q (FgI w B m (E := E)) :=
  OwnFrom.and (Own.from (holdsRow_own B (w.heap.size + 1) 42 41 2 (fun pre : List (Of E) => (m ++ pre.map (fun x => x.1)).length) (fun pre => flatE (m ++ pre.map (fun x => x.1))) (fun _ _ => True)) _) (OwnFrom.and (Own.from (boxed_own _ _ (fun _ => _)) _) (ownFrom_below h hq))

set_option maxRecDepth 100000 in
set_option maxHeartbeats 1000000 in
theorem foldG_is {w : World} {x B vn vc : Nat} {va : Option Addr} {l m : List En} (h : Xi w x l) (ho : OwnE w B (.slice va vn vc) m) (lo hi : ByteArray) (hl : (l.length + m.length + 2) * 64 ≤ 140737488355328) (hB : B ≤ w.heap.size) :
    Calls Try.prog 21 #[pt x, .agg #[.string lo, .string hi], .slice va vn vc, fnv 22] w fun e w' => ∃ v', e = .returned v' ∧ OwnE w' B v' (m ++ rangeX l lo hi) ∧ Below B w w' := by
  obtain ⟨E, hE⟩ : ∃ E, rangeX l lo hi = E := ⟨_, rfl⟩
  rw [hE]
  refine (callsIn_wide (n := 5)).1 ?_
  obtain ⟨wa, hwa⟩ : ∃ wa, wa = ((w.alloc (.cells #[.string lo, .string hi] 45)).alloc (.cells #[.slice va vn vc] 42)).alloc (.cells #[fnv 22] 54) := ⟨_, rfl⟩
  have hb0 : Below w.heap.size w wa := by rw [hwa]; exact Below.al (Below.al (Below.al (Below.refl _ _) _) _) _
  have bO : Boxed wa (w.heap.size + 1) 42 (.slice va vn vc) := by
    rw [hwa]; have := Boxed.new (w.alloc (.cells #[.string lo, .string hi] 45)) 42 (.slice va vn vc)
    simp only [World.size_alloc] at this; exact this.alloc _
  have bF : Boxed wa (w.heap.size + 1 + 1) 54 (fnv 22) := by
    rw [hwa]; have := Boxed.new ((w.alloc (.cells #[.string lo, .string hi] 45)).alloc (.cells #[.slice va vn vc] 42)) 54 (fnv 22)
    simp only [World.size_alloc] at this; exact this
  have cS : wa.cell? ⟨w.heap.size, 0, none⟩ = some (.string lo) ∧ wa.cell? ⟨w.heap.size, 1, none⟩ = some (.string hi) := by
    have h0 : wa.heap[w.heap.size]? = some (.cells #[.string lo, .string hi] 45 (0, 0)) := by rw [hwa]; exact (Below.heap_alloc _ _ _ (by simp; omega)).trans ((Below.heap_alloc _ _ _ (by simp)).trans (World.alloc_heap_new w _))
    exact ⟨cell_of_obj h0 rfl, cell_of_obj h0 rfl⟩
  have cS0 := cS.1
  have cS1 := cS.2
  have RG := hid (range_is (h.later hb0) lo hi)
  have ho0 := ho.later hb0
  refine callsIn_of_wp_marks Try.func21 rfl trivial ?_ rfl
  simp only [Try.ntmps21, List.size_toArray, List.length_cons, List.length_nil, Nat.reduceAdd, Nat.reduceSub, Array.replicate_succ, Array.replicate_zero, List.push_toArray, List.append_toArray, List.nil_append, List.cons_append]
  subst hwa
  gi_wp2_with ((try refine ⟨trivial, ?_⟩); gi_at_call 39; refine (callsIn_wide.2 RG.out).mono ?_; rintro e w1 ⟨R, Bs, rfl, hit, hb1, hR, hBs⟩)
  have bO1 : Boxed w1 (w.heap.size + 1) 42 (.slice va vn vc) := (hb1.block _ bO.lt).trans bO
  have bF1 : Boxed w1 (w.heap.size + 1 + 1) 54 (fnv 22) := (hb1.block _ bF.lt).trans bF
  have ho1 := ho0.later hb1
  have hB1 : Below B w w1 := (Below.on hb0 hb1).mono hB
  have hs1 := bF1.lt
  have hxs : (rangeX l lo hi).length ≤ l.length := List.length_filter_le _ _
  have hstops := range_stops (5 - 1) hit
  rw [hE] at hstops hxs
  clear RG hR hBs hb1 bO bF h ho ho0 cS cS0 cS1 hit hE
  refine wpIn_rangeFunc_ownG rfl (by decide) (gf := 45) (lb := #[.pointer (some ⟨R, 0, none⟩), .pointer (some ⟨Bs, 0, none⟩)]) rfl trivial (enters_of Try.func45 (by kernel_rfl) rfl)
    hstops kp_t kp_b (Below.refl _ _) (fun _ => rfl)
    (FgI w B m) (fun _ _ _ => False) (fgI_own hB (by omega)) (fun _ _ _ _ _ hs _ _ => hs)
    ⟨⟨_, bO1, by simpa [OwnE] using ho1, trivial⟩, bF1, hB1⟩
    (fun y => { tmps := #[pt x, .agg #[.string lo, .string hi], .slice va vn vc, fnv 22, undef, .pointer (some ⟨w.heap.size, 0, none⟩), .pointer (some ⟨w.heap.size + 1, 0, none⟩), .pointer (some ⟨w.heap.size + 1 + 1, 0, none⟩), .slice none 0 0, .string y.1.1, .int .i64 y.1.2, pt x, .bool false, undef, pt x, .agg #[.string lo, .string hi], itv 45 R Bs, .string y.1.1, .int .i64 y.1.2, undef, undef, undef, undef, undef, undef], defers := [] }) ?assign ?body ?done ?stop
  case assign =>
    intro y z W K hK
    gi_wp2
    exact hK
  case body =>
    rintro y pre z W ⟨⟨u, hv, hrow, -⟩, hF, hBw⟩ hlt
    obtain ⟨M, hM⟩ : ∃ M, m ++ pre.map (fun x => x.1) = M := ⟨_, rfl⟩
    rw [hM] at hrow
    have hrow : OwnE W B u M := hrow
    have hll : M.length = m.length + pre.length := by rw [← hM]; simp
    obtain ⟨n, hn⟩ : ∃ n, M.length = n := ⟨_, rfl⟩
    rw [hn] at hll
    obtain ⟨ua, uc, rfl⟩ : ∃ ua uc, u = .slice ua n uc := by
      have h2 := hrow; unfold OwnE at h2; rw [hn] at h2
      exact owns_slice h2
    have hc := hv.cell
    have hcf := hF.cell
    have hBW : B ≤ W.heap.size := Nat.le_trans hB hBw.size
    have hn64 : (n + 1) * 64 ≤ 140737488355328 := fold_room hl hxs hlt hll
    have hMz : m ++ (pre ++ [z]).map (fun x => x.1) = M ++ [(z.1.1, z.1.2)] := by rw [List.map_append]; exact flat_step hM
    have hMl : (M ++ [(z.1.1, z.1.2)]).length = n + 1 := by rw [List.length_append, hn]; rfl
    have GA := hid (gather_at hrow hn hv z.1.1 z.1.2 hn64 hBW)
    have HV := hid (show _ ∧ _ ∧ _ ∧ _ ∧ _ ∧ _ ∧ _ from ⟨hv, hrow, hF, hBw, hBW, hMz, hMl⟩)
    clear hrow hv hF hBw hn hll hlt hM hMz hMl hn64 hBW
    gi_wp2_with ((try refine ⟨trivial, ?_⟩); gi_at_call 22; refine (CallsIn.inRound y (callsIn_wide.2 GA.out)).mono ?_; rintro e w2 ⟨g, cap, rfl, hv2, hg2⟩; have c2 := hv2.cell; have f2 := hv2.frozen)
    obtain ⟨hv, hrow, hF, hBw, hBW, hMz, hMl⟩ := HV.out
    obtain ⟨ho', hon⟩ := hg2.out
    obtain ⟨e1, e2, e3, e4, e5⟩ := gather_ends hrow hv hBw (by omega) hv2 ho' hon hBW _
    have hF2 := (Boxed.keepO hF hon (fun e => hF.not_row (by decide) hrow e.symm)).other (B' := w.heap.size + 1) (by omega) (.slice (some ⟨g, 0, none⟩) (n + 1) cap)
    refine ⟨e1, e2, ⟨_, e3, ?_, trivial⟩, hF2, e5⟩
    rw [hMz, hMl]
    have e6 := e4
    unfold OwnE at e6; rw [hMl] at e6
    exact e6
  case done =>
    rintro D ys W hD hys ⟨⟨v, hv, hrow, -⟩, hF, hBw⟩ hK
    have hc := hv.cell
    rw [hys] at hrow
    have hrow : OwnE W B v (m ++ E) := hrow
    obtain ⟨ua, uc, rfl⟩ := owns_slice hrow
    obtain ⟨n, hn⟩ : ∃ n, (m ++ E).length = n := ⟨_, rfl⟩
    rw [hn] at hc hv hrow
    gi_wp2
    refine ⟨by simp, .inl ⟨_, _, rfl, run_takeDeferred hK, ?_⟩⟩
    exact ⟨_, results_tmp rfl _ _ _, .slice ua n uc, rfl, ownsRow_putObj hrow _ hK rfl, hBw.trans (belowK_b (w := w) hB W D _ _ (by omega) hK rfl rfl)⟩
  case stop =>
    rintro D c pre W _ _ h _
    exact h.elim

end Go.Proofs.Ytmhpakbkmddfeab
