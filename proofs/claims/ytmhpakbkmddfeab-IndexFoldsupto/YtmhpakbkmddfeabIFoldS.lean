import Derived.Test.YtmhpakbkmddfeabIFoldG
import Derived.Test.YtmhpakbkmddfeabIStirP
namespace Go.Proofs.Ytmhpakbkmddfeab
open Go.RowKit Go.Sort Go.Shelf
set_option linter.unusedVariables false
attribute [local go_sem] Oper.semAt_some

theorem stirX_len2 (l : List En) (e : En) : (stirX l e).length ≤ l.length + 2 := by
  have h1 := delX_len l e.1
  have h2 := setX_len (delX l e.1) (zb e.1) e.2
  have h3 : (stirA l e).length ≤ l.length + 1 := by unfold stirA; omega
  unfold stirX
  cases topX (stirA l e) with
  | none => show (stirA l e).length ≤ _; omega
  | some y => have h4 := setX_len (stirA l e) y.1 (-1); show (setX (stirA l e) y.1 (-1)).length ≤ _; omega
theorem stirX_len2_all (E l : List En) : (E.foldl stirX l).length ≤ l.length + 2 * E.length := by
  induction E generalizing l with
  | nil => exact Nat.le_refl _
  | cons e E ih => have := ih (stirX l e); have := stirX_len2 l e; show (E.foldl stirX (stirX l e)).length ≤ _; rw [List.length_cons]; omega
theorem duo_own {β : Type} (b : Nat) (p q : Value) : Own (fun (_ : β) W => Duo W b p q) := fun s X Y row hs hg hrow =>
  (grownBy_keeps_cells hg hrow (show X.heap[b]? = _ from hs) rfl).trans hs
theorem duoRow_own {β : Type} (n₀ b : Nat) (p : Value) (e : TypeId) (size : Nat) (k : β → Nat) (f : β → List Value) : Own (fun s W => ∃ v, Duo W b p v ∧ W.ownsRow n₀ e size v (k s) (f s)) := by
  rintro s X Y row ⟨v, hv, hr⟩ hg hrow
  refine ⟨v, (grownBy_keeps_cells hg hrow (show X.heap[b]? = _ from hv) rfl).trans hv, hr.kept hg ?_⟩
  rcases hr.2 with ⟨rfl, _⟩ | ⟨g, cap, cur, rfl, _, hgb, _⟩
  · exact .inl rfl
  · refine .inr fun e' => ?_
    obtain ⟨o, ho, hc⟩ := hrow g (by simpa [Value.ownBlock] using e'.symm)
    rw [hgb] at ho; cases ho; cases hc
theorem ownFrom_onl {β : Type} {x B Q : Nat} {w : World} (hq : B ≤ Q) : OwnFrom Q (fun (_ : β) W => Onl (fun b => b = x ∨ B ≤ b) w W) :=
  fun _ _ _ _ hs hg hr => hs.trans ((onl_of_grown hg).mono fun k e => .inr (Nat.le_trans hq (hr k e).1))
theorem duo_put {W : World} {b D : Nat} {p q : Value} {o : Obj} (h : Duo W b p q) (hD : W.heap[D]? = some o) (ho : o.isCells = false) (o' : Obj) : Duo (W.putObj D o') b p q :=
  (World.putObj_heap_other (fun e => by subst e; rw [show W.heap[b]? = _ from h] at hD; cases hD; cases ho)).trans h
theorem box_off {W : World} {b B j : Nat} {t : TypeId} {u : Value} (h : Boxed W b t u) (hne : b ≠ B) (v : Value) : Boxed (W.setCell ⟨B, j, none⟩ v) b t u := (Below.heap_setCell _ _ _ _ hne).trans h

theorem xi_put {W : World} {x D : Nat} {l : List En} {o : Obj} (h : Xi W x l) (hD : W.heap[D]? = some o) (ho : o.isCells = false) (o' : Obj) : Xi (W.putObj D o') x l := by
  obtain ⟨u, hb⟩ := h.box
  refine h.keep ⟨by simp, fun b cs t z _ hb => (World.putObj_heap_other (fun e => by subst e; rw [hb] at hD; cases hD; cases ho)).trans hb⟩ (World.putObj_heap_other (fun e => ?_))
  subst e; rw [show W.heap[x]? = _ from hb] at hD; cases hD; cases ho
theorem onl_from {a b : World} {x B : Nat} (h : Below B a b) : Onl (fun k => k = x ∨ B ≤ k) a b := ⟨h.os, h.tape, h.output, h.size, fun k hk hn => h.block k (Nat.lt_of_not_le fun e => hn (.inr e))⟩

theorem stir_at {W : World} {x B n uc b : Nat} {ua : Option Addr} {xs M : List En} (h : Xi W x xs) (hrow : OwnE W B (.slice ua n uc) M) (hn : M.length = n) (hv : Duo W b (pt x) (.slice ua n uc)) (hbx : b ≠ x) (k : ByteArray) (v : Int) (hxs : xs.length + 3 ≤ 1152921504606846976) (hl : (n + 1) * 64 ≤ 140737488355328) (hB : B ≤ W.heap.size) (hk : k.size + 1 ≤ 9223372036854775807) :
    Calls Try.prog 19 #[.agg #[pt x, .slice ua n uc], .string k, .int .i64 v] W fun e w' => ∃ g cap, e = .returned (.agg #[pt x, .slice (some ⟨g, 0, none⟩) (n + 1) cap]) ∧ Duo w' b (pt x) (.slice ua n uc) ∧ Hid (Xi w' x (stirX xs (k, v)) ∧ OwnE w' B (.slice (some ⟨g, 0, none⟩) (n + 1) cap) (M ++ [(k, v)]) ∧ Onl (fun b => b = x ∨ OwnB (.slice ua n uc) b) W w' ∧ Kp W w') := by
  subst hn
  refine (stir_is h hrow k v hxs hl hB hk).mono ?_
  rintro e w' ⟨v', he, hx', ho', hon, hkp⟩
  obtain ⟨g, cap, rfl⟩ := ho'.some
  exact ⟨g, cap, he, hv.keep hon (fun e => e.elim hbx (hv.not_row (k := 0) hrow)), hx', ho', hon, hkp⟩

theorem stir_ends {w W w2 : World} {x B b n uc g cap : Nat} {ua : Option Addr} {xs ys M M' : List En} (h : Xi W x xs) (hrow : OwnE W B (.slice ua n uc) M) (hbx : b ≠ x) (hb : B ≤ b)
    (hv2 : Duo w2 b (pt x) (.slice ua n uc)) (hx' : Xi w2 x ys) (ho' : OwnE w2 B (.slice (some ⟨g, 0, none⟩) (n + 1) cap) M') (hon : Onl (fun b => b = x ∨ OwnB (.slice ua n uc) b) W w2) (hkp : Kp W w2) (hw : Onl (fun b => b = x ∨ B ≤ b) w W) (Q : Nat) :
    KeepsFrom Q W ((w2.setCell ⟨b, 0, none⟩ (pt x)).setCell ⟨b, 1, none⟩ (.slice (some ⟨g, 0, none⟩) (n + 1) cap)) ∧ Kp W ((w2.setCell ⟨b, 0, none⟩ (pt x)).setCell ⟨b, 1, none⟩ (.slice (some ⟨g, 0, none⟩) (n + 1) cap)) ∧ Duo ((w2.setCell ⟨b, 0, none⟩ (pt x)).setCell ⟨b, 1, none⟩ (.slice (some ⟨g, 0, none⟩) (n + 1) cap)) b (pt x) (.slice (some ⟨g, 0, none⟩) (n + 1) cap) ∧ OwnE ((w2.setCell ⟨b, 0, none⟩ (pt x)).setCell ⟨b, 1, none⟩ (.slice (some ⟨g, 0, none⟩) (n + 1) cap)) B (.slice (some ⟨g, 0, none⟩) (n + 1) cap) M' ∧ Xi ((w2.setCell ⟨b, 0, none⟩ (pt x)).setCell ⟨b, 1, none⟩ (.slice (some ⟨g, 0, none⟩) (n + 1) cap)) x ys ∧ Onl (fun b => b = x ∨ B ≤ b) w ((w2.setCell ⟨b, 0, none⟩ (pt x)).setCell ⟨b, 1, none⟩ (.slice (some ⟨g, 0, none⟩) (n + 1) cap)) := by
  have d3 := hv2.s0 (pt x)
  refine ⟨(onl_keepsFrom Q hon (fun k o hk ho => ?_)).trans (((KeepsOthers.setCell _ _ _).trans (KeepsOthers.setCell _ _ _)).from _), (hkp.trans (hv2.kp 0 _)).trans (d3.kp 1 _), d3.s1 _, d3.own (hv2.own ho' _) _, d3.xi (hv2.xi hx' _ (Ne.symm hbx)) _ (Ne.symm hbx), ?_⟩
  · rcases hk with rfl | hk
    · obtain ⟨u, hb⟩ := h.box
      rw [show W.heap[k]? = _ from hb] at ho; cases ho; rfl
    · exact hrow.cells hk ho
  · exact Onl.set (Onl.set (hw.trans (hon.mono fun k hk => hk.imp id (fun hk => hrow.low hk))) (.inr hb) _ _) (.inr hb) _ _

/-- the loop of Fold goes on -/
def FsI (w : World) (B x : Nat) (l m : List En) {E : List En} (pre : List (Of E)) (W : World) : Prop :=
  (∃ v, Duo W (w.heap.size + 1) (pt x) v ∧ W.ownsRow B 41 2 v (m ++ pre.map (fun x => x.1)).length (flatE (m ++ pre.map (fun x => x.1)))) ∧ Xi W x ((pre.map (fun x => x.1)).foldl stirX l) ∧ Boxed W (w.heap.size + 1 + 1) 50 (fnv 19) ∧ Duo W (w.heap.size + 1 + 1 + 1) nilP nilS ∧ Onl (fun b => b = x ∨ B ≤ b) w W
theorem fsI_own {w : World} {B Q x : Nat} {l m E : List En} (hq : B ≤ Q) : OwnFrom Q (FsI w B x l m (E := E)) :=
  OwnFrom.and (Own.from (duoRow_own B (w.heap.size + 1) (pt x) 41 2 (fun pre : List (Of E) => (m ++ pre.map (fun x => x.1)).length) (fun pre => flatE (m ++ pre.map (fun x => x.1)))) _) (OwnFrom.and (Own.from (xi_own x (fun pre : List (Of E) => (pre.map (fun x => x.1)).foldl stirX l)) _) (OwnFrom.and (Own.from (boxed_own _ _ (fun _ => _)) _) (OwnFrom.and (Own.from (duo_own _ _ _) _) (ownFrom_onl hq))))

theorem folds_room {l e p n : Nat} (hl : (l + l + l + 3) * 64 ≤ 140737488355328) (hxs : e ≤ l) (hlt : p < e) (hll : n ≤ l + 2 * p) : n + 3 ≤ 1152921504606846976 := by
  have h1 : n + 3 ≤ l + l + l + 3 := by omega
  exact Nat.le_trans h1 (Nat.le_trans (Nat.le_mul_of_pos_right _ (by decide)) (Nat.le_trans hl (by decide)))
theorem folds_step {pre l : List En} {z : En} : (pre ++ [z]).foldl stirX l = stirX (pre.foldl stirX l) (z.1, z.2) := by rw [List.foldl_append]; rfl

set_option maxRecDepth 100000 in
set_option maxHeartbeats 1000000 in
theorem foldS_is {w : World} {x B vn vc : Nat} {va : Option Addr} {l m : List En} (h : Xi w x l) (ho : OwnE w B (.slice va vn vc) m) (lo hi : ByteArray) (hl : (l.length + m.length + 2) * 64 ≤ 140737488355328) (hl3 : (l.length + l.length + l.length + 3) * 64 ≤ 140737488355328) (hB : B ≤ w.heap.size) (hks : ∀ e ∈ rangeX l lo hi, e.1.size + 1 ≤ 9223372036854775807) :
    Calls Try.prog 18 #[pt x, .agg #[.string lo, .string hi], .agg #[pt x, .slice va vn vc], fnv 19] w fun e w' => ∃ v', e = .returned (.agg #[pt x, v']) ∧ OwnE w' B v' (m ++ rangeX l lo hi) ∧ Xi w' x ((rangeX l lo hi).foldl stirX l) ∧ Onl (fun b => b = x ∨ B ≤ b) w w' := by
  obtain ⟨E, hE⟩ : ∃ E, rangeX l lo hi = E := ⟨_, rfl⟩
  rw [hE] at hks ⊢
  refine (callsIn_wide (n := 5)).1 ?_
  obtain ⟨wa, hwa⟩ : ∃ wa, wa = (((w.alloc (.cells #[.string lo, .string hi] 45)).alloc (.cells #[pt x, .slice va vn vc] 48)).alloc (.cells #[fnv 19] 50)).alloc (.cells #[nilP, nilS] 48) := ⟨_, rfl⟩
  have hb0 : Below w.heap.size w wa := by rw [hwa]; exact Below.al (Below.al (Below.al (Below.al (Below.refl _ _) _) _) _) _
  have bO : Duo wa (w.heap.size + 1) (pt x) (.slice va vn vc) := by
    have h1 := World.alloc_heap_new (w.alloc (.cells #[.string lo, .string hi] 45)) (.cells #[pt x, .slice va vn vc] 48)
    rw [World.size_alloc] at h1
    rw [hwa]; exact (Below.heap_alloc _ _ _ (by simp)).trans ((Below.heap_alloc _ _ _ (by simp)).trans h1)
  have bF : Boxed wa (w.heap.size + 1 + 1) 50 (fnv 19) := by
    rw [hwa]; have := Boxed.new ((w.alloc (.cells #[.string lo, .string hi] 45)).alloc (.cells #[pt x, .slice va vn vc] 48)) 50 (fnv 19)
    simp only [World.size_alloc] at this; exact this.alloc _
  have bR : Duo wa (w.heap.size + 1 + 1 + 1) nilP nilS := by
    have h1 := World.alloc_heap_new (((w.alloc (.cells #[.string lo, .string hi] 45)).alloc (.cells #[pt x, .slice va vn vc] 48)).alloc (.cells #[fnv 19] 50)) (.cells #[nilP, nilS] 48)
    simp only [World.size_alloc] at h1
    rw [hwa]; exact h1
  have cS : wa.cell? ⟨w.heap.size, 0, none⟩ = some (.string lo) ∧ wa.cell? ⟨w.heap.size, 1, none⟩ = some (.string hi) := by
    have h0 : wa.heap[w.heap.size]? = some (.cells #[.string lo, .string hi] 45 (0, 0)) := by rw [hwa]; exact (Below.heap_alloc _ _ _ (by simp; omega)).trans ((Below.heap_alloc _ _ _ (by simp; omega)).trans ((Below.heap_alloc _ _ _ (by simp)).trans (World.alloc_heap_new w _)))
    exact ⟨cell_of_obj h0 rfl, cell_of_obj h0 rfl⟩
  have cS0 := cS.1
  have cS1 := cS.2
  have RG := hid (range_is (h.later hb0) lo hi)
  have ho0 := ho.later hb0
  have hx0 := h.later hb0
  have hxw := h.lt
  refine callsIn_of_wp_marks Try.func18 rfl trivial ?_ rfl
  simp only [Try.ntmps18, List.size_toArray, List.length_cons, List.length_nil, Nat.reduceAdd, Nat.reduceSub, Array.replicate_succ, Array.replicate_zero, List.push_toArray, List.append_toArray, List.nil_append, List.cons_append]
  subst hwa
  gi_wp2_with ((try refine ⟨trivial, ?_⟩); gi_at_call 39; refine (callsIn_wide.2 RG.out).mono ?_; rintro e w1 ⟨R, Bs, rfl, hit, hb1, hR, hBs⟩)
  have bO1 := bO.later hb1
  have bF1 : Boxed w1 (w.heap.size + 1 + 1) 50 (fnv 19) := (hb1.block _ bF.lt).trans bF
  have bR1 := bR.later hb1
  have ho1 := ho0.later hb1
  have hx1 := hx0.later hb1
  have hB1 : Onl (fun b => b = x ∨ B ≤ b) w w1 := Onl.of_below (Below.on hb0 hb1)
  have hs1 := bR1.lt
  have hxs : (rangeX l lo hi).length ≤ l.length := List.length_filter_le _ _
  have hstops := range_stops (5 - 1) hit
  rw [hE] at hstops hxs
  clear RG hR hBs hb1 bO bF bR h ho ho0 hx0 cS cS0 cS1 hit hE
  refine wpIn_rangeFunc_ownG rfl (by decide) (gf := 45) (lb := #[.pointer (some ⟨R, 0, none⟩), .pointer (some ⟨Bs, 0, none⟩)]) rfl trivial (enters_of Try.func45 (by kernel_rfl) rfl)
    hstops kp_t kp_b (Below.refl _ _) (fun _ => rfl)
    (FsI w B x l m) (fun _ _ _ => False) (fsI_own (by omega)) (fun _ _ _ _ _ hs _ _ => hs)
    ⟨⟨_, bO1, by simpa [OwnE] using ho1⟩, hx1, bF1, bR1, hB1⟩
    (fun y => { tmps := #[pt x, .agg #[.string lo, .string hi], .agg #[pt x, .slice va vn vc], fnv 19, undef, .pointer (some ⟨w.heap.size, 0, none⟩), .pointer (some ⟨w.heap.size + 1, 0, none⟩), .pointer (some ⟨w.heap.size + 1 + 1, 0, none⟩), .pointer (some ⟨w.heap.size + 1 + 1 + 1, 0, none⟩), .string y.1.1, .int .i64 y.1.2, pt x, .bool false, undef, pt x, .agg #[.string lo, .string hi], itv 45 R Bs, .string y.1.1, .int .i64 y.1.2, undef, undef, undef, undef, undef, undef], defers := [] }) ?assign ?body ?done ?stop
  case assign =>
    intro y z W K hK
    gi_wp2
    exact hK
  case body =>
    rintro y pre z W ⟨⟨u, hv, hrow⟩, hX, hF, hD, hOn⟩ hlt
    obtain ⟨M, hM⟩ : ∃ M, m ++ pre.map (fun x => x.1) = M := ⟨_, rfl⟩
    rw [hM] at hrow
    have hrow : OwnE W B u M := hrow
    have hll : M.length = m.length + pre.length := by rw [← hM]; simp
    obtain ⟨n, hn⟩ : ∃ n, M.length = n := ⟨_, rfl⟩
    rw [hn] at hll
    obtain ⟨ua, uc, rfl⟩ : ∃ ua uc, u = .slice ua n uc := by
      have h2 := hrow; unfold OwnE at h2; rw [hn] at h2
      exact owns_slice h2
    have hc := hv.c0
    have hc' := hv.c1
    have hcf := hF.cell
    have hBW : B ≤ W.heap.size := Nat.le_trans hB hOn.size
    have hn64 : (n + 1) * 64 ≤ 140737488355328 := fold_room hl hxs hlt hll
    have hXl : ((pre.map (fun x => x.1)).foldl stirX l).length ≤ l.length + 2 * pre.length := by have := stirX_len2_all (pre.map (fun x => x.1)) l; rwa [List.length_map] at this
    obtain ⟨xs, hxs'⟩ : ∃ xs, (pre.map (fun x => x.1)).foldl stirX l = xs := ⟨_, rfl⟩
    rw [hxs'] at hX hXl
    have hX3 := folds_room hl3 hxs hlt hXl
    have hkz := hks z.1 z.2
    have hMz : m ++ (pre ++ [z]).map (fun x => x.1) = M ++ [(z.1.1, z.1.2)] := by rw [List.map_append]; exact flat_step hM
    have hSz : ((pre ++ [z]).map (fun x => x.1)).foldl stirX l = stirX xs (z.1.1, z.1.2) := by rw [List.map_append, ← hxs']; exact folds_step
    have hMl : (M ++ [(z.1.1, z.1.2)]).length = n + 1 := by rw [List.length_append, hn]; rfl
    have hbx : w.heap.size + 1 ≠ x := Nat.ne_of_gt (Nat.lt_of_lt_of_le hxw (Nat.le_succ _))
    have hbx2 : w.heap.size + 1 + 1 ≠ x := Nat.ne_of_gt (Nat.lt_of_lt_of_le hxw (Nat.le_add_right _ 2))
    have hbx3 : w.heap.size + 1 + 1 + 1 ≠ x := Nat.ne_of_gt (Nat.lt_of_lt_of_le hxw (Nat.le_add_right _ 3))
    have GA := hid (stir_at hX hrow hn hv hbx z.1.1 z.1.2 hX3 hn64 hBW hkz)
    have HV := hid (show _ ∧ _ ∧ _ ∧ _ ∧ _ ∧ _ ∧ _ ∧ _ ∧ _ ∧ _ ∧ _ from ⟨hX, hrow, hF, hD, hOn, hMz, hSz, hMl, hbx, hbx2, hbx3⟩)
    clear hrow hv hF hn hll hlt hM hMz hMl hn64 hBW hX hD hOn hSz hbx hbx2 hbx3 hkz hX3 hXl hxs'
    gi_wp2_with ((try refine ⟨trivial, ?_⟩); gi_at_call 19; refine (CallsIn.inRound y (callsIn_wide.2 GA.out)).mono ?_; rintro e w2 ⟨g, cap, rfl, hv2, hg2⟩; have g0 := hv2.c0; have f0 := hv2.f; have d3 := hv2.s0 (pt x); have g1 := d3.c1; have f3 := d3.f)
    obtain ⟨hX, hrow, hF, hD, hOn, hMz, hSz, hMl, hbx, hbx2, hbx3⟩ := HV.out
    obtain ⟨hx', ho', hon, hkp⟩ := hg2.out
    obtain ⟨e1, e2, e3, e4, e5, e6⟩ := stir_ends hX hrow hbx (Nat.le_trans hB (Nat.le_succ _)) hv2 hx' ho' hon hkp hOn _
    have hF1 := Boxed.keepO hF hon (fun e => e.elim hbx2 (fun e => hF.not_row (by decide) hrow e.symm))
    have hF2 := box_off (j := 1) (B := w.heap.size + 1) (box_off (j := 0) (B := w.heap.size + 1) hF1 (Nat.succ_ne_self _) (pt x)) (Nat.succ_ne_self _) (.slice (some ⟨g, 0, none⟩) (n + 1) cap)
    have hD1 := hD.keep hon (fun e => e.elim hbx3 (hD.not_row (k := 0) hrow))
    have hne3 : w.heap.size + 1 + 1 + 1 ≠ w.heap.size + 1 := Nat.ne_of_gt (Nat.lt_add_of_pos_right (n := w.heap.size + 1) (k := 2) (by decide))
    have hD2 := (hD1.other (j := 0) (B := w.heap.size + 1) hne3 (pt x)).other (j := 1) (B := w.heap.size + 1) hne3 (.slice (some ⟨g, 0, none⟩) (n + 1) cap)
    refine ⟨e1, e2, ⟨_, e3, ?_⟩, ?_, hF2, hD2, e6⟩
    · rw [hMz, hMl]
      have e6 := e4
      unfold OwnE at e6; rw [hMl] at e6
      exact e6
    · rw [hSz]; exact e5
  case done =>
    rintro D ys W hD hys ⟨⟨v, hv, hrow⟩, hX, hF, hR, hOn⟩ hK
    rw [hys] at hrow hX
    have hrow : OwnE W B v (m ++ E) := hrow
    obtain ⟨ua, uc, rfl⟩ := owns_slice hrow
    obtain ⟨n, hn⟩ : ∃ n, (m ++ E).length = n := ⟨_, rfl⟩
    rw [hn] at hv hrow
    have hc := hv.c0
    have hc' := hv.c1
    have r0 := hR.c0
    have rf := hR.f
    have hR1 := hR.s0 (pt x)
    have r1 := hR1.c1
    have rf1 := hR1.f
    have hR2 := hR1.s1 (.slice ua n uc)
    have hK' : ((W.setCell ⟨w.heap.size + 1 + 1 + 1, 0, none⟩ (pt x)).setCell ⟨w.heap.size + 1 + 1 + 1, 1, none⟩ (.slice ua n uc)).heap[D]? = some (.deferred (some [])) := (((KeepsOthers.setCell _ _ _).trans (KeepsOthers.setCell _ _ _)).same D _ hK rfl)
    have hR3 := duo_put hR2 hK' rfl (.deferred none)
    have s0 := hR3.c0
    have s1 := hR3.c1
    have hbx3 : w.heap.size + 1 + 1 + 1 ≠ x := Nat.ne_of_gt (Nat.lt_of_lt_of_le hxw (Nat.le_add_right _ 3))
    have o3 := ownsRow_putObj (hR1.own (j := 1) (hR.own (j := 0) hrow (pt x)) (.slice ua n uc)) (.deferred none) hK' rfl
    have x3 := (hR1.xi (j := 1) (hR.xi (j := 0) hX (pt x) (Ne.symm hbx3)) (.slice ua n uc) (Ne.symm hbx3))
    have n3 : Onl (fun b => b = x ∨ B ≤ b) w ((W.setCell ⟨w.heap.size + 1 + 1 + 1, 0, none⟩ (pt x)).setCell ⟨w.heap.size + 1 + 1 + 1, 1, none⟩ (.slice ua n uc)) := Onl.setNew (Onl.setNew hOn (Nat.le_add_right _ 3) _ _) (Nat.le_add_right _ 3) _ _
    have b3 := belowK_b (n₀ := B) (w := w) hB _ D _ (.deferred none) (Nat.le_trans (Nat.le_of_lt (Nat.lt_of_lt_of_le (Nat.lt_add_of_pos_right (by decide : 0 < 3)) (Nat.le_of_lt hs1))) hD) hK' rfl rfl
    have HH := hid (show _ ∧ _ ∧ _ ∧ _ from ⟨o3, x3, n3, b3⟩)
    clear o3 x3 n3 b3 hrow hX hOn hF hR3 hR2 hR1 hR hv
    gi_wp2
    obtain ⟨o3, x3, n3, b3⟩ := HH.out
    refine ⟨by simp, .inl ⟨_, _, rfl, run_takeDeferred hK', ?_⟩⟩
    refine ⟨.agg #[pt x, .slice ua n uc], ?_, .slice ua n uc, rfl, o3, ?_, ?_⟩
    · simp [results, Try.results18, go_sem, s0, s1]
    · exact xi_put x3 hK' rfl _
    · exact n3.trans (onl_from b3)
  case stop =>
    rintro D c pre W _ _ h _
    exact h.elim

end Go.Proofs.Ytmhpakbkmddfeab
