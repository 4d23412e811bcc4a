import Derived.Test.YtmhpakbkmddfeaaITwo
import Derived.Test.YtmhpakbkmddfeaaISpan
import Derived.Test.YtmhpakbkmddfeaaIRise
namespace Go.Proofs.Ytmhpakbkmddfeaa
open Go.RowKit Go.Sort Go.Shelf
set_option linter.unusedVariables false
attribute [local go_sem] Oper.semAt_some

theorem opAt_own {β : Type} (b : Nat) (op : Ao) : Own (fun (_ : β) W => OpAt W b op) := fun s X Y row hs hg hrow =>
  (grownBy_keeps_cells hg hrow (show X.heap[b]? = _ from hs) rfl).trans hs
theorem prefix_nth {xs : List En} {pre : List (Of xs)} {x : Of xs} (h : (pre ++ [x]).map (fun y => y.1) <+: xs) : x.1 = nthE xs pre.length := by
  obtain ⟨t, ht⟩ := h
  have h1 : xs[pre.length]? = some x.1 := by
    have : (((pre ++ [x]).map (fun y => y.1)) ++ t)[pre.length]? = some x.1 := by simp
    exact (congrArg (fun l : List En => l[pre.length]?) ht).symm.trans this
  rw [nthE, h1]; rfl

/-- the loop goes on -/
def RanI (w : World) (E : List En) (n₀ eB nB : Nat) (ea : Option Addr) (ec : Nat) (op : Ao) (pre : List (Of E)) (W : World) : Prop :=
  (∃ v, Boxed W eB 79 v ∧ W.ownsRow n₀ 83 2 v E.length (flatE E) ∧ v = .slice ea E.length ec) ∧ (Boxed W nB 3 (.int .i64 (pre.length : Int)) ∧ (Boxed W (w.heap.size + 1) 4 (.bool false) ∧ OpAt W w.heap.size op)) ∧ Below w.heap.size w W
/-- the loop was left -/
def RanX (w : World) (E : List En) (c : Code) (pre : List (Of E)) (W : World) : Prop :=
  (c = .ret ∧ ∃ u, Boxed W (w.heap.size + 1) 4 (.bool u) ∧ (u = true ∨ ¬ pre.map (fun y => y.1) <+: E)) ∧ Below w.heap.size w W
theorem ranI_own {w : World} {E : List En} {n₀ eB nB B : Nat} {ea : Option Addr} {ec : Nat} {op : Ao} (h : w.heap.size ≤ B) : OwnFrom B (RanI w E n₀ eB nB ea ec op) :=
  (OwnFrom.and (Own.from (holdsRow_own n₀ eB 79 83 2 (fun _ : List (Of E) => E.length) (fun _ => flatE E) (fun _ v => v = .slice ea E.length ec)) _) (OwnFrom.and (OwnFrom.and (Own.from (boxed_own nB 3 (fun pre : List (Of E) => .int .i64 (pre.length : Int))) _) (OwnFrom.and (Own.from (boxed_own _ _ (fun _ => _)) _) (Own.from (opAt_own _ _) _))) (ownFrom_below (Nat.le_refl _) h)))
theorem ranX_own {w : World} {E : List En} {B : Nat} (c : Code) (h : w.heap.size ≤ B) : OwnFrom B (RanX w E c) :=
  OwnFrom.and (fun s X Y row hs hg hr => by
    obtain ⟨hc, u, h1, h2⟩ := hs
    exact ⟨hc, u, (Own.from (boxed_own _ _ (fun _ : Unit => _)) _) () X Y row h1 hg hr, h2⟩) (ownFrom_below (Nat.le_refl _) h)

set_option maxRecDepth 100000 in
set_option maxHeartbeats 4000000 in
theorem ranged_is {w : World} {B L o x d : Nat} {v : Value} {log : List Ch} (op : Ao) (hp : PairAt w B L o x d v log) (hl : (log.length + 2) * 64 ≤ 140737488355328) :
    Calls Try.prog 26 #[.pointer (some ⟨L, o, none⟩), opV op] w fun e w' => e = .returned (.bool true) ∧ Below w.heap.size w w' := by
  refine (callsIn_wide (n := 5)).1 ?_
  obtain ⟨E, hE⟩ : ∃ E, rangeX (ixL log) op.key op.hi = E := ⟨_, rfl⟩
  have hEl : E.length ≤ log.length := by rw [← hE]; exact Nat.le_trans (List.length_filter_le _ _) (ixL_len _)
  obtain ⟨w0, hw0⟩ : ∃ w0, w0 = (w.alloc (.cells (opC op) 26)).alloc (.cells #[.bool false] 4) := ⟨_, rfl⟩
  have hb0 : Below w.heap.size w w0 := by rw [hw0]; exact Below.al (Below.al (Below.refl _ _) _) _
  have hop : OpAt w0 w.heap.size op := by rw [hw0]; exact (Below.heap_alloc _ _ _ (by simp)).trans (op_new w op)
  have bR : Boxed w0 (w.heap.size + 1) 4 (.bool false) := by
    have := Boxed.new (w.alloc (.cells (opC op) 26)) 4 (.bool false)
    rw [World.size_alloc] at this; rw [hw0]; exact this
  have hp0 := hp.later hb0
  have cx := hp0.cx
  have cd := hp0.cd
  have q0 : w0.cell? ⟨w.heap.size, 0, none⟩ = some (.int .i64 op.k) := cell_of_obj hop rfl
  have q1 : w0.cell? ⟨w.heap.size, 1, none⟩ = some (.int .i64 op.pl) := cell_of_obj hop rfl
  have q2 : w0.cell? ⟨w.heap.size, 2, none⟩ = some (.string op.key) := cell_of_obj hop rfl
  have q3 : w0.cell? ⟨w.heap.size, 3, none⟩ = some (.string op.hi) := cell_of_obj hop rfl
  have q4 : w0.cell? ⟨w.heap.size, 4, none⟩ = some (.int .i64 op.v) := cell_of_obj hop rfl
  have q5 : w0.cell? ⟨w.heap.size, 5, none⟩ = some (.int .i64 op.st) := cell_of_obj hop rfl
  have SP : Hid (∀ W', Below w0.heap.size w0 W' → Calls Try.prog 44 #[opV op] W' fun e w' => e = .returned (.agg #[.string op.key, .string op.hi]) ∧ Below W'.heap.size W' w' ∧ Below w0.heap.size w0 w') := fun W' hb => (span_is W' op).mono fun e w' hh => ⟨hh.1, hh.2, Below.on hb hh.2⟩
  have EN : Hid (∀ W', Below w0.heap.size w0 W' → Calls Try.prog 43 #[.pointer (some ⟨d, 0, none⟩), .agg #[.string op.key, .string op.hi]] W' fun e w' => ∃ ea ec, e = .returned (.slice ea E.length ec) ∧ Hid (OwnE w' w0.heap.size (.slice ea E.length ec) E) ∧ Below W'.heap.size W' w' ∧ Below w0.heap.size w0 w') := fun W' hb =>
    (refentries_is (hp0.ri.later hb) op.key op.hi).mono fun e w' ⟨v', he, ho, hb'⟩ => by
      rw [hE] at ho
      obtain ⟨ea, ec, rfl⟩ := owns_slice ho
      exact ⟨ea, ec, he, ho.base hb.size, hb', Below.on hb hb'⟩
  have RG : Hid (∀ W', Below w0.heap.size w0 W' → Calls Try.prog 36 #[.pointer (some ⟨x, 0, none⟩), .agg #[.string op.key, .string op.hi]] W' fun e w' => ∃ R B, e = .returned (itv 57 R B) ∧ Hid (It w' R B (ixL log) op.key op.hi) ∧ Hid (Below W'.heap.size W' w') ∧ Below w0.heap.size w0 w') := fun W' hb =>
    (range_is (hp0.xi.later hb) op.key op.hi).mono fun e w' ⟨R, B, he, hit, hb', _, _⟩ => ⟨R, B, he, hit, hb', Below.on hb hb'⟩
  refine callsIn_of_wp_marks Try.func26 rfl trivial ?_ rfl
  simp only [Try.ntmps26, List.size_toArray, List.length_cons, List.length_nil, Nat.reduceAdd, Nat.reduceSub, Array.replicate_succ, Array.replicate_zero, List.push_toArray, List.append_toArray, List.nil_append, List.cons_append]
  gi_wp2
  rw [← hw0]
  clear hw0 hp hp0
  refine wpIn_wide.2 ?_
  go_cut [5] from 9 to 15 (fun s5 wx => ∃ eB ea ec, s5 = .pointer (some ⟨eB, 0, none⟩) ∧ w0.heap.size ≤ eB ∧ Hid (Boxed wx eB 79 (.slice ea E.length ec)) ∧ Hid (OwnE wx w0.heap.size (.slice ea E.length ec) E) ∧ Hid (Below w0.heap.size w0 wx))
  case first =>
    go_region_held3 (fun w' => w'.cell? ⟨L, o + 1, none⟩ = some (.pointer (some ⟨d, 0, none⟩)) ∧ w'.cell? ⟨w.heap.size, 0, none⟩ = some (.int .i64 op.k) ∧ w'.cell? ⟨w.heap.size, 1, none⟩ = some (.int .i64 op.pl) ∧ w'.cell? ⟨w.heap.size, 2, none⟩ = some (.string op.key) ∧ w'.cell? ⟨w.heap.size, 3, none⟩ = some (.string op.hi) ∧ w'.cell? ⟨w.heap.size, 4, none⟩ = some (.int .i64 op.v) ∧ w'.cell? ⟨w.heap.size, 5, none⟩ = some (.int .i64 op.st) ∧ Below w0.heap.size w0 w')
      ((refine (fun (hB : Below w0.heap.size w0 _) => ⟨cell_later hB cd, cell_later hB q0, cell_later hB q1, cell_later hB q2, cell_later hB q3, cell_later hB q4, cell_later hB q5, hB⟩) ?_; (repeat (first | exact Below.refl _ _ | assumption | refine Below.drew ?_ | refine Below.al ?_ _ | refine Below.setCell ?_ (by first | exact Nat.le_refl _ | (simp; omega) | (simp; done)) _ | refine Below.on ?_ (by assumption)))))
      (first
        | (go_at_call 44; refine (SP.out _ ?_).mono ?_; ((repeat (first | exact Below.refl _ _ | assumption | refine Below.drew ?_ | refine Below.al ?_ _ | refine Below.setCell ?_ (by first | exact Nat.le_refl _ | (simp; omega) | (simp; done)) _ | refine Below.on ?_ (by assumption)))); rintro e w1 ⟨rfl, hc1, hb1⟩; (try have t1 : Boxed w1 w0.heap.size 79 (.slice none 0 0) := (hc1.block _ (by simp)).trans (Boxed.new w0 79 (.slice none 0 0))); (try have t1c := t1.cell); (try have t1f := t1.frozen); have hy1 := hb1.size)
        | (go_at_call 43; refine (EN.out _ ?_).mono ?_; ((repeat (first | exact Below.refl _ _ | assumption | refine Below.drew ?_ | refine Below.al ?_ _ | refine Below.setCell ?_ (by first | exact Nat.le_refl _ | (simp; omega) | (simp; done)) _ | refine Below.on ?_ (by assumption)))); rintro e w2 ⟨ea, ec, rfl, ho2, hc2, hb2⟩; (try have t2 : Boxed w2 w0.heap.size 79 (.slice none 0 0) := (hc2.block _ t1.lt).trans t1); (try have t2c := t2.cell); (try have t2f := t2.frozen); (try have t3 : Boxed w2 w1.heap.size 79 (.slice none 0 0) := (hc2.block _ (by simp)).trans (Boxed.new w1 79 (.slice none 0 0))); (try have t3c := t3.cell); (try have t3f := t3.frozen); have hy2 := hb2.size))
    all_goals go_wp2_with fail
    all_goals go_meet
    all_goals first
      | exact ⟨w2.heap.size, ea, ec, rfl, hy2, Boxed.new _ _ _, ho2.out.later (Below.al (Below.refl _ _) _), Below.al hb2 _⟩
      | exact ⟨w1.heap.size, ea, ec, rfl, hb1.size, t3.set _, owns_box ho2.out t3 (by decide), Below.setCell hb2 hb1.size _⟩
      | exact ⟨w0.heap.size, ea, ec, rfl, Nat.le_refl _, t2.set _, owns_box ho2.out t2 (by decide), Below.setCell hb2 (Nat.le_refl _) _⟩
  case rest =>
    obtain ⟨eB, ea, ec, rfl, heB, HBx, HOw, HBl⟩ := hcut
    obtain ⟨w3, hw3⟩ : ∃ w3, w3 = wc.alloc (.cells #[.int .i64 0] 3) := ⟨_, rfl⟩
    have hb3 : Below wc.heap.size wc w3 := by rw [hw3]; exact Below.al (Below.refl _ _) _
    have bN3 : Boxed w3 wc.heap.size 3 (.int .i64 0) := by rw [hw3]; exact Boxed.new _ _ _
    have hl3 : Hid (Below w0.heap.size w0 w3) := Below.on HBl.out hb3
    subst hw3
    gi_wp2
    refine wpIn_wide.2 ?_
    have hbw3 := hl3.out
    go_region_held3 (fun w' => w'.cell? ⟨L, o, none⟩ = some (.pointer (some ⟨x, 0, none⟩)) ∧ w'.cell? ⟨w.heap.size, 0, none⟩ = some (.int .i64 op.k) ∧ w'.cell? ⟨w.heap.size, 1, none⟩ = some (.int .i64 op.pl) ∧ w'.cell? ⟨w.heap.size, 2, none⟩ = some (.string op.key) ∧ w'.cell? ⟨w.heap.size, 3, none⟩ = some (.string op.hi) ∧ w'.cell? ⟨w.heap.size, 4, none⟩ = some (.int .i64 op.v) ∧ w'.cell? ⟨w.heap.size, 5, none⟩ = some (.int .i64 op.st) ∧ Below w0.heap.size w0 w')
      ((refine (fun (hB : Below w0.heap.size w0 _) => ⟨cell_later hB cx, cell_later hB q0, cell_later hB q1, cell_later hB q2, cell_later hB q3, cell_later hB q4, cell_later hB q5, hB⟩) ?_; (repeat (first | exact Below.refl _ _ | assumption | refine Below.drew ?_ | refine Below.al ?_ _ | refine Below.setCell ?_ (by first | exact Nat.le_refl _ | (simp; omega) | (simp; done)) _ | refine Below.on ?_ (by assumption)))))
      (first
        | (go_at_call 44; refine (SP.out _ ?_).mono ?_; ((repeat (first | exact Below.refl _ _ | assumption | refine Below.drew ?_ | refine Below.al ?_ _ | refine Below.setCell ?_ (by first | exact Nat.le_refl _ | (simp; omega) | (simp; done)) _ | refine Below.on ?_ (by assumption)))); rintro e w4 ⟨rfl, hc4, hb4⟩)
        | (go_at_call 36; refine (RG.out _ ?_).mono ?_; ((repeat (first | exact Below.refl _ _ | assumption | refine Below.drew ?_ | refine Below.al ?_ _ | refine Below.setCell ?_ (by first | exact Nat.le_refl _ | (simp; omega) | (simp; done)) _ | refine Below.on ?_ (by assumption)))); rintro e w5 ⟨R, Bs, rfl, hit, hc5, hb5⟩))
    gi_wp2
    have hb35 : Below (wc.alloc (.cells #[.int .i64 0] 3)).heap.size (wc.alloc (.cells #[.int .i64 0] 3)) w5 := Below.on (Below.on (Below.drew (Below.refl _ _)) hc4) hc5.out
    have hbc5 : Below wc.heap.size wc w5 := Below.on hb3 hb35
    have bN5 : Boxed w5 wc.heap.size 3 (.int .i64 0) := (hb35.block _ bN3.lt).trans bN3
    have bE5 : Boxed w5 eB 79 (.slice ea E.length ec) := (hbc5.block _ HBx.out.lt).trans HBx.out
    have oE5 : OwnE w5 w0.heap.size (.slice ea E.length ec) E := HOw.out.later hbc5
    have hb05 : Below w0.heap.size w0 w5 := Below.on HBl.out hbc5
    have bR5 : Boxed w5 (w.heap.size + 1) 4 (.bool false) := (hb05.block _ bR.lt).trans bR
    have op5 : OpAt w5 w.heap.size op := (hb05.block _ hop.lt).trans hop
    have hB5 : Below w.heap.size w w5 := Below.on hb0 hb05
    have hs0 := bR.lt
    have hs1 := HBx.out.lt
    have hs5 := bN5.lt
    have hE0 : w.heap.size + 1 < eB := by omega
    have hstops := range_stops (5 - 1) hit.out
    rw [hE] at hstops
    clear SP EN RG HBx HOw HBl hb3 bN3 hl3 hbw3 hc4 hc5 hb35 hbc5 hb4 hb5 cx cd q0 q1 q2 q3 q4 q5 hop bR
    refine wpIn_rangeFunc_ownG rfl (by decide) (gf := 57) (lb := #[.pointer (some ⟨R, 0, none⟩), .pointer (some ⟨Bs, 0, none⟩)]) rfl trivial (enters_of Try.func57 (by kernel_rfl) rfl)
      hstops kp_t kp_b (Below.refl _ _) (fun _ => rfl)
      (RanI w E w0.heap.size eB wc.heap.size ea ec op) (RanX w E) (ranI_own (by omega)) (fun c => ranX_own c (by omega))
      ⟨⟨_, bE5, oE5, rfl⟩, ⟨bN5, bR5, op5⟩, hB5⟩
      (fun y => { tmps := #[.pointer (some ⟨L, o, none⟩), opV op, undef, .pointer (some ⟨w.heap.size, 0, none⟩), .pointer (some ⟨w.heap.size + 1, 0, none⟩), .pointer (some ⟨eB, 0, none⟩), .pointer (some ⟨wc.heap.size, 0, none⟩), .string y.1.1, .int .i64 y.1.2, u9, u10, u11, u12, u13, u14, u15, .pointer (some ⟨L, o, none⟩), .pointer (some ⟨L, o, none⟩), .pointer (some ⟨L, o, none⟩), .pointer (some ⟨x, 0, none⟩), opV op, .agg #[.string op.key, .string op.hi], itv 57 R Bs, .string y.1.1, .int .i64 y.1.2, undef, undef, undef, undef, undef, undef, undef, undef, undef, undef, undef, undef, undef, undef, undef, undef, undef, undef, undef, undef, undef, undef, undef, undef, undef, undef, undef, undef, undef, undef, undef, undef], defers := [] }) ?assign ?body ?done ?stop
    case assign =>
      intro y z W K hK
      gi_wp2
      exact hK
    case body =>
      rintro y pre z W ⟨⟨v0, hv, hrow, rfl⟩, ⟨hN, hR, hOp⟩, hBw⟩ hlt
      have cE := hv.cell
      have cN := hN.cell
      have fN := hN.frozen
      have cR := hR.cell
      have fR := hR.frozen
      have c5 : W.cell? ⟨w.heap.size, 5, none⟩ = some (.int .i64 op.st) := cell_of_obj hOp rfl
      obtain ⟨a', c', hv', hre⟩ := rowE_of_owns hrow
      injection hv' with ha' _ hc'
      subst ha' hc'
      obtain ⟨b, off, rfl, d0, d1⟩ := hre pre.length hlt
      have hw1 : IntKind.i64.wrap ((pre.length : Int) + 1) = (pre.length : Int) + 1 := by rw [IntKind.wrap_i64]; omega
      have hlt1 : (pre.length : Int) < (E.length : Int) := by omega
      have hN1 := hN.set (.int .i64 ((pre.length : Int) + 1))
      have hR1 := hR.other (B' := wc.heap.size) (by omega) (.int .i64 ((pre.length : Int) + 1))
      have cN1 := hN1.cell
      have cR1 := hR1.cell
      have fR1 := hR1.frozen
      have c51 : (W.setCell ⟨wc.heap.size, 0, none⟩ (.int .i64 ((pre.length : Int) + 1))).cell? ⟨w.heap.size, 5, none⟩ = some (.int .i64 op.st) := cell_of_obj (hOp.other (by omega) _) rfl
      have hb1 : Below w.heap.size w (W.setCell ⟨wc.heap.size, 0, none⟩ (.int .i64 ((pre.length : Int) + 1))) := Below.setCell hBw (by show w.heap.size ≤ wc.heap.size; omega) _
      have hlen : ((pre ++ [z]).length : Int) = (pre.length : Int) + 1 := by simp
      have hv1 := hv.other (B' := wc.heap.size) (by omega) (.int .i64 ((pre.length : Int) + 1))
      have hrow1 := owns_box (u' := .int .i64 ((pre.length : Int) + 1)) hrow hN (by decide)
      have hOp1 := hOp.other (B := wc.heap.size) (by omega) (.int .i64 ((pre.length : Int) + 1))
      have hR2 := hR1.set (.bool true)
      have hkp := kp_set hN (not_ixt rfl) (.int .i64 ((pre.length : Int) + 1))
      have hR0 := hR.set (.bool false)
      have HF := hid (show _ ∧ _ ∧ _ ∧ _ ∧ _ ∧ _ ∧ _ ∧ _ ∧ _ ∧ _ from ⟨hb1, hv1, hrow1, hOp1, hR2, hkp, hR0, hBw, hN1, hR1⟩)
      have hbad : Hid (¬ (nthE E pre.length = z.1) → ¬ (pre ++ [z]).map (fun y => y.1) <+: E) := fun hne hp => hne (prefix_nth hp).symm
      have hs3 : Hid (w.heap.size ≤ wc.heap.size) := by show w.heap.size ≤ wc.heap.size; omega
      clear hb1 hv1 hrow1 hOp1 hR2 hkp hR0 hBw hN1 hR1 hrow hv hN hOp hR hre
      by_cases hk : (nthE E pre.length).1 = z.1.1
      · have k1 := toList_beq' (decide_eq_true hk)
        by_cases hvv : (nthE E pre.length).2 = z.1.2
        · have k2 : ((nthE E pre.length).2 == z.1.2) = true := by simpa using hvv
          by_cases hst : (pre.length : Int) + 1 = op.st
          · have k3 : ((pre.length : Int) + 1 == op.st) = true := by simpa using hst
            have hst := hid hst
            have hk := hid hk
            have hvv := hid hvv
            gi_wp2
            obtain ⟨hb1, hv1, hrow1, hOp1, hR2, hkp, hR0, hBw, hN1, hR1⟩ := HF.out
            rw [hst.out] at hb1 hR2
            exact ⟨((KeepsOthers.setCell _ _ _).trans (KeepsOthers.setCell _ _ _)).from _, ⟨rfl, true, hR2, .inl rfl⟩, Below.setCell hb1 (by simp) _⟩
          · have k3 : ((pre.length : Int) + 1 == op.st) = false := by simpa using hst
            have hst := hid hst
            have hk := hid hk
            have hvv := hid hvv
            gi_wp2
            obtain ⟨hb1, hv1, hrow1, hOp1, hR2, hkp, hR0, hBw, hN1, hR1⟩ := HF.out
            exact ⟨(KeepsOthers.setCell _ _ _).from _, hkp, ⟨_, hv1, hrow1, rfl⟩, ⟨by rw [hlen]; exact hN1, hR1, hOp1⟩, hb1⟩
        · have k2 : ((nthE E pre.length).2 != z.1.2) = true := by simpa using hvv
          have hk := hid hk
          have hvv := hid hvv
          gi_wp2
          obtain ⟨hb1, hv1, hrow1, hOp1, hR2, hkp, hR0, hBw, hN1, hR1⟩ := HF.out
          exact ⟨(KeepsOthers.setCell _ _ _).from _, ⟨rfl, false, hR0, .inr (hbad.out fun e => hvv.out (by rw [e]))⟩, Below.setCell hBw (by simp) _⟩
      · have k1 := toList_beq' (decide_eq_false hk)
        have hk := hid hk
        gi_wp2
        obtain ⟨hb1, hv1, hrow1, hOp1, hR2, hkp, hR0, hBw, hN1, hR1⟩ := HF.out
        exact ⟨(KeepsOthers.setCell _ _ _).from _, ⟨rfl, false, hR0, .inr (hbad.out fun e => hk.out (by rw [e]))⟩, Below.setCell hBw (by simp) _⟩
    case done =>
      rintro D ys W hD hys ⟨⟨v0, hv, hrow, rfl⟩, ⟨hN, hR, hOp⟩, hBw⟩ hK
      have hyl : ys.length = E.length := by have := congrArg List.length hys; simpa using this
      rw [hyl] at hN
      have cE := hv.cell
      have cN := hN.cell
      have cR := hR.cell
      have fR := hR.frozen
      have hK' := (KeepsOthers.setCell W ⟨w.heap.size + 1, 0, none⟩ (.bool true)).same D _ hK rfl
      have x1 := (boxed_put (hR.set (.bool true)) hK' rfl (.deferred none)).cell
      gi_wp2
      refine ⟨by simp, .inl ⟨_, _, rfl, run_takeDeferred hK', ?_⟩⟩
      refine ⟨.bool true, ?_, rfl, (Below.setCell hBw (by simp) _).trans (belowK_b (w := w) (Nat.le_refl _) _ D _ _ (by omega) hK' rfl rfl)⟩
      simp [results, Try.f26, go_sem, x1]
    case stop =>
      rintro D c pre W hD hpre ⟨⟨rfl, u, hR, hu⟩, hBw⟩ hK
      obtain rfl : u = true := hu.elim id (fun h => absurd hpre h)
      have x1 := (boxed_put hR hK rfl (.deferred none)).cell
      gi_wp2
      refine ⟨by simp, .inl ⟨_, _, rfl, run_takeDeferred hK, ?_⟩⟩
      refine ⟨.bool true, ?_, rfl, hBw.trans (belowK_b (w := w) (Nat.le_refl _) W D _ _ (by omega) hK rfl rfl)⟩
      simp [results, Try.f26, go_sem, x1]

end Go.Proofs.Ytmhpakbkmddfeaa
