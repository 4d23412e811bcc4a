import Derived.Test.YtdllhkjdckcgmaaDoorIIter
import Derived.Maps.AppendAt
namespace Go.Proofs.YtdllhkjdckcgmaaDoor
open Go.RowKit Go.Sort Go.Shelf
set_option linter.unusedVariables false
attribute [local go_sem] Oper.semAt_some

/-- a row of the texts of a list -/
abbrev txs (l : List En) : List Value := l.map fun e => .string e.1
theorem infoStr : (Tryd.prog.info? 9).map (fun i => (i.zero, i.size, i.bytes)) = some (some (.string ⟨#[]⟩), 1, 16) := by kernel_rfl

theorem not_ixt {t : TypeId} (h : (t == 76 || t == 39 || t == 51) = false) : ¬ IxT t := by
  simp only [Bool.or_eq_false_iff, beq_eq_false_iff_ne] at h
  rintro (e | e | e)
  · exact h.1.1 e
  · exact h.1.2 e
  · exact h.2 e
theorem row_not {W : World} {base size k : Nat} {e : TypeId} {v : Value} {xs : List Value} (hr : W.ownsRow base e size v k xs) (he : ¬ IxT e) {b : Nat} {cs : Array Value} {t : TypeId} {z : Nat × Nat} (ht : IxT t) (hb : W.heap[b]? = some (.cells cs t z)) : some b ≠ v.ownBlock := by
  rcases hr.2 with ⟨rfl, _⟩ | ⟨g, cap, cur, rfl, _, hgb, _⟩
  · simp [Value.ownBlock]
  · intro e'
    obtain rfl : b = g := by simpa [Value.ownBlock] using e'
    rw [hb] at hgb
    cases hgb
    exact he ht
/-- 'out = append(out, ..)' keeps what no call changes -/
theorem kp_appended {W w1 : World} {n₀ B : Nat} {t e : TypeId} {size : Nat} {v v' : Value} {k : Nat} {xs : List Value} {tmp : Obj}
    (hv : Boxed W B t v) (hrow : W.ownsRow n₀ e size v k xs) (hgrow : (W.alloc tmp).grownBy w1 v.ownBlock) (ht : ¬ IxT t) (he : ¬ IxT e) : Kp W (w1.setCell ⟨B, 0, none⟩ v') := by
  refine ⟨Nat.le_trans (Nat.le_trans (by simp) hgrow.size) (by simp [World.setCell]), fun b cs ty z hty hb => ?_⟩
  have hlt := (Array.getElem?_eq_some_iff.1 hb).1
  have hne : b ≠ B := fun e' => by subst e'; rw [show W.heap[b]? = _ from hv] at hb; cases hb; exact ht hty
  refine (Below.heap_setCell _ _ _ _ hne).trans ((hgrow.block b (by simp; omega) (row_not hrow he hty hb)).trans ((Below.heap_alloc W tmp b hlt).trans hb))

set_option maxRecDepth 100000 in
set_option maxHeartbeats 2000000 in
theorem keys_is {w : World} {p : Nat} {l : List En} (h : Xi w p l) (lo hi : ByteArray) (hn : l.length * 16 ≤ 70368744177664) :
    Calls Tryd.prog 9 #[.pointer (some ⟨p, 0, none⟩), .agg #[.string lo, .string hi]] w fun e w' =>
      ∃ v, e = .returned v ∧ w'.ownsRow w.heap.size 9 1 v (rangeX l lo hi).length (txs (rangeX l lo hi)) ∧ Below w.heap.size w w' := by
  refine (callsIn_wide (n := 5)).1 ?_
  obtain ⟨i0, hi0, hz0, hz1, hz2⟩ := info_parts infoStr
  have hb0 : Below w.heap.size w ((w.alloc (.cells #[.string lo, .string hi] 39)).alloc (.cells #[.slice none 0 0] 36)) := Below.al (Below.al (Below.refl _ _) _) _
  have RG := hid (range_is (h.later hb0) lo hi)
  refine callsIn_of_wp_marks Tryd.func9 rfl trivial ?_ rfl
  simp only [Tryd.ntmps9, List.size_toArray, List.length_cons, List.length_nil, Nat.reduceAdd, Nat.reduceSub, Array.replicate_succ, Array.replicate_zero, List.push_toArray, List.append_toArray, List.nil_append, List.cons_append]
  gi_wp2_with ((try refine ⟨trivial, ?_⟩); gi_at_call 30; refine (callsIn_wide.2 RG.out).mono ?_; rintro e w1 ⟨R, B, rfl, hit, hb1, hR, hB⟩)
  have bO := Boxed.new (w.alloc (.cells #[.string lo, .string hi] 39)) 36 (.slice none 0 0)
  rw [World.size_alloc] at bO
  have bO1 : Boxed w1 (w.heap.size + 1) 36 (.slice none 0 0) := (hb1.block _ bO.lt).trans bO
  have hB0 : Below w.heap.size w w1 := Below.on hb0 hb1
  have hs1 : w.heap.size + 1 < w1.heap.size := bO1.lt
  have hxs : (rangeX l lo hi).length ≤ l.length := List.length_filter_le _ _
  clear RG hR hB hb1 bO h
  refine wpIn_rangeFunc_ownG rfl (by decide) (gf := 40) (lb := #[.pointer (some ⟨R, 0, none⟩), .pointer (some ⟨B, 0, none⟩)]) rfl trivial (enters_of Tryd.func40 (by kernel_rfl) rfl)
    (range_stops (5 - 1) hit) kp_t kp_b (Below.refl _ _) (fun _ => rfl)
    (fun pre W => (∃ v, Boxed W (w.heap.size + 1) 36 v ∧ W.ownsRow w.heap.size 9 1 v pre.length (txs (pre.map (fun x => x.1))) ∧ True) ∧ Below w.heap.size w W)
    (fun _ _ _ => False)
    (OwnFrom.and (Own.from (holdsRow_own w.heap.size (w.heap.size + 1) 36 9 1 (fun pre : List (Of (rangeX l lo hi)) => pre.length) (fun pre => txs (pre.map (fun x => x.1))) (fun _ _ => True)) _) (ownFrom_below (Nat.le_refl _) (by omega)))
    (fun _ _ _ _ _ hs _ _ => hs)
    ⟨⟨_, bO1, World.ownsRow_nil _ _ _ _, trivial⟩, hB0⟩
    (fun x => { tmps := #[.pointer (some ⟨p, 0, none⟩), .agg #[.string lo, .string hi], undef, .pointer (some ⟨w.heap.size, 0, none⟩), .slice none 0 0, .pointer (some ⟨w.heap.size + 1, 0, none⟩), .string x.1.1, .pointer (some ⟨p, 0, none⟩), .agg #[.string lo, .string hi], itv 40 R B, .string x.1.1, .int .i64 x.1.2, undef, undef, undef, undef, undef], defers := [] }) ?assign ?body ?done ?stop
  case assign =>
    intro y x W K hK
    gi_wp2
    exact hK
  case body =>
    rintro y pre x W ⟨⟨v, hv, hrow, -⟩, hB⟩ hlt
    have hc := hv.cell
    have hsz := hB.size
    have g1 : pre.length + 1 ≤ maxLen := by unfold maxLen; omega
    have g2 : (pre.length + 1) * 16 ≤ 140737488355328 := by omega
    gi_wp2_with (gi_at_builtin; refine wpListIn_append_own _ rfl _ _ 36 rfl w.heap.size 9 i0 (.string ⟨#[]⟩) 1 16 Tryd.underlying36 hi0 hz0 hz1 hz2 rfl (by decide) _ _ _ rfl (hrow.alloc _) ⟨W.heap.size, 0, none⟩ 1 1 [.string x.1.1] rfl rfl (cell_one_new _ _ _) (by simp [Value.oneCell']) g1 g2 (by simp; omega) ?_; intro v' w2 hown' hgrow _; obtain ⟨g', cap', rfl⟩ := ownsRow_succ hown'; have hkp := kp_appended (v' := .slice (some ⟨g', 0, none⟩) (pre.length + 1) cap') hv hrow hgrow (not_ixt rfl) (not_ixt rfl); obtain ⟨hv1, hv2, hr2, hk2, hb2⟩ := hv.appended (by decide) hrow hB.size (by omega) hown' hgrow; have hc1 := hv1.cell; have hf1 := hv1.frozen)
    exact ⟨hk2.from _, hkp, ⟨_, hv2, by simpa [txs] using hr2, trivial⟩, hB.trans hb2⟩
  case done =>
    rintro D ys W hD hys ⟨⟨v, hv, hrow, -⟩, hB⟩ hK
    have hc := hv.cell
    have hyl : ys.length = (rangeX l lo hi).length := by have := congrArg List.length hys; simpa using this
    rw [hys, hyl] at hrow
    gi_wp2
    refine ⟨by simp, .inl ⟨_, _, rfl, run_takeDeferred hK, ?_⟩⟩
    exact ⟨_, results_tmp rfl _ _ _, v, rfl, ownsRow_putObj hrow _ hK rfl, hB.trans (belowK_b (w := w) (Nat.le_refl _) W D _ _ (by omega) hK rfl rfl)⟩
  case stop =>
    rintro D c pre W _ _ h _
    exact h.elim

theorem kp_set {W : World} {B : Nat} {t : TypeId} {v : Value} (h : Boxed W B t v) (ht : ¬ IxT t) (u : Value) : Kp W (W.setCell ⟨B, 0, none⟩ u) :=
  Kp.of_onl (F := fun b => b = B) (Onl.set (F := fun b => b = B) (Onl.refl _ _) rfl _ _) fun b cs ty z hf ho hty => by subst hf; rw [show W.heap[b]? = _ from h] at ho; cases ho; exact ht hty
/-- three boxes, all written -/
theorem three {W : World} {a b c : Nat} {ta tb tc : TypeId} {x y z : Value} (h1 : Boxed W a ta x) (h2 : Boxed W b tb y) (h3 : Boxed W c tc z) (hab : a ≠ b) (hac : a ≠ c) (hbc : b ≠ c) (x' y' z' : Value) :
    Boxed (((W.setCell ⟨a, 0, none⟩ x').setCell ⟨b, 0, none⟩ y').setCell ⟨c, 0, none⟩ z') a ta x' ∧ Boxed (((W.setCell ⟨a, 0, none⟩ x').setCell ⟨b, 0, none⟩ y').setCell ⟨c, 0, none⟩ z') b tb y' ∧ Boxed (((W.setCell ⟨a, 0, none⟩ x').setCell ⟨b, 0, none⟩ y').setCell ⟨c, 0, none⟩ z') c tc z' :=
  ⟨((h1.set x').other hab _).other hac _, ((h2.other (Ne.symm hab) _).set y').other hbc _, ((h3.other (Ne.symm hac) _).other (Ne.symm hbc) _).set z'⟩
theorem keeps3 (W : World) (a b c : Addr) (x y z : Value) : KeepsOthers W (((W.setCell a x).setCell b y).setCell c z) := ((KeepsOthers.setCell _ _ _).trans (KeepsOthers.setCell _ _ _)).trans (KeepsOthers.setCell _ _ _)
theorem boxed_put {W : World} {B D : Nat} {t : TypeId} {v : Value} {o : Obj} (h : Boxed W B t v) (hD : W.heap[D]? = some o) (ho : o.isCells = false) (o' : Obj) : Boxed (W.putObj D o') B t v :=
  h.kept (grownBy_putObj' W D o') (fun e => by
    have e2 : B = D := by simpa using e
    subst e2
    rw [show W.heap[B]? = _ from h] at hD; cases hD; cases ho)

/-- what first, Floor and Ceil answer -/
def firV (o : Option En) : Value := .tuple #[.string (o.elim ⟨#[]⟩ (fun e => e.1)), .int .i64 (o.elim 0 (fun e => e.2)), .bool o.isSome]
set_option maxRecDepth 100000 in
set_option maxHeartbeats 2000000 in
theorem first_is {w : World} {gf R B : Nat} {xs : List En} (hseq : SeqStopsK Fence.wide (5 - 1) Tryd.prog gf #[.pointer (some ⟨R, 0, none⟩), .pointer (some ⟨B, 0, none⟩)] (encs xs) Kp (fun ys => ys.map (fun x => x.1) = xs) (fun pre => pre.map (fun x => x.1) <+: xs) xs.length w)
    (eg : ∀ args w, (callFunc gf args).run Tryd.prog w = .ok (.enter gf args) w) :
    Calls Tryd.prog 38 #[itv gf R B] w fun e w' => e = .returned (firV xs.head?) ∧ Below w.heap.size w w' := by
  refine (callsIn_wide (n := 5)).1 ?_
  refine callsIn_of_wp_marks Tryd.func38 rfl trivial ?_ rfl
  simp only [Tryd.ntmps38, List.size_toArray, List.length_cons, List.length_nil, Nat.reduceAdd, Nat.reduceSub, Array.replicate_succ, Array.replicate_zero, List.push_toArray, List.append_toArray, List.nil_append, List.cons_append]
  gi_wp2
  have b1 := Boxed.new w 9 (.string ⟨#[]⟩)
  have b2 := Boxed.new (w.alloc (.cells #[.string ⟨#[]⟩] 9)) 3 (.int .i64 0)
  have b3 := Boxed.new ((w.alloc (.cells #[.string ⟨#[]⟩] 9)).alloc (.cells #[.int .i64 0] 3)) 4 (.bool false)
  simp only [World.size_alloc] at b2 b3
  have hB0 : Below w.heap.size w (((w.alloc (.cells #[.string ⟨#[]⟩] 9)).alloc (.cells #[.int .i64 0] 3)).alloc (.cells #[.bool false] 4)) := Below.al (Below.al (Below.al (Below.refl _ _) _) _) _
  have b1' := (b1.alloc (.cells #[.int .i64 0] 3)).alloc (.cells #[.bool false] 4)
  have b2' := b2.alloc (.cells #[.bool false] 4)
  obtain ⟨w0, hw0⟩ : ∃ w0, w0 = ((w.alloc (.cells #[.string ⟨#[]⟩] 9)).alloc (.cells #[.int .i64 0] 3)).alloc (.cells #[.bool false] 4) := ⟨_, rfl⟩
  rw [← hw0] at b1' b2' b3 hB0 ⊢
  clear hw0 b1 b2
  have hs0 : w.heap.size + 1 + 1 < w0.heap.size := b3.lt
  refine wpIn_rangeFunc_ownG rfl (by decide) (gf := gf) (lb := #[.pointer (some ⟨R, 0, none⟩), .pointer (some ⟨B, 0, none⟩)]) rfl trivial eg
    hseq kp_t kp_b hB0 (fun _ => rfl)
    (fun pre W => ((pre = [] ∧ Boxed W w.heap.size 9 (.string ⟨#[]⟩)) ∧ Boxed W (w.heap.size + 1) 3 (.int .i64 0)) ∧ Boxed W (w.heap.size + 1 + 1) 4 (.bool false) ∧ Below w.heap.size w W)
    (fun c pre W => (∃ x : Of xs, c = .ret ∧ pre = [x] ∧ Boxed W w.heap.size 9 (.string x.1.1) ∧ Boxed W (w.heap.size + 1) 3 (.int .i64 x.1.2) ∧ Boxed W (w.heap.size + 1 + 1) 4 (.bool true)) ∧ Below w.heap.size w W)
    (OwnFrom.and (OwnFrom.and (OwnFrom.and (ownFrom_pure _ _) (Own.from (boxed_own _ _ (fun _ => _)) _)) (Own.from (boxed_own _ _ (fun _ => _)) _)) (OwnFrom.and (Own.from (boxed_own _ _ (fun _ => _)) _) (ownFrom_below (Nat.le_refl _) (by omega))))
    (fun c => OwnFrom.and (fun s A B row hs hg hr => by
        obtain ⟨x, hc, hp, h1, h2, h3⟩ := hs
        exact ⟨x, hc, hp, (Own.from (boxed_own _ _ (fun _ : Unit => _)) _) () A B row h1 hg hr, (Own.from (boxed_own _ _ (fun _ : Unit => _)) _) () A B row h2 hg hr, (Own.from (boxed_own _ _ (fun _ : Unit => _)) _) () A B row h3 hg hr⟩) (ownFrom_below (Nat.le_refl _) (by omega)))
    ⟨⟨⟨rfl, b1'⟩, b2'⟩, b3, hB0⟩
    (fun x => { tmps := #[itv gf R B, undef, .pointer (some ⟨w.heap.size, 0, none⟩), .pointer (some ⟨w.heap.size + 1, 0, none⟩), .pointer (some ⟨w.heap.size + 1 + 1, 0, none⟩), .string x.1.1, .int .i64 x.1.2, undef, itv gf R B, .string x.1.1, .int .i64 x.1.2, undef, undef, undef], defers := [] }) ?assign ?body ?done ?stop
  case assign =>
    intro y x W K hK
    gi_wp2
    exact hK
  case body =>
    rintro y pre x W ⟨⟨⟨rfl, h1⟩, h2⟩, h3, hB⟩ _
    have c1 := h1.cell; have c2 := h2.cell; have c3 := h3.cell
    have f1 := h1.frozen; have f2 := h2.frozen; have f3 := h3.frozen
    gi_wp2
    obtain ⟨g1, g2, g3⟩ := three h1 h2 h3 (by omega) (by omega) (by omega) (.string x.1.1) (.int .i64 x.1.2) (.bool true)
    exact ⟨(keeps3 _ _ _ _ _ _ _).from _, ⟨x, rfl, rfl, g1, g2, g3⟩, Below.setCell (Below.setCell (Below.setCell hB (Nat.le_refl _) _) (by simp) _) (by simp; omega) _⟩
  case done =>
    rintro D ys W hD hys ⟨⟨⟨rfl, h1⟩, h2⟩, h3, hB⟩ hK
    have c1 := h1.cell; have c2 := h2.cell; have c3 := h3.cell
    have f1 := h1.frozen; have f2 := h2.frozen; have f3 := h3.frozen
    obtain rfl : xs = [] := by simpa using hys.symm
    obtain ⟨g1, g2, g3⟩ := three h1 h2 h3 (by omega) (by omega) (by omega) (.string ⟨#[]⟩) (.int .i64 0) (.bool false)
    have hK' := (keeps3 W ⟨w.heap.size, 0, none⟩ ⟨w.heap.size + 1, 0, none⟩ ⟨w.heap.size + 1 + 1, 0, none⟩ (.string ⟨#[]⟩) (.int .i64 0) (.bool false)).same D _ hK rfl
    have e1 := (boxed_put g1 hK' rfl (.deferred none)).cell; have e2 := (boxed_put g2 hK' rfl (.deferred none)).cell; have e3 := (boxed_put g3 hK' rfl (.deferred none)).cell
    gi_wp2
    refine ⟨by simp, .inl ⟨_, _, rfl, run_takeDeferred hK', ?_⟩⟩
    refine ⟨firV none, ?_, rfl, (Below.setCell (Below.setCell (Below.setCell hB (Nat.le_refl _) _) (by simp) _) (by simp; omega) _).trans (belowK_b (w := w) (Nat.le_refl _) _ D _ _ (by omega) hK' rfl rfl)⟩
    simp [results, Tryd.f38, go_sem, e1, e2, e3, firV]
  case stop =>
    rintro D c pre W hD hpre ⟨⟨x, rfl, rfl, h1, h2, h3⟩, hB⟩ hK
    have e1 := (boxed_put h1 hK rfl (.deferred none)).cell; have e2 := (boxed_put h2 hK rfl (.deferred none)).cell; have e3 := (boxed_put h3 hK rfl (.deferred none)).cell
    have hh : xs.head? = some x.1 := by
      obtain ⟨t, ht⟩ := hpre
      have ht' : x.1 :: t = xs := by simpa using ht
      exact (congrArg List.head? ht').symm
    gi_wp2
    refine ⟨by simp, .inl ⟨_, _, rfl, run_takeDeferred hK, ?_⟩⟩
    refine ⟨firV (some x.1), ?_, by rw [hh], hB.trans (belowK_b (w := w) (Nat.le_refl _) W D _ _ (by omega) hK rfl rfl)⟩
    simp [results, Tryd.f38, go_sem, e1, e2, e3, firV]

theorem ceil_is {w : World} {p : Nat} {l : List En} (h : Xi w p l) (key : ByteArray) :
    Calls Tryd.prog 28 #[.pointer (some ⟨p, 0, none⟩), .string key] w fun e w' => e = .returned (firV (rangeX l key ⟨#[]⟩).head?) ∧ Below w.heap.size w w' := by
  have RG : Hid (Calls Tryd.prog 30 #[.pointer (some ⟨p, 0, none⟩), .agg #[.string key, .string ⟨#[]⟩]] w fun e w' => ∃ R B, e = .returned (itv 40 R B) ∧ Hid (Below w.heap.size w w') ∧
      Calls Tryd.prog 38 #[itv 40 R B] w' fun e w2 => e = .returned (firV (rangeX l key ⟨#[]⟩).head?) ∧ Below w'.heap.size w' w2) :=
    (range_is h key ⟨#[]⟩).mono fun e w' ⟨R, B, he, hit, hb, _, _⟩ => ⟨R, B, he, hb, first_is (range_stops _ hit) (enters_of Tryd.func40 (by kernel_rfl) rfl)⟩
  obtain ⟨a, b, c, hv⟩ : ∃ a b c, firV (rangeX l key ⟨#[]⟩).head? = .tuple #[.string a, .int .i64 b, .bool c] := ⟨_, _, _, rfl⟩
  rw [hv] at RG ⊢
  clear h hv
  go_enter Tryd.func28, Tryd.ntmps28
  go_wp2_with (first
    | (go_at_call 30; refine RG.out.mono ?_; rintro e w1 ⟨R, B, rfl, hb1, hF⟩)
    | (go_at_call 38; refine hF.mono ?_; rintro e w2 ⟨rfl, hb2⟩))
  refine bodyPost_ret (v := .tuple #[.string a, .int .i64 b, .bool c]) (by simp [results, Tryd.results28, go_sem]) rfl ⟨rfl, Below.on hb1.out hb2⟩

/-- a text and a zero byte -/
def zb (k : ByteArray) : ByteArray := k ++ ⟨#[0]⟩
theorem floor_is {w : World} {p : Nat} {l : List En} (h : Xi w p l) (key : ByteArray) (hk : key.size + 1 ≤ 9223372036854775807) :
    Calls Tryd.prog 26 #[.pointer (some ⟨p, 0, none⟩), .string key] w fun e w' => e = .returned (firV (rangeX l ⟨#[]⟩ (zb key)).reverse.head?) ∧ Below w.heap.size w w' := by
  have RG : Hid (Calls Tryd.prog 39 #[.pointer (some ⟨p, 0, none⟩), .agg #[.string ⟨#[]⟩, .string (zb key)]] w fun e w' => ∃ R B, e = .returned (itv 51 R B) ∧ Hid (Below w.heap.size w w') ∧
      Calls Tryd.prog 38 #[itv 51 R B] w' fun e w2 => e = .returned (firV (rangeX l ⟨#[]⟩ (zb key)).reverse.head?) ∧ Below w'.heap.size w' w2) :=
    (back_is h ⟨#[]⟩ (zb key)).mono fun e w' ⟨R, B, he, hit, hb, _, _⟩ => ⟨R, B, he, hb, first_is (back_stops _ hit) (enters_of Tryd.func51 (by kernel_rfl) rfl)⟩
  obtain ⟨a, b, c, hv⟩ : ∃ a b c, firV (rangeX l ⟨#[]⟩ (zb key)).reverse.head? = .tuple #[.string a, .int .i64 b, .bool c] := ⟨_, _, _, rfl⟩
  rw [hv] at RG ⊢
  clear h hv
  unfold zb at RG
  have hlen : (9223372036854775807 < key.size + 1) = False := by simp; omega
  go_enter Tryd.func26, Tryd.ntmps26
  go_wp2_with (first
    | (go_at_call 39; refine RG.out.mono ?_; rintro e w1 ⟨R, B, rfl, hb1, hF⟩)
    | (go_at_call 38; refine hF.mono ?_; rintro e w2 ⟨rfl, hb2⟩))
  refine bodyPost_ret (v := .tuple #[.string a, .int .i64 b, .bool c]) (by simp [results, Tryd.results26, go_sem]) rfl ⟨rfl, Below.on hb1.out hb2⟩

end Go.Proofs.YtdllhkjdckcgmaaDoor
