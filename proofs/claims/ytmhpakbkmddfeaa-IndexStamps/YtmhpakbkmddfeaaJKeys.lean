import Derived.Test.YtmhpakbkmddfeaaJIter
import Derived.Test.YtmhpakbkmddfeaaIKeys
namespace Go.Proofs.Ytmhpakbkmddfeaa.St
open Go.RowKit Go.Sort Go.Shelf
set_option linter.unusedVariables false
attribute [local go_sem] Oper.semAt_some

theorem not_ixt {t : TypeId} (h : (t == 107 || t == 32 || t == 84) = false) : ¬ IxT t := by
  simp only [Bool.or_eq_false_iff, beq_eq_false_iff_ne] at h
  rintro (e | e | e)
  · exact h.1.1 e
  · exact h.1.2 e
  · exact h.2 e
theorem row_not {W : World} {base size k : Nat} {e : TypeId} {v : Value} {xs : List Value} (hr : W.ownsRow base e size v k xs) (he : ¬ IxT e) {b : Nat} {cs : Array Value} {t : TypeId} {z : Nat × Nat} (ht : IxT t) (hb : W.heap[b]? = some (.cells cs t z)) : some b ≠ v.ownBlock := by
  rcases hr.2 with ⟨rfl, _⟩ | ⟨g, cap, cur, rfl, _, hgb, _⟩
  · simp [Value.ownBlock]
  · intro e'
    obtain rfl : b = g := by simpa [Value.ownBlock] using e'
    rw [hb] at hgb
    cases hgb
    exact he ht
theorem boxed_put {W : World} {B D : Nat} {t : TypeId} {v : Value} {o : Obj} (h : Boxed W B t v) (hD : W.heap[D]? = some o) (ho : o.isCells = false) (o' : Obj) : Boxed (W.putObj D o') B t v :=
  h.kept (grownBy_putObj' W D o') (fun e => by
    have e2 : B = D := by simpa using e
    subst e2
    rw [show W.heap[B]? = _ from h] at hD; cases hD; cases ho)
theorem box_off {W : World} {b B j : Nat} {t : TypeId} {u : Value} (h : Boxed W b t u) (hne : b ≠ B) (v : Value) : Boxed (W.setCell ⟨B, j, none⟩ v) b t u := (Below.heap_setCell _ _ _ _ hne).trans h
/-- a stamp, in a block -/
def Tri (w : World) (b : Nat) (p q r : Value) : Prop := w.heap[b]? = some (.cells #[p, q, r] 63 (0, 0))
theorem Tri.lt {w : World} {b : Nat} {p q r : Value} (h : Tri w b p q r) : b < w.heap.size := (Array.getElem?_eq_some_iff.1 h).1
theorem Tri.c0 {w : World} {b : Nat} {p q r : Value} (h : Tri w b p q r) : w.cell? ⟨b, 0, none⟩ = some p := cell_of_obj h rfl
theorem Tri.c1 {w : World} {b : Nat} {p q r : Value} (h : Tri w b p q r) : w.cell? ⟨b, 1, none⟩ = some q := cell_of_obj h rfl
theorem Tri.c2 {w : World} {b : Nat} {p q r : Value} (h : Tri w b p q r) : w.cell? ⟨b, 2, none⟩ = some r := cell_of_obj h rfl
theorem Tri.f {w : World} {b : Nat} {p q r : Value} (h : Tri w b p q r) (j : Nat) : w.frozen? ⟨b, j, none⟩ = false := by simp only [World.frozen?, show w.heap[b]? = _ from h]; rfl
theorem Tri.s0 {w : World} {b : Nat} {p q r : Value} (h : Tri w b p q r) (u : Value) : Tri (w.setCell ⟨b, 0, none⟩ u) b u q r := heap_setCell_same w b 0 _ _ u h
theorem Tri.s1 {w : World} {b : Nat} {p q r : Value} (h : Tri w b p q r) (u : Value) : Tri (w.setCell ⟨b, 1, none⟩ u) b p u r := heap_setCell_same w b 1 _ _ u h
theorem Tri.s2 {w : World} {b : Nat} {p q r : Value} (h : Tri w b p q r) (u : Value) : Tri (w.setCell ⟨b, 2, none⟩ u) b p q u := heap_setCell_same w b 2 _ _ u h
theorem Tri.other {w : World} {b B j : Nat} {p q r : Value} (h : Tri w b p q r) (hne : b ≠ B) (u : Value) : Tri (w.setCell ⟨B, j, none⟩ u) b p q r := (Below.heap_setCell _ _ _ _ hne).trans h
theorem Tri.new (w : World) (p q r : Value) : Tri (w.alloc (.cells #[p, q, r] 63)) w.heap.size p q r := World.alloc_heap_new w _
theorem Tri.al {w : World} {b : Nat} {p q r : Value} (h : Tri w b p q r) (o : Obj) : Tri (w.alloc o) b p q r := (Below.heap_alloc _ _ _ h.lt).trans h
theorem Tri.put {W : World} {b D : Nat} {p q r : Value} {o : Obj} (h : Tri W b p q r) (hD : W.heap[D]? = some o) (ho : o.isCells = false) (o' : Obj) : Tri (W.putObj D o') b p q r :=
  (World.putObj_heap_other (fun e => by subst e; rw [show W.heap[b]? = _ from h] at hD; cases hD; cases ho)).trans h
theorem tri_own {β : Type} (b : Nat) (p q r : Value) : Own (fun (_ : β) W => Tri W b p q r) := fun s X Y row hs hg hrow =>
  (grownBy_keeps_cells hg hrow (show X.heap[b]? = _ from hs) rfl).trans hs

theorem box_drew {W : World} {b : Nat} {t : TypeId} {u : Value} (h : Boxed W b t u) : Boxed W.drew b t u := h
theorem tri_drew {W : World} {b : Nat} {p q r : Value} (h : Tri W b p q r) : Tri W.drew b p q r := h
theorem below_off {n B j : Nat} {a W : World} {u : Value} (h : Below n a W) (hb : n ≤ B) : Below n a (W.setCell ⟨B, j, none⟩ u) := Below.setCell h hb u
theorem ko_set {W X : World} {a : Addr} {v : Value} (h : KeepsOthers W X) : KeepsOthers W (X.setCell a v) := h.trans (KeepsOthers.setCell _ _ _)
theorem ko_drew {W X : World} (h : KeepsOthers W X) : KeepsOthers W X.drew := h.trans (KeepsOthers.drew _)
theorem ko_al {W X : World} {o : Obj} (h : KeepsOthers W X) : KeepsOthers W (X.alloc o) := h.trans (KeepsOthers.alloc _ _)
def BoxEx (W : World) (b : Nat) (t : TypeId) : Prop := ∃ v, Boxed W b t v
def TriEx (W : World) (b : Nat) : Prop := ∃ p q r, Tri W b p q r
theorem box_set {W : World} {b : Nat} {t : TypeId} {u : Value} (h : BoxEx W b t) : Boxed (W.setCell ⟨b, 0, none⟩ u) b t u := by obtain ⟨v, h⟩ := h; exact h.set u
theorem boxEx_off {W : World} {b B j : Nat} {t : TypeId} {u : Value} (h : BoxEx W b t) (hne : b ≠ B) : BoxEx (W.setCell ⟨B, j, none⟩ u) b t := by obtain ⟨v, h⟩ := h; exact ⟨v, box_off h hne _⟩
theorem tri_set {W : World} {b : Nat} {x y z : Value} (h : TriEx W b) : Tri (((W.setCell ⟨b, 0, none⟩ x).setCell ⟨b, 1, none⟩ y).setCell ⟨b, 2, none⟩ z) b x y z := by obtain ⟨p, q, r, h⟩ := h; exact ((h.s0 x).s1 y).s2 z
theorem triEx_off {W : World} {b B j : Nat} {u : Value} (h : TriEx W b) (hne : b ≠ B) : TriEx (W.setCell ⟨B, j, none⟩ u) b := by obtain ⟨p, q, r, h⟩ := h; exact ⟨p, q, r, h.other hne _⟩
/-- what first, Floor and Ceil answer -/
def firV (o : Option En) : Value := .tuple #[.string (o.elim ⟨#[]⟩ (fun e => e.1)), so (o.map (fun e => e.2)), .bool o.isSome]
/-- the loop of first goes on -/
def FirI (w : World) {xs : List En} (pre : List (Of xs)) (W : World) : Prop :=
  ((pre = [] ∧ Boxed W w.heap.size 9 (.string ⟨#[]⟩)) ∧ Tri W (w.heap.size + 1) (.int .u64 0) (.int .u32 0) (.int .u32 0)) ∧ Boxed W (w.heap.size + 1 + 1) 4 (.bool false) ∧ Below w.heap.size w W
/-- it was left -/
def FirX (w : World) {xs : List En} (c : Code) (pre : List (Of xs)) (W : World) : Prop :=
  (∃ x : Of xs, c = .ret ∧ pre = [x] ∧ Boxed W w.heap.size 9 (.string x.1.1) ∧ Tri W (w.heap.size + 1) (.int .u64 (sv x.1.2)) (.int .u32 7) (.int .u32 9) ∧ Boxed W (w.heap.size + 1 + 1) 4 (.bool true)) ∧ Below w.heap.size w W
theorem firI_own {w : World} {xs : List En} {B : Nat} (h : w.heap.size ≤ B) : OwnFrom B (FirI w (xs := xs)) :=
  OwnFrom.and (OwnFrom.and (OwnFrom.and (ownFrom_pure _ _) (Own.from (boxed_own _ _ (fun _ => _)) _)) (Own.from (tri_own _ _ _ _) _)) (OwnFrom.and (Own.from (boxed_own _ _ (fun _ => _)) _) (ownFrom_below (Nat.le_refl _) h))
theorem firX_own {w : World} {xs : List En} {B : Nat} (c : Code) (h : w.heap.size ≤ B) : OwnFrom B (FirX w (xs := xs) c) :=
  OwnFrom.and (fun s X Y row hs hg hr => by
    obtain ⟨x, hc, hp, h1, h2, h3⟩ := hs
    exact ⟨x, hc, hp, (Own.from (boxed_own _ _ (fun _ : Unit => _)) _) () X Y row h1 hg hr, (Own.from (tri_own (β := Unit) _ _ _ _) _) () X Y row h2 hg hr, (Own.from (boxed_own _ _ (fun _ : Unit => _)) _) () X Y row h3 hg hr⟩) (ownFrom_below (Nat.le_refl _) h)
/-- what the round begins with -/
def FirA (w : World) (gf R B : Nat) {xs : List En} (x : Of xs) (a' : Act) (W : World) : Prop :=
  ∃ Bx, w.heap.size + 1 + 1 < Bx ∧ Tri W Bx (.int .u64 (sv x.1.2)) (.int .u32 7) (.int .u32 9) ∧ a' = { tmps := #[itv gf R B, undef, .pointer (some ⟨w.heap.size, 0, none⟩), .pointer (some ⟨w.heap.size + 1, 0, none⟩), .pointer (some ⟨w.heap.size + 1 + 1, 0, none⟩), .string x.1.1, .pointer (some ⟨Bx, 0, none⟩), undef, itv gf R B, .string x.1.1, sg (x.1.2), undef, undef, undef], defers := [] }
theorem firA_own {w : World} {gf R B : Nat} {xs : List En} (x : Of xs) (a' : Act) (Q : Nat) : OwnFrom Q (fun (_ : Unit) W => FirA w gf R B x a' W) := fun s X Y row hs hg hr => by
  obtain ⟨Bx, hB, hT, ha⟩ := hs
  exact ⟨Bx, hB, (Own.from (tri_own (β := Unit) _ _ _ _) Q) () X Y row hT hg hr, ha⟩
theorem FirI.al {w W : World} {xs : List En} {pre : List (Of xs)} (h : FirI w pre W) (o : Obj) : FirI w pre (W.alloc o) := by
  obtain ⟨⟨⟨hp, h1⟩, h2⟩, h3, hB⟩ := h
  exact ⟨⟨⟨hp, h1.alloc _⟩, h2.al _⟩, h3.alloc _, Below.al hB _⟩

set_option maxRecDepth 100000 in
theorem fir_fin {w W : World} {D : Nat} {a0 a1 a5 a6 a7 a8 a9 a10 a11 a12 a13 : Value} (hD : w.heap.size ≤ D) (hK : W.heap[D]? = some (.deferred (some []))) (h1 : Boxed W w.heap.size 9 (.string ⟨#[]⟩)) (h2 : Tri W (w.heap.size + 1) (.int .u64 0) (.int .u32 0) (.int .u32 0)) (h3 : Boxed W (w.heap.size + 1 + 1) 4 (.bool false)) (hB : Below w.heap.size w W) :
    bodyPostM Fence.wide 5 Try.prog Try.f67 (fun e w' => e = .returned (firV none) ∧ Below w.heap.size w w') .ret { tmps := #[a0, a1, .pointer (some ⟨w.heap.size, 0, none⟩), .pointer (some ⟨w.heap.size + 1, 0, none⟩), .pointer (some ⟨w.heap.size + 1 + 1, 0, none⟩), a5, a6, a7, a8, a9, a10, a11, a12, a13], defers := [{ target := .collected D, args := #[] }] } W := by
  have e1 := (boxed_put h1 hK rfl (.deferred none)).cell; have e2 := h2.put hK rfl (.deferred none); have e3 := (boxed_put h3 hK rfl (.deferred none)).cell
  have g0 := e2.c0; have g1 := e2.c1; have g2 := e2.c2
  refine ⟨by simp, .inl ⟨_, _, rfl, run_takeDeferred hK, ?_⟩⟩
  refine ⟨firV none, ?_, rfl, hB.trans (belowK_b (w := w) (Nat.le_refl _) W D _ _ hD hK rfl rfl)⟩
  simp [results, Try.f67, go_sem, e1, g0, g1, g2, e3, firV, so]

set_option maxRecDepth 100000 in
set_option maxHeartbeats 600000 in
theorem first_is {w : World} {gf R B : Nat} {xs : List En} (hseq : SeqStopsK Fence.wide (5 - 1) Try.prog gf #[.pointer (some ⟨R, 0, none⟩), .pointer (some ⟨B, 0, none⟩)] (encs xs) Kp (fun ys => ys.map (fun x => x.1) = xs) (fun pre => pre.map (fun x => x.1) <+: xs) xs.length w)
    (eg : ∀ args w, (callFunc gf args).run Try.prog w = .ok (.enter gf args) w) :
    Calls Try.prog 67 #[itv gf R B] w fun e w' => e = .returned (firV xs.head?) ∧ Below w.heap.size w w' := by
  refine (callsIn_wide (n := 5)).1 ?_
  refine callsIn_of_wp_marks Try.func67 rfl trivial ?_ rfl
  simp only [Try.ntmps67, List.size_toArray, List.length_cons, List.length_nil, Nat.reduceAdd, Nat.reduceSub, Array.replicate_succ, Array.replicate_zero, List.push_toArray, List.append_toArray, List.nil_append, List.cons_append]
  gi_wp2
  have b1 := Boxed.new w 9 (.string ⟨#[]⟩)
  have b2 := Tri.new (w.alloc (.cells #[.string ⟨#[]⟩] 9)) (.int .u64 0) (.int .u32 0) (.int .u32 0)
  have b3 := Boxed.new ((w.alloc (.cells #[.string ⟨#[]⟩] 9)).alloc (.cells #[.int .u64 0, .int .u32 0, .int .u32 0] 63)) 4 (.bool false)
  simp only [World.size_alloc] at b2 b3
  have hB0 : Below w.heap.size w (((w.alloc (.cells #[.string ⟨#[]⟩] 9)).alloc (.cells #[.int .u64 0, .int .u32 0, .int .u32 0] 63)).alloc (.cells #[.bool false] 4)) := Below.al (Below.al (Below.al (Below.refl _ _) _) _) _
  have b1' := (b1.alloc (.cells #[.int .u64 0, .int .u32 0, .int .u32 0] 63)).alloc (.cells #[.bool false] 4)
  have b2' := b2.al (.cells #[.bool false] 4)
  obtain ⟨w0, hw0⟩ : ∃ w0, w0 = ((w.alloc (.cells #[.string ⟨#[]⟩] 9)).alloc (.cells #[.int .u64 0, .int .u32 0, .int .u32 0] 63)).alloc (.cells #[.bool false] 4) := ⟨_, rfl⟩
  rw [← hw0] at b1' b2' b3 hB0 ⊢
  clear hw0 b1 b2
  have hs0 : w.heap.size + 1 + 1 < w0.heap.size := b3.lt
  refine wpIn_rangeFunc_ownH rfl (by decide) (gf := gf) (lb := #[.pointer (some ⟨R, 0, none⟩), .pointer (some ⟨B, 0, none⟩)]) rfl trivial eg
    hseq kp_t kp_b hB0 (fun _ => rfl)
    (FirI w) (FirX w) (firI_own (by omega)) (fun c => firX_own c (by omega))
    ⟨⟨⟨rfl, b1'⟩, b2'⟩, b3, hB0⟩
    (FirA w gf R B) (fun x a' => firA_own x a' _) ?assign ?body ?done ?stop
  case assign =>
    rintro l pre x W K hI hK
    gi_wp2
    exact hK _ _ ((KeepsOthers.alloc _ _).from _) (Kp.of_below (Below.al (Below.refl _ _) _)) (hI.al _) ⟨W.heap.size, hI.2.1.lt, Tri.new _ _ _ _, rfl⟩
  case body =>
    rintro l pre x a' W hl hr ⟨⟨⟨rfl, h1⟩, h2⟩, h3, hB⟩ ⟨Bx, hBx, bX, rfl⟩ _
    have c1 := h1.cell; have c3 := h3.cell
    have f1 := h1.frozen; have f3 := h3.frozen
    have t0 := h2.c0; have t1 := h2.c1; have t2 := h2.c2; have tf := h2.f
    have x0 := bX.c0; have x1 := bX.c1; have x2 := bX.c2
    have H1 : BoxEx W w.heap.size 9 := ⟨_, h1⟩
    have H2 : TriEx W (w.heap.size + 1) := ⟨_, _, _, h2⟩
    have H3 : BoxEx W (w.heap.size + 1 + 1) 4 := ⟨_, h3⟩
    have n1 : Bx ≠ w.heap.size := by omega
    have n2 : Bx ≠ w.heap.size + 1 := by omega
    have n3 : Bx ≠ w.heap.size + 1 + 1 := by omega
    gi_wp2
    gi_region
    all_goals gi_wp2
    all_goals have a01 : w.heap.size ≠ w.heap.size + 1 := by omega
    all_goals have a02 : w.heap.size ≠ w.heap.size + 1 + 1 := by omega
    all_goals have a10 : w.heap.size + 1 ≠ w.heap.size := by omega
    all_goals have a12 : w.heap.size + 1 ≠ w.heap.size + 1 + 1 := by omega
    all_goals have a20 : w.heap.size + 1 + 1 ≠ w.heap.size := by omega
    all_goals have a21 : w.heap.size + 1 + 1 ≠ w.heap.size + 1 := by omega
    all_goals have l0 : w.heap.size ≤ w.heap.size := Nat.le_refl _
    all_goals have l1 : w.heap.size ≤ w.heap.size + 1 := by omega
    all_goals have l2 : w.heap.size ≤ w.heap.size + 1 + 1 := by omega
    all_goals
      refine ⟨?_, ⟨x, rfl, rfl, ?_, ?_, ?_⟩, ?_⟩
      · refine KeepsOthers.from ?_ _
        repeat (with_reducible first | exact KeepsOthers.refl _ | refine ko_set ?_ | refine ko_drew ?_ | refine ko_al ?_)
      · repeat (with_reducible first | exact H1 | refine box_drew ?_ | refine box_set ?_ | refine box_off ?_ (by assumption) _ | refine boxEx_off ?_ (by assumption))
      · repeat (with_reducible first | exact H2 | refine tri_drew ?_ | refine tri_set ?_ | refine Tri.other ?_ (by assumption) _ | refine triEx_off ?_ (by assumption))
      · repeat (with_reducible first | exact H3 | refine box_drew ?_ | refine box_set ?_ | refine box_off ?_ (by assumption) _ | refine boxEx_off ?_ (by assumption))
      · repeat (with_reducible first | exact hB | refine Below.drew ?_ | refine below_off ?_ (by assumption))
  case done =>
    rintro D ys W hD hys ⟨⟨⟨rfl, h1⟩, h2⟩, h3, hB⟩ hK
    obtain rfl : xs = [] := by simpa using hys.symm
    have hlt := h3.lt
    have h1a := h1.alloc (.cells #[.int .u64 0, .int .u32 0, .int .u32 0] 63)
    have h2a := h2.al (.cells #[.int .u64 0, .int .u32 0, .int .u32 0] 63)
    have h3a := h3.alloc (.cells #[.int .u64 0, .int .u32 0, .int .u32 0] 63)
    have hBa := Below.al hB (.cells #[.int .u64 0, .int .u32 0, .int .u32 0] 63)
    have hz := Tri.new W (.int .u64 0) (.int .u32 0) (.int .u32 0)
    have hKa := (KeepsOthers.alloc W (.cells #[.int .u64 0, .int .u32 0, .int .u32 0] 63)).same D _ hK rfl
    have c1 := h1a.cell; have c3 := h3a.cell
    have f1 := h1a.frozen; have f3 := h3a.frozen
    have t0 := h2a.c0; have t1 := h2a.c1; have t2 := h2a.c2; have tf := h2a.f
    have z0 := hz.c0; have z1 := hz.c1; have z2 := hz.c2
    have n1 : W.heap.size ≠ w.heap.size := by omega
    have n2 : W.heap.size ≠ w.heap.size + 1 := by omega
    have n3 : W.heap.size ≠ w.heap.size + 1 + 1 := by omega
    obtain ⟨Wa, hWa⟩ : ∃ Wa, Wa = W.alloc (.cells #[.int .u64 0, .int .u32 0, .int .u32 0] 63) := ⟨_, rfl⟩
    have H1 : BoxEx Wa w.heap.size 9 := by rw [hWa]; exact ⟨_, h1a⟩
    have H2 : TriEx Wa (w.heap.size + 1) := by rw [hWa]; exact ⟨_, _, _, h2a⟩
    have H3 : BoxEx Wa (w.heap.size + 1 + 1) 4 := by rw [hWa]; exact ⟨_, h3a⟩
    have HK : Wa.heap[D]? = some (.deferred (some [])) := by rw [hWa]; exact hKa
    have HB : Below w.heap.size w Wa := by rw [hWa]; exact hBa
    rw [← hWa] at c1 c3 f1 f3 t0 t1 t2 tf z0 z1 z2
    clear h1 h2 h3 h1a h2a h3a hBa hz hKa hB hK
    gi_wp2
    rw [← hWa]
    clear hWa
    gi_region
    all_goals gi_wp2
    all_goals have a01 : w.heap.size ≠ w.heap.size + 1 := by omega
    all_goals have a02 : w.heap.size ≠ w.heap.size + 1 + 1 := by omega
    all_goals have a10 : w.heap.size + 1 ≠ w.heap.size := by omega
    all_goals have a12 : w.heap.size + 1 ≠ w.heap.size + 1 + 1 := by omega
    all_goals have a20 : w.heap.size + 1 + 1 ≠ w.heap.size := by omega
    all_goals have a21 : w.heap.size + 1 + 1 ≠ w.heap.size + 1 := by omega
    all_goals have l0 : w.heap.size ≤ w.heap.size := Nat.le_refl _
    all_goals have l1 : w.heap.size ≤ w.heap.size + 1 := by omega
    all_goals have l2 : w.heap.size ≤ w.heap.size + 1 + 1 := by omega
    all_goals
      refine fir_fin (w := w) (Nat.le_trans hB0.size hD) (KeepsOthers.same (W := Wa) ?_ D _ HK rfl) ?_ ?_ ?_ ?_
      · repeat (with_reducible first | exact KeepsOthers.refl _ | refine ko_set ?_ | refine ko_drew ?_ | refine ko_al ?_)
      · repeat (with_reducible first | exact H1 | refine box_drew ?_ | refine box_set ?_ | refine box_off ?_ (by assumption) _ | refine boxEx_off ?_ (by assumption))
      · repeat (with_reducible first | exact H2 | refine tri_drew ?_ | refine tri_set ?_ | refine Tri.other ?_ (by assumption) _ | refine triEx_off ?_ (by assumption))
      · repeat (with_reducible first | exact H3 | refine box_drew ?_ | refine box_set ?_ | refine box_off ?_ (by assumption) _ | refine boxEx_off ?_ (by assumption))
      · repeat (with_reducible first | exact HB | refine Below.drew ?_ | refine below_off ?_ (by assumption))
  case stop =>
    rintro D c pre W hD hpre ⟨⟨x, rfl, rfl, h1, h2, h3⟩, hB⟩ hK
    have e1 := (boxed_put h1 hK rfl (.deferred none)).cell; have e2 := h2.put hK rfl (.deferred none); have e3 := (boxed_put h3 hK rfl (.deferred none)).cell
    have g0 := e2.c0; have g1 := e2.c1; have g2 := e2.c2
    have hh : xs.head? = some x.1 := by
      obtain ⟨t, ht⟩ := hpre
      have ht' : x.1 :: t = xs := by simpa using ht
      exact (congrArg List.head? ht').symm
    gi_wp2
    refine ⟨by simp, .inl ⟨_, _, rfl, run_takeDeferred hK, ?_⟩⟩
    refine ⟨firV (some x.1), ?_, by rw [hh], hB.trans (belowK_b (w := w) (Nat.le_refl _) W D _ _ (by omega) hK rfl rfl)⟩
    simp [results, Try.f67, go_sem, e1, g0, g1, g2, e3, firV, so]

theorem firV_lit (o : Option En) : ∃ a p q r c, firV o = .tuple #[.string a, .agg #[.int .u64 p, .int .u32 q, .int .u32 r], .bool c] := by
  cases o with
  | none => exact ⟨_, _, _, _, _, rfl⟩
  | some e => exact ⟨_, _, _, _, _, rfl⟩
set_option maxHeartbeats 1000000 in
theorem ceil_is {w : World} {p : Nat} {l : List En} (h : Xi w p l) (key : ByteArray) :
    Calls Try.prog 52 #[.pointer (some ⟨p, 0, none⟩), .string key] w fun e w' => e = .returned (firV (rangeX l key ⟨#[]⟩).head?) ∧ Below w.heap.size w w' := by
  obtain ⟨w0, hw0⟩ : ∃ w0, w0 = w.alloc (.cells #[.int .u64 0, .int .u32 0, .int .u32 0] 63) := ⟨_, rfl⟩
  have hb0 : Below w.heap.size w w0 := by rw [hw0]; exact Below.al (Below.refl _ _) _
  have hz : Tri w0 w.heap.size (.int .u64 0) (.int .u32 0) (.int .u32 0) := by rw [hw0]; exact Tri.new _ _ _ _
  have RG : Hid (Calls Try.prog 69 #[.pointer (some ⟨p, 0, none⟩), .agg #[.string key, .string ⟨#[]⟩]] w0 fun e w' => ∃ R B, e = .returned (itv 80 R B) ∧
      Calls Try.prog 67 #[itv 80 R B] w' fun e w2 => e = .returned (firV (rangeX l key ⟨#[]⟩).head?) ∧ Below w0.heap.size w0 w2 ∧ Tri w2 w.heap.size (.int .u64 0) (.int .u32 0) (.int .u32 0)) :=
    (range_is (h.later hb0) key ⟨#[]⟩).mono fun e w' ⟨R, B, he, hit, hb, _, _⟩ => ⟨R, B, he, (first_is (range_stops _ hit) (enters_of Try.func80 (by kernel_rfl) rfl)).mono fun e w2 ⟨he2, hb2⟩ => ⟨he2, Below.on hb hb2, ((Below.on hb hb2).block _ hz.lt).trans hz⟩⟩
  obtain ⟨a, u, q, r, c, hv⟩ := firV_lit (rangeX l key ⟨#[]⟩).head?
  rw [hv] at RG ⊢
  have HB0 := hid hb0
  clear h hv hz hb0
  subst hw0
  go_enter Try.func52, Try.ntmps52
  go_wp2_with (first
    | (go_at_call 69; refine RG.out.mono ?_; rintro e w1 ⟨R, B, rfl, hF⟩)
    | (go_at_call 67; refine hF.mono ?_; rintro e w2 ⟨rfl, hb2, hz⟩; have t0 := hz.c0; have tf := hz.f; have hz1 := hz.s0 (.int .u64 u); have t1 := hz1.c1; have tf1 := hz1.f; have hz2 := hz1.s1 (.int .u32 q); have t2 := hz2.c2; have tf2 := hz2.f; have hz3 := hz2.s2 (.int .u32 r); have s0 := hz3.c0; have s1 := hz3.c1; have s2 := hz3.c2; have hb2 := hid hb2))
  refine bodyPost_ret (v := .tuple #[.string a, .agg #[.int .u64 u, .int .u32 q, .int .u32 r], .bool c]) (by simp [results, Try.results52, go_sem, s0, s1, s2]) rfl ⟨rfl, below_off (below_off (below_off (Below.on HB0.out hb2.out) (Nat.le_refl _)) (Nat.le_refl _)) (Nat.le_refl _)⟩
set_option maxHeartbeats 1000000 in
theorem floor_is {w : World} {p : Nat} {l : List En} (h : Xi w p l) (key : ByteArray) (hk : key.size + 1 ≤ 9223372036854775807) :
    Calls Try.prog 50 #[.pointer (some ⟨p, 0, none⟩), .string key] w fun e w' => e = .returned (firV (rangeX l ⟨#[]⟩ (zb key)).reverse.head?) ∧ Below w.heap.size w w' := by
  obtain ⟨w0, hw0⟩ : ∃ w0, w0 = w.alloc (.cells #[.int .u64 0, .int .u32 0, .int .u32 0] 63) := ⟨_, rfl⟩
  have hb0 : Below w.heap.size w w0 := by rw [hw0]; exact Below.al (Below.refl _ _) _
  have hz : Tri w0 w.heap.size (.int .u64 0) (.int .u32 0) (.int .u32 0) := by rw [hw0]; exact Tri.new _ _ _ _
  have RG : Hid (Calls Try.prog 68 #[.pointer (some ⟨p, 0, none⟩), .agg #[.string ⟨#[]⟩, .string (zb key)]] w0 fun e w' => ∃ R B, e = .returned (itv 78 R B) ∧
      Calls Try.prog 67 #[itv 78 R B] w' fun e w2 => e = .returned (firV (rangeX l ⟨#[]⟩ (zb key)).reverse.head?) ∧ Below w0.heap.size w0 w2 ∧ Tri w2 w.heap.size (.int .u64 0) (.int .u32 0) (.int .u32 0)) :=
    (back_is (h.later hb0) ⟨#[]⟩ (zb key)).mono fun e w' ⟨R, B, he, hit, hb, _, _⟩ => ⟨R, B, he, (first_is (back_stops _ hit) (enters_of Try.func78 (by kernel_rfl) rfl)).mono fun e w2 ⟨he2, hb2⟩ => ⟨he2, Below.on hb hb2, ((Below.on hb hb2).block _ hz.lt).trans hz⟩⟩
  obtain ⟨a, u, q, r, c, hv⟩ := firV_lit (rangeX l ⟨#[]⟩ (zb key)).reverse.head?
  rw [hv] at RG ⊢
  unfold zb at RG
  have HB0 := hid hb0
  have hlen : (9223372036854775807 < key.size + 1) = False := by simp; omega
  clear h hv hz hb0
  subst hw0
  go_enter Try.func50, Try.ntmps50
  go_wp2_with (first
    | (go_at_call 68; refine RG.out.mono ?_; rintro e w1 ⟨R, B, rfl, hF⟩)
    | (go_at_call 67; refine hF.mono ?_; rintro e w2 ⟨rfl, hb2, hz⟩; have t0 := hz.c0; have tf := hz.f; have hz1 := hz.s0 (.int .u64 u); have t1 := hz1.c1; have tf1 := hz1.f; have hz2 := hz1.s1 (.int .u32 q); have t2 := hz2.c2; have tf2 := hz2.f; have hz3 := hz2.s2 (.int .u32 r); have s0 := hz3.c0; have s1 := hz3.c1; have s2 := hz3.c2; have hb2 := hid hb2))
  refine bodyPost_ret (v := .tuple #[.string a, .agg #[.int .u64 u, .int .u32 q, .int .u32 r], .bool c]) (by simp [results, Try.results50, go_sem, s0, s1, s2]) rfl ⟨rfl, below_off (below_off (below_off (Below.on HB0.out hb2.out) (Nat.le_refl _)) (Nat.le_refl _)) (Nat.le_refl _)⟩

end Go.Proofs.Ytmhpakbkmddfeaa.St
