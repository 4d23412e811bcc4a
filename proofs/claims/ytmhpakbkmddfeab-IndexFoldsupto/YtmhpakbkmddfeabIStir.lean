import Derived.Test.YtmhpakbkmddfeabIGather
namespace Go.Proofs.Ytmhpakbkmddfeab
open Go.RowKit Go.Sort
set_option linter.unusedVariables false

def hiT : ByteArray := ⟨#[255, 255, 255, 255]⟩
/-- what stir makes of an index -/
def stirA (xs : List En) (e : En) : List En := setX (delX xs e.1) (zb e.1) e.2
def topX (a : List En) : Option En := (rangeX a ⟨#[]⟩ (zb hiT)).reverse.head?
def stirX (xs : List En) (e : En) : List En := (topX (stirA xs e)).elim (stirA xs e) (fun y => setX (stirA xs e) y.1 (-1))

/-- what was gathered, in a block -/
def Duo (w : World) (b : Nat) (p q : Value) : Prop := w.heap[b]? = some (.cells #[p, q] 48 (0, 0))
theorem Duo.lt {w : World} {b : Nat} {p q : Value} (h : Duo w b p q) : b < w.heap.size := (Array.getElem?_eq_some_iff.1 h).1
theorem Duo.c0 {w : World} {b : Nat} {p q : Value} (h : Duo w b p q) : w.cell? ⟨b, 0, none⟩ = some p := cell_of_obj h rfl
theorem Duo.c1 {w : World} {b : Nat} {p q : Value} (h : Duo w b p q) : w.cell? ⟨b, 1, none⟩ = some q := cell_of_obj h rfl
theorem Duo.f {w : World} {b : Nat} {p q : Value} (h : Duo w b p q) (j : Nat) : w.frozen? ⟨b, j, none⟩ = false := by simp only [World.frozen?, show w.heap[b]? = _ from h]; rfl
theorem Duo.s0 {w : World} {b : Nat} {p q : Value} (h : Duo w b p q) (u : Value) : Duo (w.setCell ⟨b, 0, none⟩ u) b u q := heap_setCell_same w b 0 _ _ u h
theorem Duo.s1 {w : World} {b : Nat} {p q : Value} (h : Duo w b p q) (u : Value) : Duo (w.setCell ⟨b, 1, none⟩ u) b p u := heap_setCell_same w b 1 _ _ u h
theorem Duo.other {w : World} {b B j : Nat} {p q : Value} (h : Duo w b p q) (hne : b ≠ B) (u : Value) : Duo (w.setCell ⟨B, j, none⟩ u) b p q := (Below.heap_setCell _ _ _ _ hne).trans h
theorem Duo.keep {w w' : World} {F : Nat → Prop} {b : Nat} {p q : Value} (h : Duo w b p q) (ho : Onl F w w') (hn : ¬ F b) : Duo w' b p q := (ho.block b h.lt hn).trans h
theorem Duo.later {w w' : World} {b : Nat} {p q : Value} (h : Duo w b p q) (hb : Below w.heap.size w w') : Duo w' b p q := (hb.block b h.lt).trans h
theorem Duo.kp {w : World} {b : Nat} {p q : Value} (h : Duo w b p q) (j : Nat) (u : Value) : Kp w (w.setCell ⟨b, j, none⟩ u) :=
  Kp.of_onl (F := fun k => k = b) (Onl.set (F := fun k => k = b) (Onl.refl _ _) rfl _ _) fun k cs t z hf hb ht => by
    subst hf
    rw [show w.heap[k]? = _ from h] at hb; cases hb
    exact not_ixt (by rfl) ht
theorem Duo.not_row {w : World} {b B k : Nat} {p q v : Value} {l : List En} (h : Duo w b p q) (ho : OwnE w B v l) : ¬ OwnB v b := fun e => by
  have ho' := ho
  obtain ⟨hl, ⟨rfl, _⟩ | ⟨g, cap, cur, rfl, _, hgb, _⟩⟩ := ho'
  · simp [OwnB, Value.ownBlock] at e
  · have e2 : g = b := by simpa [OwnB, Value.ownBlock] using e
    subst e2
    rw [show w.heap[g]? = _ from h] at hgb
    simp at hgb
theorem Duo.xi {w : World} {b x j : Nat} {p q : Value} {l : List En} (h : Duo w b p q) (hx : Xi w x l) (u : Value) (hne : x ≠ b) : Xi (w.setCell ⟨b, j, none⟩ u) x l := hx.keep (h.kp _ _) (Below.heap_setCell _ _ _ _ hne)
theorem Duo.own {w : World} {b B j : Nat} {p q v : Value} {l : List En} (h : Duo w b p q) (ho : OwnE w B v l) (u : Value) : OwnE (w.setCell ⟨b, j, none⟩ u) B v l := owns_keep ho fun g hg => Below.heap_setCell _ _ _ _ (fun e => h.not_row (k := 0) ho (by rw [OwnB, hg]; exact congrArg some e))
theorem OwnE.keep {w w' : World} {F : Nat → Prop} {B : Nat} {v : Value} {l : List En} (h : OwnE w B v l) (ho : Onl F w w') (hn : ∀ g, OwnB v g → ¬ F g) : OwnE w' B v l := owns_keep h fun g hg => ho.block g (World.ownsRow.lt h g hg).2 (hn g hg)
theorem OwnE.kp {w w' : World} {B : Nat} {v : Value} {l : List En} (h : OwnE w B v l) (ho : Onl (OwnB v) w w') : Kp w w' :=
  Kp.of_onl ho fun b cs t z hf hb ht => row_not h (not_ixt (by rfl)) ht hb hf.symm
theorem Xi.not_own {w : World} {x B : Nat} {v : Value} {l m : List En} (h : Xi w x l) (ho : OwnE w B v m) : ¬ OwnB v x := fun e => by
  obtain ⟨u, hb⟩ := h.box
  exact hb.not_row (by decide) ho e.symm

set_option maxHeartbeats 4000000 in
theorem stir_is {w : World} {x B : Nat} {v : Value} {xs l : List En} (h : Xi w x xs) (ho : OwnE w B v l) (k : ByteArray) (n : Int) (hxs : xs.length + 3 ≤ 1152921504606846976) (hl : (l.length + 1) * 64 ≤ 140737488355328) (hB : B ≤ w.heap.size) (hk : k.size + 1 ≤ 9223372036854775807) :
    Calls Try.prog 19 #[.agg #[pt x, v], .string k, .int .i64 n] w fun e w' => ∃ v', e = .returned (.agg #[pt x, v']) ∧ Xi w' x (stirX xs (k, n)) ∧ OwnE w' B v' (l ++ [(k, n)]) ∧ Onl (fun b => b = x ∨ OwnB v b) w w' ∧ Kp w w' := by
  have hlen : (9223372036854775807 < k.size + 1) = False := by simp; omega
  obtain ⟨w0, hw0⟩ : ∃ w0, w0 = (w.alloc (.cells #[pt x, v] 48)).alloc (.cells #[nilP, nilS] 48) := ⟨_, rfl⟩
  have hb0 : Below w.heap.size w w0 := by rw [hw0]; exact Below.al (Below.al (Below.refl _ _) _) _
  have hd0 : Duo w0 w.heap.size (pt x) v := by rw [hw0]; exact (Below.heap_alloc _ _ _ (by simp)).trans (World.alloc_heap_new w _)
  have hd1 : Duo w0 (w.heap.size + 1) nilP nilS := by
    have := World.alloc_heap_new (w.alloc (.cells #[pt x, v] 48)) (.cells #[nilP, nilS] 48)
    rw [World.size_alloc] at this; rw [hw0]; exact this
  have hx0 := h.later hb0
  have ho0 := ho.later hb0
  have hxw := h.lt
  have hno := hx0.not_own ho0
  have c00 := hd0.c0
  have c01 := hd0.c1
  have f0 := hd0.f
  have hxb : w.heap.size ≠ x := by omega
  have hxb1 : w.heap.size + 1 ≠ x := by omega
  have hla : (stirA xs (k, n)).length ≤ xs.length + 1 := by
    unfold stirA
    have := setX_len (delX xs k) (zb k) n
    have := delX_len xs k
    show (setX (delX xs k) (zb k) n).length ≤ _
    omega
  -- the index is changed, nothing else
  have DE : Hid (Calls Try.prog 14 #[pt x, .string k] w0 fun e w' => ∃ u : Bool, e = .returned (.bool u) ∧ Hid (Xi w' x (delX xs k) ∧ Onl (fun b => b = x) w0 w') ∧ w'.cell? ⟨w.heap.size, 0, none⟩ = some (pt x)) :=
    (del_is hx0 k (by omega)).mono fun e w' ⟨he, hx, hon⟩ => ⟨_, he, ⟨hx, hon⟩, (hd0.keep hon (by omega)).c0⟩
  have SE : Hid (∀ W, (Xi W x (delX xs k) ∧ Onl (fun b => b = x) w0 W) → Calls Try.prog 12 #[pt x, .string (k ++ ⟨#[0]⟩), .int .i64 n] W fun e w' => ∃ u : Bool, e = .returned (.bool u) ∧ Hid (Xi w' x (stirA xs (k, n)) ∧ Onl (fun b => b = x) w0 w') ∧ w'.cell? ⟨w.heap.size, 0, none⟩ = some (pt x)) := fun W hW =>
    (set_is hW.1 (zb k) n (by have := delX_len xs k; omega)).mono fun e w' ⟨he, hx, hon⟩ => ⟨_, he, ⟨hx, hW.2.trans hon⟩, (hd0.keep (hW.2.trans hon) (by omega)).c0⟩
  have FL : Hid (∀ W, (Xi W x (stirA xs (k, n)) ∧ Onl (fun b => b = x) w0 W) → Calls Try.prog 27 #[pt x, .string ⟨#[255, 255, 255, 255]⟩] W fun e w' => e = .returned (firV (topX (stirA xs (k, n)))) ∧ Hid (Xi w' x (stirA xs (k, n)) ∧ Onl (fun b => b = x) w0 w') ∧ w'.cell? ⟨w.heap.size, 0, none⟩ = some (pt x) ∧ w'.cell? ⟨w.heap.size, 1, none⟩ = some v) := fun W hW =>
    (floor_is hW.1 hiT (by decide)).mono fun e w' ⟨he, hb⟩ => ⟨he, ⟨hW.1.later hb, hW.2.on hb⟩, (hd0.keep (hW.2.on hb) (by omega)).c0, (hd0.keep (hW.2.on hb) (by omega)).c1⟩
  have ST : Hid (∀ W y, (Xi W x (stirA xs (k, n)) ∧ Onl (fun b => b = x) w0 W) → Calls Try.prog 12 #[pt x, .string y, .int .i64 (-1)] W fun e w' => ∃ u : Bool, e = .returned (.bool u) ∧ Hid (Xi w' x (setX (stirA xs (k, n)) y (-1)) ∧ Onl (fun b => b = x) w0 w') ∧ w'.cell? ⟨w.heap.size, 0, none⟩ = some (pt x) ∧ w'.cell? ⟨w.heap.size, 1, none⟩ = some v) := fun W y hW =>
    (set_is hW.1 y (-1) (by omega)).mono fun e w' ⟨he, hx, hon⟩ => ⟨_, he, ⟨hx, hW.2.trans hon⟩, (hd0.keep (hW.2.trans hon) (by omega)).c0, (hd0.keep (hW.2.trans hon) (by omega)).c1⟩
  have GA : Hid (∀ W zs, (Xi W x zs ∧ Onl (fun b => b = x) w0 W) → Calls Try.prog 22 #[v, .string k, .int .i64 n] W fun e w' => ∃ g cap, e = .returned (.slice (some ⟨g, 0, none⟩) (l.length + 1) cap) ∧ Duo w' w.heap.size (pt x) v ∧ Duo w' (w.heap.size + 1) nilP nilS ∧ Hid (Xi w' x zs ∧ OwnE w' B (.slice (some ⟨g, 0, none⟩) (l.length + 1) cap) (l ++ [(k, n)]) ∧ Onl (fun b => b = x ∨ OwnB v b) w w' ∧ Kp w w')) := fun W zs hW => by
    have hoW := ho0.keep hW.2 (fun g hg e => hno (e ▸ hg))
    have hBW : B ≤ W.heap.size := Nat.le_trans hB (Nat.le_trans hb0.size hW.2.size)
    refine (gather_is hoW k n hl hBW).mono fun e w' ⟨v', he, ho', hon⟩ => ?_
    have d0 := (hd0.keep hW.2 (by omega))
    have d1 := (hd1.keep hW.2 (by omega))
    obtain ⟨g, cap, rfl⟩ : ∃ g cap, v' = .slice (some ⟨g, 0, none⟩) (l.length + 1) cap := by
      have ho2 : w'.ownsRow B 41 2 v' (l.length + 1) (flatE (l ++ [(k, n)])) := by have := ho'; unfold OwnE at this; rw [List.length_append] at this; exact this
      exact ownsRow_succ ho2
    exact ⟨g, cap, he, d0.keep hon (d0.not_row (k := 0) hoW), d1.keep hon (d1.not_row (k := 0) hoW), hW.1.keep (hoW.kp hon) (hon.block x hW.1.lt (hW.1.not_own hoW)), ho',
      ((Onl.of_below hb0).trans (hW.2.mono fun b e => .inl e)).trans (hon.mono fun b e => .inr e), ((Kp.of_below hb0).trans (hx0.kp hW.2)).trans (hoW.kp hon)⟩
  have HX : Hid (stirX xs (k, n) = (topX (stirA xs (k, n))).elim (stirA xs (k, n)) (fun y => setX (stirA xs (k, n)) y.1 (-1))) := rfl
  have HXW := hid hxw
  obtain ⟨tp, htp⟩ : ∃ tp, topX (stirA xs (k, n)) = tp := ⟨_, rfl⟩
  rw [htp] at FL HX
  clear h ho hxs hl hB hk hb0 hd0 hd1 hx0 ho0 hxw hno hla hxb hxb1 htp
  subst hw0
  cases tp with
  | none =>
    rw [show firV none = .tuple #[.string ⟨#[]⟩, .int .i64 0, .bool false] from rfl] at FL
    go_enter Try.func19, Try.ntmps19
    go_wp2_with (first
      | (go_at_call 14; refine DE.out.mono ?_; rintro e w1 ⟨u1, rfl, s1, e1⟩)
      | (go_at_call 12; refine (SE.out _ s1.out).mono ?_; rintro e w2 ⟨u2, rfl, s2, e2⟩)
      | (go_at_call 27; refine (FL.out _ s2.out).mono ?_; rintro e w3 ⟨rfl, s3, e3, e3'⟩)
      | (go_at_call 22; refine (GA.out _ _ s3.out).mono ?_; rintro e w4 ⟨g, cap, rfl, d4, d5, s4⟩; have f4 := d4.f; have g1 := d4.c1; have d6 := d4.s1 (.slice (some ⟨g, 0, none⟩) (l.length + 1) cap); have g0 := d6.c0; have g2 := d6.c1; have d7 := d5.other (B := w.heap.size) (j := 1) (by omega) (.slice (some ⟨g, 0, none⟩) (l.length + 1) cap); have f7 := d7.f; have g3 := d7.c0; have d8 := d7.s0 (pt x); have g4 := d8.c1; have f8 := d8.f; have d9 := d8.s1 (.slice (some ⟨g, 0, none⟩) (l.length + 1) cap); have g5 := d9.c0; have g6 := d9.c1))
    obtain ⟨hx4, ho4, hn4, hk4⟩ := s4.out
    have hx := HXW.out
    have HX2 : stirX xs (k, n) = stirA xs (k, n) := HX.out
    rw [HX2]
    have y1 := d4.xi (j := 1) hx4 (.slice (some ⟨g, 0, none⟩) (l.length + 1) cap) (by omega)
    have y2 := d7.xi (j := 0) y1 (pt x) (by omega)
    have y3 := d8.xi (j := 1) y2 (.slice (some ⟨g, 0, none⟩) (l.length + 1) cap) (by omega)
    have z1 := d4.own (j := 1) ho4 (.slice (some ⟨g, 0, none⟩) (l.length + 1) cap)
    have z2 := d7.own (j := 0) z1 (pt x)
    have z3 := d8.own (j := 1) z2 (.slice (some ⟨g, 0, none⟩) (l.length + 1) cap)
    have o1 := Onl.setNew hn4 (q := w.heap.size) (Nat.le_refl _) 1 (.slice (some ⟨g, 0, none⟩) (l.length + 1) cap)
    have o2 := Onl.setNew o1 (q := w.heap.size + 1) (by omega) 0 (pt x)
    have o3 := Onl.setNew o2 (q := w.heap.size + 1) (by omega) 1 (.slice (some ⟨g, 0, none⟩) (l.length + 1) cap)
    have k1 := hk4.trans (d4.kp 1 (.slice (some ⟨g, 0, none⟩) (l.length + 1) cap))
    have k2 := k1.trans (d7.kp 0 (pt x))
    have k3 := k2.trans (d8.kp 1 (.slice (some ⟨g, 0, none⟩) (l.length + 1) cap))
    refine bodyPost_ret (v := .agg #[pt x, (.slice (some ⟨g, 0, none⟩) (l.length + 1) cap)]) ?_ rfl ⟨(.slice (some ⟨g, 0, none⟩) (l.length + 1) cap), rfl, y3, z3, o3, k3⟩
    simp [results, Try.results19, go_sem, g5, g6]
  | some y =>
    rw [show firV (some y) = .tuple #[.string y.1, .int .i64 y.2, .bool true] from rfl] at FL
    go_enter Try.func19, Try.ntmps19
    go_wp2_with (first
      | (go_at_call 14; refine DE.out.mono ?_; rintro e w1 ⟨u1, rfl, s1, e1⟩)
      | (go_at_call 12; refine (ST.out _ y.1 s3.out).mono ?_; rintro e w3' ⟨u3, rfl, s3', e4, e4'⟩)
      | (go_at_call 12; refine (SE.out _ s1.out).mono ?_; rintro e w2 ⟨u2, rfl, s2, e2⟩)
      | (go_at_call 27; refine (FL.out _ s2.out).mono ?_; rintro e w3 ⟨rfl, s3, e3, e3'⟩)
      | (go_at_call 22; refine (GA.out _ _ s3'.out).mono ?_; rintro e w4 ⟨g, cap, rfl, d4, d5, s4⟩; have f4 := d4.f; have g1 := d4.c1; have d6 := d4.s1 (.slice (some ⟨g, 0, none⟩) (l.length + 1) cap); have g0 := d6.c0; have g2 := d6.c1; have d7 := d5.other (B := w.heap.size) (j := 1) (by omega) (.slice (some ⟨g, 0, none⟩) (l.length + 1) cap); have f7 := d7.f; have g3 := d7.c0; have d8 := d7.s0 (pt x); have g4 := d8.c1; have f8 := d8.f; have d9 := d8.s1 (.slice (some ⟨g, 0, none⟩) (l.length + 1) cap); have g5 := d9.c0; have g6 := d9.c1))
    obtain ⟨hx4, ho4, hn4, hk4⟩ := s4.out
    have hx := HXW.out
    have HX2 : stirX xs (k, n) = setX (stirA xs (k, n)) y.1 (-1) := HX.out
    rw [HX2]
    have y1 := d4.xi (j := 1) hx4 (.slice (some ⟨g, 0, none⟩) (l.length + 1) cap) (by omega)
    have y2 := d7.xi (j := 0) y1 (pt x) (by omega)
    have y3 := d8.xi (j := 1) y2 (.slice (some ⟨g, 0, none⟩) (l.length + 1) cap) (by omega)
    have z1 := d4.own (j := 1) ho4 (.slice (some ⟨g, 0, none⟩) (l.length + 1) cap)
    have z2 := d7.own (j := 0) z1 (pt x)
    have z3 := d8.own (j := 1) z2 (.slice (some ⟨g, 0, none⟩) (l.length + 1) cap)
    have o1 := Onl.setNew hn4 (q := w.heap.size) (Nat.le_refl _) 1 (.slice (some ⟨g, 0, none⟩) (l.length + 1) cap)
    have o2 := Onl.setNew o1 (q := w.heap.size + 1) (by omega) 0 (pt x)
    have o3 := Onl.setNew o2 (q := w.heap.size + 1) (by omega) 1 (.slice (some ⟨g, 0, none⟩) (l.length + 1) cap)
    have k1 := hk4.trans (d4.kp 1 (.slice (some ⟨g, 0, none⟩) (l.length + 1) cap))
    have k2 := k1.trans (d7.kp 0 (pt x))
    have k3 := k2.trans (d8.kp 1 (.slice (some ⟨g, 0, none⟩) (l.length + 1) cap))
    refine bodyPost_ret (v := .agg #[pt x, (.slice (some ⟨g, 0, none⟩) (l.length + 1) cap)]) ?_ rfl ⟨(.slice (some ⟨g, 0, none⟩) (l.length + 1) cap), rfl, y3, z3, o3, k3⟩
    simp [results, Try.results19, go_sem, g5, g6]

end Go.Proofs.Ytmhpakbkmddfeab
