import Derived.Test.YtpnbgdbkiokooaaDoorFlConcat
/- All and Drain. -/
namespace Go.Proofs.YtpnbgdbkiokooaaDoor.Fl
open Go.RowKit Go.Sort Go.Proofs.YtpnbgdbkiokooaaDoor
set_option linter.unusedVariables false

theorem lst_one {w : World} {v : Value} {xs : List ByteArray} (h : Rd w v xs) : Lst (w.alloc (.cells #[v] 22)) w.heap.size [(v, xs)] := by
  refine ⟨fun i hi => ?_, fun i hi => ?_⟩
  · match i, hi with
    | 0, _ => exact cell_obj (World.alloc_heap_new _ _) rfl
  · match i, hi with
    | 0, _ => exact h.later (Below.al (Below.refl _ _) _)
theorem lst_two {w : World} {u v : Value} {xs ys : List ByteArray} (h : Rd w u xs) (k : Rd w v ys) : Lst (w.alloc (.cells #[u, v] 22)) w.heap.size [(u, xs), (v, ys)] := by
  refine ⟨fun i hi => ?_, fun i hi => ?_⟩
  · match i, hi with
    | 0, _ => exact cell_obj (World.alloc_heap_new _ _) rfl
    | 1, _ => exact cell_obj (World.alloc_heap_new _ _) rfl
  · match i, hi with
    | 0, _ => exact h.later (Below.al (Below.refl _ _) _)
    | 1, _ => exact k.later (Below.al (Below.refl _ _) _)
theorem all_is {w : World} {B p : Nat} {v : Value} {xs : List ByteArray} (h : Fl w B p v xs) (hl : xs.length * 64 ≤ 140737488355328) :
    Calls Tryd.prog 29 #[pt p] w fun e w' => ∃ u, e = .returned u ∧ Hid (RowF w' w.heap.size u xs) ∧ Hid (Below w.heap.size w w') := by
  have c0 := h.cell
  have HC := concat_is (lst_one h.row.rd) (k := 1) rfl (by omega) (by simpa [cat] using hl)
  have e : cat [(v, xs)] = xs := by simp [cat]
  rw [e] at HC
  have HC := hid HC
  obtain ⟨a, c, rfl, _, _⟩ := h.row.slice
  generalize xs.length = n at c0 HC
  clear h hl e
  go_enter Tryd.func29, Tryd.ntmps29
  go_wp2_with fail
  refine HC.out.mono ?_
  rintro e w1 ⟨u, rfl, hr, hb⟩
  obtain ⟨a', c', rfl, _, _⟩ := hr.out.slice
  go_wp2_with fail
  go_ret
  refine ⟨_, rfl, hr.out.base ?_, Below.on (Below.al (Below.refl _ _) _) hb.out⟩
  rw [World.size_alloc]; exact Nat.le_succ _

/-- the place that a turn comes to -/
def plc (t : Int) (n : Nat) : Nat := if n = 0 then 0 else (t % (n : Int)).toNat
theorem plc_lt {t : Int} {n : Nat} (h : 0 < n) : plc t n < n := by
  unfold plc
  rw [if_neg (by omega)]
  have := Int.emod_lt_of_pos t (b := (n : Int)) (by omega)
  have := Int.emod_nonneg t (b := (n : Int)) (by omega)
  omega
theorem plc_is (t : Int) {n : Nat} (h : 0 < n) : (t.tmod (n : Int) + (n : Int)).tmod (n : Int) = ((plc t n : Nat) : Int) ∧ - (n : Int) < t.tmod (n : Int) ∧ t.tmod (n : Int) < (n : Int) := by
  have hb1 : - (n : Int) < t.tmod (n : Int) := by
    have := Int.lt_tmod_of_pos t (b := (n : Int)) (by omega)
    omega
  have hb2 : t.tmod (n : Int) < (n : Int) := Int.tmod_lt_of_pos t (by omega)
  refine ⟨?_, hb1, hb2⟩
  rw [Int.tmod_eq_emod_of_nonneg (by omega), Int.add_emod_right, Int.tmod_def, Int.sub_mul_emod_self_left, plc, if_neg (by omega)]
  have := Int.emod_nonneg t (b := (n : Int)) (by omega)
  omega
theorem place_is (t : Int) (n : Nat) (hn : n ≤ 4611686018427387904) (w : World) : Calls Tryd.prog 18 #[.int .i64 t, .int .i64 (n : Int)] w fun e w' => e = .returned (.int .i64 ((plc t n : Nat) : Int)) ∧ w' = w := by
  by_cases h0 : n = 0
  · subst h0
    go_enter Tryd.func18, Tryd.ntmps18
    go_wp2_with fail
    go_ret
    exact ⟨rfl, rfl⟩
  · obtain ⟨h1, h2, h3⟩ := plc_is t (n := n) (by omega)
    have hp := plc_lt (t := t) (n := n) (by omega)
    have k1 : IntKind.i64.wrap (t.tmod (n : Int)) = t.tmod (n : Int) := by rw [IntKind.wrap_i64]; omega
    have k2 : IntKind.i64.wrap (t.tmod (n : Int) + (n : Int)) = t.tmod (n : Int) + (n : Int) := by rw [IntKind.wrap_i64]; omega
    have k3 : IntKind.i64.wrap ((plc t n : Nat) : Int) = ((plc t n : Nat) : Int) := by rw [IntKind.wrap_i64]; omega
    have k4 : ((n : Int) = 0) = False := eq_false (by omega)
    go_enter Tryd.func18, Tryd.ntmps18
    go_wp2_with fail
    go_ret
    exact ⟨rfl, rfl⟩
def rot (xs : List ByteArray) (t : Int) : List ByteArray := xs.drop (plc t xs.length) ++ xs.take (plc t xs.length)
/-- what Drain leaves -/
theorem Fl.emptied {w w' : World} {B p : Nat} {v : Value} {xs : List ByteArray} (h : Fl w B p v xs) (hb : Below w.heap.size w w') : Mv w (w'.setCell ⟨p, 0, none⟩ (.slice none 0 0)) B p v (.slice none 0 0) [] :=
  h.put ⟨hb.os, hb.tape, hb.output, hb.size, fun k hk _ => hb.block k hk⟩ (RowF.nil _ _) (fun k e => by cases e)
theorem RowF.setc {w : World} {B p : Nat} {v u : Value} {xs : List ByteArray} (h : RowF w B v xs) (hp : p < B) : RowF (w.setCell ⟨p, 0, none⟩ u) B v xs := h.keep fun g hg => Below.heap_setCell _ _ _ _ (fun e => by
  have h1 := (h.lt g hg).1
  have e : g = p := e
  omega)
theorem lst_at {w : World} {q : Nat} {u v : Value} {xs ys : List ByteArray} (hq : w.heap[q]? = some (.cells #[u, v] 22 (0, 0))) (h : Rd w u xs) (k : Rd w v ys) : Lst w q [(u, xs), (v, ys)] := by
  refine ⟨fun i hi => ?_, fun i hi => ?_⟩
  · match i, hi with
    | 0, _ => exact cell_obj hq rfl
    | 1, _ => exact cell_obj hq rfl
  · match i, hi with
    | 0, _ => exact h
    | 1, _ => exact k
theorem drain_call {w : World} {va vb : Value} {xs : List ByteArray} {t : Int} (hl : xs.length * 64 ≤ 140737488355328) (ra : Rd w va (xs.drop (plc t xs.length))) (rb : Rd w vb (xs.take (plc t xs.length))) (ws : World) (q : Nat) (hb : Below w.heap.size w ws) (hq : ws.heap[q]? = some (.cells #[va, vb] 22 (0, 0))) :
    Calls Tryd.prog 19 #[.slice (some ⟨q, 0, none⟩) 2 2] ws fun e w2 => ∃ u, e = .returned u ∧ Hid (RowF w2 w.heap.size u (rot xs t)) ∧ Hid (Below w.heap.size w w2) := by
  have ec : cat [(va, xs.drop (plc t xs.length)), (vb, xs.take (plc t xs.length))] = rot xs t := by simp [cat, rot]
  have := concat_is (lst_at hq (ra.later hb) (rb.later hb)) (k := 2) rfl (by omega) (by rw [ec, rot, List.length_append, List.length_drop, List.length_take]; omega)
  rw [ec] at this
  refine this.mono ?_
  rintro e w2 ⟨u, rfl, hr, hb2⟩
  exact ⟨u, rfl, hr.out.base hb.size, Below.on hb hb2.out⟩

set_option maxHeartbeats 4000000 in
theorem drain_nil {w : World} {B p : Nat} {t : Int} (h : Fl w B p (.slice none 0 0) []) :
    Calls Tryd.prog 8 #[pt p, .int .i64 t] w fun e w' => ∃ u, e = .returned u ∧ Hid (RowF w' w.heap.size u (rot [] t)) ∧ Hid (∃ v', v'.ownBlock = none ∧ Mv w w' B p (.slice none 0 0) v' []) := by
  have hl : ([] : List ByteArray).length * 64 ≤ 140737488355328 := by simp
  have HP := hid (place_is t 0 (by omega) w)
  have e0 : plc t 0 = 0 := rfl
  rw [e0] at HP
  have ra : Rd w (.slice none 0 0) (([] : List ByteArray).drop (plc t ([] : List ByteArray).length)) := by rw [List.drop_nil]; exact (RowF.nil w 0).rd
  have rb : Rd w (.slice none 0 0) (([] : List ByteArray).take (plc t ([] : List ByteArray).length)) := by rw [List.take_nil]; exact (RowF.nil w 0).rd
  have HF := hid h
  have c0 := h.cell
  have hplt := h.lt
  have f0 : w.frozen? ⟨p, 0, none⟩ = false := h.loose 0
  have HC := hid (drain_call hl ra rb)
  clear h hl ra rb
  go_enter Tryd.func8, Tryd.ntmps8
  go_wp2_with fail
  refine HP.out.mono ?_
  rintro e w' ⟨rfl, rfl⟩
  go_wp2_with fail
  go_region_held3 (fun ws => ws.cell? ⟨p, 0, none⟩ = some (.slice none 0 0) ∧ Below w'.heap.size w' ws)
    ((refine (fun (hO : Below w'.heap.size w' _) => ⟨cell_later hO c0, hO⟩) ?_; (repeat (first | with_reducible exact Below.refl _ _ | with_reducible assumption | with_reducible refine Below.drew ?_ | with_reducible refine Below.al ?_ _ | with_reducible refine Below.setCell ?_ (by first | exact Nat.le_refl _ | (simp; omega) | (simp; done)) _ | with_reducible refine Below.on ?_ (by assumption)))))
    (first | (go_at_call 19; refine (HC.out _ _ (by (repeat (first | with_reducible exact Below.refl _ _ | with_reducible assumption | with_reducible refine Below.drew ?_ | with_reducible refine Below.al ?_ _ | with_reducible refine Below.setCell ?_ (by first | exact Nat.le_refl _ | (simp; omega) | (simp; done)) _ | with_reducible refine Below.on ?_ (by assumption)))) (by exact World.alloc_heap_new _ _)).mono ?_; rintro e w2 ⟨u, rfl, hr2, HB2⟩; have hb2 : Below w'.heap.size w' w2 := HB2.out; obtain ⟨a2, c2, rfl, _, _⟩ := hr2.out.slice))
  all_goals (have cp : w2.cell? ⟨p, 0, none⟩ = some (.slice none 0 0) := cell_later HB2.out c0)
  all_goals (have fp : w2.frozen? ⟨p, 0, none⟩ = false := (HB2.out.frozen (p := ⟨p, 0, none⟩) hplt).trans f0)
  all_goals clear hb2
  all_goals go_wp2_with fail
  all_goals go_ret
  all_goals exact ⟨_, rfl, hr2.out.setc hplt, _, rfl, HF.out.emptied HB2.out⟩

set_option maxHeartbeats 4000000 in
theorem drain_none {w : World} {B p : Nat} {g off c : Nat} {t : Int} (h : Fl w B p (.slice (some ⟨g, off, none⟩) 0 c) []) :
    Calls Tryd.prog 8 #[pt p, .int .i64 t] w fun e w' => ∃ u, e = .returned u ∧ Hid (RowF w' w.heap.size u (rot [] t)) ∧ Hid (∃ v', v'.ownBlock = none ∧ Mv w w' B p (.slice (some ⟨g, off, none⟩) 0 c) v' []) := by
  have hl : ([] : List ByteArray).length * 64 ≤ 140737488355328 := by simp
  have HP := hid (place_is t 0 (by omega) w)
  have e0 : plc t 0 = 0 := rfl
  rw [e0] at HP
  have ra : Rd w (.slice (some ⟨g, off, none⟩) 0 c) (([] : List ByteArray).drop (plc t ([] : List ByteArray).length)) := by rw [List.drop_nil]; exact ⟨_, _, rfl, fun i t e => by simp at e⟩
  have rb : Rd w (.slice (some ⟨g, off, none⟩) 0 c) (([] : List ByteArray).take (plc t ([] : List ByteArray).length)) := by rw [List.take_nil]; exact ⟨_, _, rfl, fun i t e => by simp at e⟩
  have hcap : ((0 : Int) ≤ (c : Int)) := by omega
  have HF := hid h
  have c0 := h.cell
  have hplt := h.lt
  have f0 : w.frozen? ⟨p, 0, none⟩ = false := h.loose 0
  have HC := hid (drain_call hl ra rb)
  clear h hl ra rb
  go_enter Tryd.func8, Tryd.ntmps8
  go_wp2_with fail
  refine HP.out.mono ?_
  rintro e w' ⟨rfl, rfl⟩
  go_wp2_with fail
  go_region_held3 (fun ws => ws.cell? ⟨p, 0, none⟩ = some (.slice (some ⟨g, off, none⟩) 0 c) ∧ Below w'.heap.size w' ws)
    ((refine (fun (hO : Below w'.heap.size w' _) => ⟨cell_later hO c0, hO⟩) ?_; (repeat (first | with_reducible exact Below.refl _ _ | with_reducible assumption | with_reducible refine Below.drew ?_ | with_reducible refine Below.al ?_ _ | with_reducible refine Below.setCell ?_ (by first | exact Nat.le_refl _ | (simp; omega) | (simp; done)) _ | with_reducible refine Below.on ?_ (by assumption)))))
    (first | (go_at_call 19; refine (HC.out _ _ (by (repeat (first | with_reducible exact Below.refl _ _ | with_reducible assumption | with_reducible refine Below.drew ?_ | with_reducible refine Below.al ?_ _ | with_reducible refine Below.setCell ?_ (by first | exact Nat.le_refl _ | (simp; omega) | (simp; done)) _ | with_reducible refine Below.on ?_ (by assumption)))) (by exact World.alloc_heap_new _ _)).mono ?_; rintro e w2 ⟨u, rfl, hr2, HB2⟩; have hb2 : Below w'.heap.size w' w2 := HB2.out; obtain ⟨a2, c2, rfl, _, _⟩ := hr2.out.slice))
  all_goals (have cp : w2.cell? ⟨p, 0, none⟩ = some (.slice (some ⟨g, off, none⟩) 0 c) := cell_later HB2.out c0)
  all_goals (have fp : w2.frozen? ⟨p, 0, none⟩ = false := (HB2.out.frozen (p := ⟨p, 0, none⟩) hplt).trans f0)
  all_goals clear hb2
  all_goals go_wp2_with fail
  all_goals go_ret
  all_goals exact ⟨_, rfl, hr2.out.setc hplt, _, rfl, HF.out.emptied HB2.out⟩

set_option maxHeartbeats 4000000 in
theorem drain_some {w : World} {B p : Nat} {g off c : Nat} {xs : List ByteArray} {t : Int} (h : Fl w B p (.slice (some ⟨g, off, none⟩) xs.length c) xs) (hpos : 0 < xs.length) (hr : RowAt w g off c xs) (hl : xs.length * 64 ≤ 140737488355328) :
    Calls Tryd.prog 8 #[pt p, .int .i64 t] w fun e w' => ∃ u, e = .returned u ∧ Hid (RowF w' w.heap.size u (rot xs t)) ∧ Hid (∃ v', v'.ownBlock = none ∧ Mv w w' B p (.slice (some ⟨g, off, none⟩) xs.length c) v' []) := by
  have HP := hid (place_is t xs.length (by omega) w)
  have hlt := plc_lt (t := t) hpos
  have hle := hr.le
  have ra : Rd w (.slice (some ⟨g, off + plc t xs.length, none⟩) (xs.length - plc t xs.length) (c - plc t xs.length)) (xs.drop (plc t xs.length)) := ⟨_, _, by rw [List.length_drop], fun i u e => ⟨g, off + plc t xs.length, rfl, by
    rw [List.getElem?_drop] at e
    rw [Nat.add_assoc]
    exact hr.at_ _ _ e⟩⟩
  have rb : Rd w (.slice (some ⟨g, off, none⟩) (plc t xs.length) c) (xs.take (plc t xs.length)) := ⟨_, _, by rw [List.length_take, Nat.min_eq_left (by omega)], fun i u e => ⟨g, off, rfl, by
    rw [List.getElem?_take] at e
    by_cases hi : i < plc t xs.length
    · rw [if_pos hi] at e
      exact hr.at_ _ _ e
    · rw [if_neg hi] at e; cases e⟩⟩
  have HF := hid h
  have c0 := h.cell
  have hplt := h.lt
  have f0 : w.frozen? ⟨p, 0, none⟩ = false := h.loose 0
  have HC := hid (drain_call hl ra rb)
  generalize plc t xs.length = f at HP HC hlt
  generalize hq : xs.length = n at HP HC hlt hle HF c0
  have k1 : (c = f) = False := eq_false (by omega)
  have k2 : (0 : Int) ≤ (f : Int) := by omega
  have k3 : (f : Int) ≤ (n : Int) := by omega
  have k4 : (f : Int) ≤ (c : Int) := by omega
  have k5 : f ≤ n := by omega
  have k6 : f ≤ c := by omega
  have k7 : n ≤ c := hle
  clear hpos hr hq
  clear h hl ra rb
  go_enter Tryd.func8, Tryd.ntmps8
  go_wp2_with fail
  refine HP.out.mono ?_
  rintro e w' ⟨rfl, rfl⟩
  go_wp2_with fail
  go_region_held3 (fun ws => ws.cell? ⟨p, 0, none⟩ = some (.slice (some ⟨g, off, none⟩) n c) ∧ Below w'.heap.size w' ws)
    ((refine (fun (hO : Below w'.heap.size w' _) => ⟨cell_later hO c0, hO⟩) ?_; (repeat (first | with_reducible exact Below.refl _ _ | with_reducible assumption | with_reducible refine Below.drew ?_ | with_reducible refine Below.al ?_ _ | with_reducible refine Below.setCell ?_ (by first | exact Nat.le_refl _ | (simp; omega) | (simp; done)) _ | with_reducible refine Below.on ?_ (by assumption)))))
    (first | (go_at_call 19; refine (HC.out _ _ (by (repeat (first | with_reducible exact Below.refl _ _ | with_reducible assumption | with_reducible refine Below.drew ?_ | with_reducible refine Below.al ?_ _ | with_reducible refine Below.setCell ?_ (by first | exact Nat.le_refl _ | (simp; omega) | (simp; done)) _ | with_reducible refine Below.on ?_ (by assumption)))) (by exact World.alloc_heap_new _ _)).mono ?_; rintro e w2 ⟨u, rfl, hr2, HB2⟩; have hb2 : Below w'.heap.size w' w2 := HB2.out; obtain ⟨a2, c2, rfl, _, _⟩ := hr2.out.slice))
  all_goals (have cp : w2.cell? ⟨p, 0, none⟩ = some (.slice (some ⟨g, off, none⟩) n c) := cell_later HB2.out c0)
  all_goals (have fp : w2.frozen? ⟨p, 0, none⟩ = false := (HB2.out.frozen (p := ⟨p, 0, none⟩) hplt).trans f0)
  all_goals clear hb2
  all_goals go_wp2_with fail
  all_goals go_ret
  all_goals exact ⟨_, rfl, hr2.out.setc hplt, _, rfl, HF.out.emptied HB2.out⟩

theorem drain_is {w : World} {B p : Nat} {v : Value} {xs : List ByteArray} (h : Fl w B p v xs) (t : Int) (hl : xs.length * 64 ≤ 140737488355328) :
    Calls Tryd.prog 8 #[pt p, .int .i64 t] w fun e w' => ∃ u, e = .returned u ∧ Hid (RowF w' w.heap.size u (rot xs t)) ∧ Hid (∃ v', v'.ownBlock = none ∧ Mv w w' B p v v' []) := by
  rcases h.row with ⟨rfl, rfl⟩ | ⟨g, off, c, rfl, _, hr⟩
  · exact drain_nil h
  · cases xs with
    | nil => exact drain_none h
    | cons x xs => exact drain_some h (by simp) hr hl
end Go.Proofs.YtpnbgdbkiokooaaDoor.Fl
