import Derived.Test.YtmbmagfdeadibaaDRefRead
namespace Go.Proofs.Ytmbmagfdeadibaa
open Go.RowKit Go.Sort
set_option linter.unusedVariables false

set_option maxHeartbeats 1000000 in
theorem rtrunc_no {w : World} {p : Option Addr} {s n : Int} (hs : (s == 0 || s == 1) = false) :
    Calls Try.prog 36 #[.pointer p, .int .i64 s, .int .i64 n] w fun e w' => e = .returned (.int .i64 61) ∧ Below w.heap.size w w' := by
  have HS := hid hs
  clear hs
  go_enter Try.func36, Try.ntmps36
  go_wp2_with fail
  refine (rright_is HS.out _).mono ?_
  rintro e w1 ⟨rfl, rfl⟩
  go_wp2_with fail
  go_ret
  exact ⟨rfl, Below.refl _ _⟩

set_option maxHeartbeats 1000000 in
theorem rtrunc_out0 {w : World} {x : Rf} {n : Int} (h : RefD w x) (hn : n < 0 ∨ ((x.r 0).length : Int) < n) :
    Calls Try.prog 36 #[.pointer (some ⟨x.p, 0, none⟩), .int .i64 0, .int .i64 n] w fun e w' => e = .returned (.int .i64 61) ∧ Below w.heap.size w w' := by
  obtain ⟨a, c, e, hr⟩ := h.row0
  have cc := h.c1
  rw [e] at cc
  clear hr e h
  by_cases h0 : n < 0
  · have h0' : decide (n < 0) = true := decide_eq_true h0
    clear hn h0
    go_enter Try.func36, Try.ntmps36
    go_wp2_with fail
    refine (rright_is (u := true) rfl _).mono ?_
    rintro e w1 ⟨rfl, rfl⟩
    go_wp2_with fail
    go_ret
    exact ⟨rfl, Below.refl _ _⟩
  · have h0' : decide (n < 0) = false := decide_eq_false h0
    have h1' : decide (((x.r 0).length : Int) < n) = true := decide_eq_true (by omega)
    clear hn h0
    go_enter Try.func36, Try.ntmps36
    go_wp2_with fail
    refine (rright_is (u := true) rfl _).mono ?_
    rintro e w1 ⟨rfl, rfl⟩
    go_wp2_with fail
    go_ret
    exact ⟨rfl, Below.refl _ _⟩

set_option maxHeartbeats 2000000 in
theorem rtrunc0 {w : World} {x : Rf} {n : Nat} (h : RefD w x) (hn : n ≤ (x.r 0).length) :
    Calls Try.prog 36 #[.pointer (some ⟨x.p, 0, none⟩), .int .i64 0, .int .i64 (n : Int)] w fun e w' => e = .returned (.int .i64 0) ∧ ∃ v, RefD w' (x.put 0 v ((x.r 0).take n)) ∧ Onl x.has w w' ∧ ∀ k, (x.put 0 v ((x.r 0).take n)).has k → x.has k ∨ w.heap.size ≤ k := by
  obtain ⟨a, c, e, hr⟩ := h.row0
  have cc := h.c1
  rw [e] at cc
  have hf : ∀ o, w.frozen? ⟨x.p, o, none⟩ = false := h.loose
  have hlt := h.lt
  have H := hid h
  have HR := hid hr
  have HN := hid hn
  have h0' : decide ((n : Int) < 0) = false := decide_eq_false (by omega)
  have h1' : decide ((x.r 0).length < n) = false := decide_eq_false (by omega)
  clear hr e h hn
  go_enter Try.func36, Try.ntmps36
  go_wp2_with fail
  refine (rright_is (u := true) rfl _).mono ?_
  rintro e w1 ⟨rfl, rfl⟩
  go_wp2_with fail
  go_cut [] (fun wx => ∃ v, RefD wx (x.put 0 v ((x.r 0).take n)) ∧ Onl x.has w1 wx ∧ ∀ k, (x.put 0 v ((x.r 0).take n)).has k → x.has k ∨ w1.heap.size ≤ k)
  case first =>
    go_region_with (first | (go_at_call 31; refine (first_any (HR.out.later (Below.drew (Below.refl _ _))) HN.out H.out.l0).mono ?_; rintro e w2 ⟨v, rfl, hown, hb⟩; obtain ⟨a2, c2, rfl⟩ := owns_slice hown; have HB : Hid (Below w1.heap.size w1 w2) := (by refine Below.on ?_ hb; (repeat (first | exact Below.refl _ _ | assumption | refine Below.drew ?_ | refine Below.al ?_ _ | refine Below.setCell ?_ (by first | exact Nat.le_refl _ | (simp; omega) | (simp; done)) _ | refine Below.on ?_ (by assumption)))); have HO := hid hown; have kc := cell_later HB.out cc; have kf : ∀ o, w2.frozen? ⟨x.p, o, none⟩ = false := (fun o => (HB.out.frozen (p := ⟨x.p, o, none⟩) hlt).trans (hf o)); clear hb hown))
    all_goals (try go_wp2_with fail)
    all_goals go_meet
    all_goals (exact ⟨_, H.out.lay0 HB.out HO.out (Nat.le_refl _) (by have := HN.out; rw [List.length_take]; omega) (by have := H.out.used; rw [List.length_take]; omega)⟩)
  case rest =>
    obtain ⟨v, hR⟩ := hcut
    go_wp2_with fail
    go_ret
    exact ⟨rfl, v, hR⟩

set_option maxHeartbeats 1000000 in
theorem rtrunc_out1 {w : World} {x : Rf} {n : Int} (h : RefD w x) (hn : n < 0 ∨ ((x.r 1).length : Int) < n) :
    Calls Try.prog 36 #[.pointer (some ⟨x.p, 0, none⟩), .int .i64 1, .int .i64 n] w fun e w' => e = .returned (.int .i64 61) ∧ Below w.heap.size w w' := by
  obtain ⟨a, c, e, hr⟩ := h.row1
  have cc := h.c2
  rw [e] at cc
  clear hr e h
  by_cases h0 : n < 0
  · have h0' : decide (n < 0) = true := decide_eq_true h0
    clear hn h0
    go_enter Try.func36, Try.ntmps36
    go_wp2_with fail
    refine (rright_is (u := true) rfl _).mono ?_
    rintro e w1 ⟨rfl, rfl⟩
    go_wp2_with fail
    go_ret
    exact ⟨rfl, Below.refl _ _⟩
  · have h0' : decide (n < 0) = false := decide_eq_false h0
    have h1' : decide (((x.r 1).length : Int) < n) = true := decide_eq_true (by omega)
    clear hn h0
    go_enter Try.func36, Try.ntmps36
    go_wp2_with fail
    refine (rright_is (u := true) rfl _).mono ?_
    rintro e w1 ⟨rfl, rfl⟩
    go_wp2_with fail
    go_ret
    exact ⟨rfl, Below.refl _ _⟩

set_option maxHeartbeats 2000000 in
theorem rtrunc1 {w : World} {x : Rf} {n : Nat} (h : RefD w x) (hn : n ≤ (x.r 1).length) :
    Calls Try.prog 36 #[.pointer (some ⟨x.p, 0, none⟩), .int .i64 1, .int .i64 (n : Int)] w fun e w' => e = .returned (.int .i64 0) ∧ ∃ v, RefD w' (x.put 1 v ((x.r 1).take n)) ∧ Onl x.has w w' ∧ ∀ k, (x.put 1 v ((x.r 1).take n)).has k → x.has k ∨ w.heap.size ≤ k := by
  obtain ⟨a, c, e, hr⟩ := h.row1
  have cc := h.c2
  rw [e] at cc
  have hf : ∀ o, w.frozen? ⟨x.p, o, none⟩ = false := h.loose
  have hlt := h.lt
  have H := hid h
  have HR := hid hr
  have HN := hid hn
  have h0' : decide ((n : Int) < 0) = false := decide_eq_false (by omega)
  have h1' : decide ((x.r 1).length < n) = false := decide_eq_false (by omega)
  clear hr e h hn
  go_enter Try.func36, Try.ntmps36
  go_wp2_with fail
  refine (rright_is (u := true) rfl _).mono ?_
  rintro e w1 ⟨rfl, rfl⟩
  go_wp2_with fail
  go_cut [] (fun wx => ∃ v, RefD wx (x.put 1 v ((x.r 1).take n)) ∧ Onl x.has w1 wx ∧ ∀ k, (x.put 1 v ((x.r 1).take n)).has k → x.has k ∨ w1.heap.size ≤ k)
  case first =>
    go_region_with (first | (go_at_call 31; refine (first_any (HR.out.later (Below.drew (Below.refl _ _))) HN.out H.out.l1).mono ?_; rintro e w2 ⟨v, rfl, hown, hb⟩; obtain ⟨a2, c2, rfl⟩ := owns_slice hown; have HB : Hid (Below w1.heap.size w1 w2) := (by refine Below.on ?_ hb; (repeat (first | exact Below.refl _ _ | assumption | refine Below.drew ?_ | refine Below.al ?_ _ | refine Below.setCell ?_ (by first | exact Nat.le_refl _ | (simp; omega) | (simp; done)) _ | refine Below.on ?_ (by assumption)))); have HO := hid hown; have kc := cell_later HB.out cc; have kf : ∀ o, w2.frozen? ⟨x.p, o, none⟩ = false := (fun o => (HB.out.frozen (p := ⟨x.p, o, none⟩) hlt).trans (hf o)); clear hb hown))
    all_goals (try go_wp2_with fail)
    all_goals go_meet
    all_goals (exact ⟨_, H.out.lay1 HB.out HO.out (Nat.le_refl _) (by have := HN.out; rw [List.length_take]; omega) (by have := H.out.used; rw [List.length_take]; omega)⟩)
  case rest =>
    obtain ⟨v, hR⟩ := hcut
    go_wp2_with fail
    go_ret
    exact ⟨rfl, v, hR⟩

set_option maxHeartbeats 4000000 in
theorem rcrash_is {w : World} {x : Rf} {k0 k1 : Int} (h : RefD w x) (h0 : -9223372036854775808 ≤ k0) (h0' : k0 ≤ 9223372036854775807) (h1 : -9223372036854775808 ≤ k1) (h1' : k1 ≤ 9223372036854775807) :
    Calls Try.prog 40 #[.pointer (some ⟨x.p, 0, none⟩), .int .i64 k0, .int .i64 k1] w fun e w' => e = .returned (.tuple #[]) ∧ ∃ v u, RefD w' ((x.put 0 v (keptF k0 (x.r 0)).1).put 1 u (keptF k1 (x.r 1)).1) ∧ Onl x.has w w' ∧ ∀ k, ((x.put 0 v (keptF k0 (x.r 0)).1).put 1 u (keptF k1 (x.r 1)).1).has k → x.has k ∨ w.heap.size ≤ k := by
  obtain ⟨a, c, e, hr⟩ := h.row0
  have cc := h.c1
  rw [e] at cc
  have hf : ∀ o, w.frozen? ⟨x.p, o, none⟩ = false := h.loose
  have hlt := h.lt
  have H := hid h
  have HR := hid hr
  have HK0 : Hid (-9223372036854775808 ≤ k0 ∧ k0 ≤ 9223372036854775807) := ⟨h0, h0'⟩
  have HK1 : Hid (-9223372036854775808 ≤ k1 ∧ k1 ≤ 9223372036854775807) := ⟨h1, h1'⟩
  clear hr e h h0 h0' h1 h1'
  go_enter Try.func40, Try.ntmps40
  go_wp2_with fail
  go_cut [] (fun wx => ∃ v, RefD wx (x.put 0 v (keptF k0 (x.r 0)).1) ∧ Onl x.has w wx ∧ ∀ k, (x.put 0 v (keptF k0 (x.r 0)).1).has k → x.has k ∨ w.heap.size ≤ k)
  case first =>
    go_region_with (first | (go_at_call 43; refine (kept_any (HR.out.later (Below.drew (Below.refl _ _))) H.out.l0 HK0.out.1 HK0.out.2).mono ?_; rintro e w2 ⟨v, rfl, hown, hb⟩; obtain ⟨a2, c2, rfl⟩ := owns_slice hown; have HB : Hid (Below w.heap.size w w2) := (by refine Below.on ?_ hb; (repeat (first | exact Below.refl _ _ | assumption | refine Below.drew ?_ | refine Below.al ?_ _ | refine Below.setCell ?_ (by first | exact Nat.le_refl _ | (simp; omega) | (simp; done)) _ | refine Below.on ?_ (by assumption)))); have HO := hid hown; have kc := cell_later HB.out cc; have kf : ∀ o, w2.frozen? ⟨x.p, o, none⟩ = false := (fun o => (HB.out.frozen (p := ⟨x.p, o, none⟩) hlt).trans (hf o)); clear hb hown))
    all_goals (try go_wp2_with fail)
    all_goals go_meet
    all_goals (exact ⟨_, H.out.lay0 HB.out HO.out (Nat.le_refl _) rfl (by have := H.out.used; have := keptF_length k0 (x.r 0); omega)⟩)
  case rest =>
    obtain ⟨v, hR, hO, hN⟩ := hcut
    clear cc hf hlt HR
    obtain ⟨a, c, e, hr⟩ := hR.row1
    have cc := hR.c2
    rw [e] at cc
    have hf : ∀ o, wc.frozen? ⟨x.p, o, none⟩ = false := hR.loose
    have hlt : x.p < wc.heap.size := hR.lt
    have H2 := hid hR
    have HR := hid hr
    have HO1 := hid hO
    have HN1 := hid hN
    have el : ((x.put 0 v (keptF k0 (x.r 0)).1).r 1) = x.r 1 := rfl
    have ep : (x.put 0 v (keptF k0 (x.r 0)).1).p = x.p := rfl
    rw [ep, el] at cc
    rw [el] at HR
    clear hR e hr hO hN el ep
    go_wp2_with fail
    go_region_with (first | (go_at_call 43; refine (kept_any (HR.out.later (Below.drew (Below.refl _ _))) H.out.l1 HK1.out.1 HK1.out.2).mono ?_; rintro e w2 ⟨u, rfl, hown, hb⟩; obtain ⟨a2, c2, rfl⟩ := owns_slice hown; have HB : Hid (Below wc.heap.size wc w2) := (by refine Below.on ?_ hb; (repeat (first | exact Below.refl _ _ | assumption | refine Below.drew ?_ | refine Below.al ?_ _ | refine Below.setCell ?_ (by first | exact Nat.le_refl _ | (simp; omega) | (simp; done)) _ | refine Below.on ?_ (by assumption)))); have HO := hid hown; have kc := cell_later HB.out cc; have kf : ∀ o, w2.frozen? ⟨x.p, o, none⟩ = false := (fun o => (HB.out.frozen (p := ⟨x.p, o, none⟩) hlt).trans (hf o)); clear hb hown))
    all_goals (try go_wp2_with fail)
    all_goals go_end0
    all_goals
      have hX := H2.out.lay1 HB.out HO.out (Nat.le_refl _) rfl (by have := keptF_length k1 (x.r 1); show (keptF k0 (x.r 0)).1.length + _ ≤ x.cap; have : (keptF k0 (x.r 0)).1.length + (x.r 1).length ≤ x.cap := H2.out.used; omega)
      refine ⟨rfl, v, _, hX.1, HO1.out.fresh hX.2.1 HN1.out, fun k hk => ?_⟩
      rcases hX.2.2 k hk with h1 | h1
      · exact HN1.out k h1
      · exact .inr (Nat.le_trans HO1.out.size h1)

end Go.Proofs.Ytmbmagfdeadibaa
