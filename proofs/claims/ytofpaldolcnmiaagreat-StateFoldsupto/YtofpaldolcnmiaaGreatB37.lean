import Derived.Test.YtofpaldolcnmiaaGreatB29
set_option linter.unusedVariables false
namespace Go.Proofs.YtofpaldolcnmiaaGreat
open Go.RowKit Go.Sort
set_option maxHeartbeats 400000 in
theorem dtext_raw {w : World} {b o : Nat} {m : Int} {s : List Nat} {r : Int} (h : DecR w b o s r) (hm1 : -9223372036854775808 ≤ m) (hm2 : m ≤ 9223372036854775807) (hl : s.length ≤ 9223372036854775807) :
    Calls Tryz.prog 158 #[.pointer (some ⟨b, o, none⟩), .int .i64 m] w fun e w' => match txt m.toNat s with
      | .ok t q => e = .returned (.string (ofNats t)) ∧ Cel b o 2 w w' ∧ DecR w' b o q r
      | .bad c => e = .returned (.string (ofNats [])) ∧ Cel b o 2 w w' ∧ DecR w' b o [] (stopR r c) := by
  have hmf : ∀ (fn : Fn) (first cap : Array Value) (w : World), (Instr.makeFunc fn first cap).run Tryz.prog w = .ok (.func fn first cap) w := fun _ _ _ _ => rfl
  obtain ⟨wa, hwa⟩ : ∃ wa, wa = w.alloc (.cells #[.pointer (some ⟨b, o, none⟩)] 73) := ⟨_, rfl⟩
  have hba : Below w.heap.size w wa := by rw [hwa]; exact Below.al (Below.refl _ _) _
  have H := hid (h.later hba)
  have hq : wa.cell? ⟨w.heap.size, 0, none⟩ = some (.pointer (some ⟨b, o, none⟩)) := by rw [hwa]; simp [go_sem]
  have hbl := h.lt
  have HWA := hid hwa
  clear h hwa
  obtain ⟨k, hk⟩ : ∃ k, m.toNat = k := ⟨_, rfl⟩
  have HMN := hid hk
  rw [hk]
  clear hk
  have hwd : (w.alloc (.cells #[.pointer (some ⟨b, o, none⟩)] 73)).drew = wa.drew := by rw [HWA.out]
  cases hv : txt k s with
  | ok t q =>
    have HV := hid hv
    clear hv
    go_enter_defers Tryz.func158, Tryz.ntmps158
    go_wp2_with fail
    refine wp_region_lin [[0, 1, 2, 3, 4], [1, 0, 2, 3, 4], [1, 2, 0, 3, 4]] (Checked.mixed Tryz.checked) (by kernel_rfl) ?_
    simp only [List.mem_cons, List.not_mem_nil, or_false, forall_eq_or_imp, forall_eq]
    refine ⟨wpOps_forall (.cons rfl (.cons rfl (.cons rfl (.cons rfl (.cons rfl .nil))))) ?_, wpOps_forall (.cons rfl (.cons rfl (.cons rfl (.cons rfl (.cons rfl .nil))))) ?_, wpOps_forall (.cons rfl (.cons rfl (.cons rfl (.cons rfl (.cons rfl .nil))))) ?_⟩
    all_goals simp only [List.getElem_toArray, List.getElem_cons_zero, List.getElem_cons_succ]
    all_goals go_wp2_with (first | (go_at_call 205; refine (nbz_is hm1 hm2 HMN.out).mono ?_; rintro e w1 ⟨rfl, rfl⟩) | (go_at_call 204; (try rw [hwd]); refine (dtext_any H.out.drew hl).mono ?_; rw [HV.out]; rintro e w1 ⟨rfl, hc, hd⟩))
    all_goals
      have hq1 := hc.cell (.inl (by omega)) hq
      refine leaves_cons (f := 203) (args := #[.pointer (some ⟨w.heap.size, 0, none⟩)]) (by simp) (by simp [go_sem]) ?_
      refine (catch_text_idle hq1).mono ?_
      rintro e u' w9 ⟨rfl, rfl, rfl⟩
      refine ⟨.string (ofNats t), by simp [results, Tryz.results158, go_sem], rfl, (((Cel.of_below hba).drew).trans hc).drew, hd.drew⟩
  | bad c =>
    have HV := hid hv
    clear hv
    go_enter_defers Tryz.func158, Tryz.ntmps158
    go_wp2_with fail
    refine wp_region_lin [[0, 1, 2, 3, 4], [1, 0, 2, 3, 4], [1, 2, 0, 3, 4]] (Checked.mixed Tryz.checked) (by kernel_rfl) ?_
    simp only [List.mem_cons, List.not_mem_nil, or_false, forall_eq_or_imp, forall_eq]
    refine ⟨wpOps_forall (.cons rfl (.cons rfl (.cons rfl (.cons rfl (.cons rfl .nil))))) ?_, wpOps_forall (.cons rfl (.cons rfl (.cons rfl (.cons rfl (.cons rfl .nil))))) ?_, wpOps_forall (.cons rfl (.cons rfl (.cons rfl (.cons rfl (.cons rfl .nil))))) ?_⟩
    all_goals simp only [List.getElem_toArray, List.getElem_cons_zero, List.getElem_cons_succ]
    all_goals go_wp2_with (first | (go_at_call 205; refine (nbz_is hm1 hm2 HMN.out).mono ?_; rintro e w1 ⟨rfl, rfl⟩) | (go_at_call 204; (try rw [hwd]); refine (dtext_any H.out.drew hl).mono ?_; rw [HV.out]; rintro e w1 ⟨rfl, hc, q, hd⟩))
    all_goals
      have hq1 := hc.cell (.inl (by omega)) hq
      refine leaves_cons (f := 203) (args := #[.pointer (some ⟨w.heap.size, 0, none⟩)]) (by simp) (by simp [go_sem]) ?_
      refine (catch_text_bad hq1 hd).mono ?_
      rintro e u' w9 ⟨rfl, rfl, hc9, hd9⟩
      refine ⟨.string { data := #[] }, by simp [results, Tryz.results158, go_sem], rfl, (((Cel.of_below hba).drew).trans hc).trans hc9, hd9⟩
theorem tText_txt (m : Nat) (s : List Nat) : tText m (.at s) = match txt m s with
    | .ok t q => (t, .at q)
    | .bad c => ([], .stop c) := by
  simp only [tText, txt]
  cases vdec m s with
  | ok v r =>
    simp only [tRaw]
    by_cases h : r.length < v
    · simp [h]
    · simp [h]
  | short => rfl
  | form => rfl
theorem txt_bad {m : Nat} {s : List Nat} {c : Int} (h : txt m s = .bad c) : c ≠ 0 := by
  unfold txt at h
  split at h
  · split at h
    · injection h with h; subst h; decide
    · cases h
  · injection h with h; subst h; decide
  · injection h with h; subst h; decide
theorem txt_nil (m : Nat) : txt m [] = .bad 30 := rfl
theorem dtext_is {w : World} {b o : Nat} {m : Int} {t : List Nat} {d d' : Ds} (h : DecAt w b o d) (hm1 : -9223372036854775808 ≤ m) (hm2 : m ≤ 9223372036854775807) (hl : d.left.length ≤ 9223372036854775807) (hv : tText m.toNat d = (t, d')) :
    Calls Tryz.prog 158 #[.pointer (some ⟨b, o, none⟩), .int .i64 m] w fun e w' => e = .returned (.string (ofNats t)) ∧ Cel b o 2 w w' ∧ DecAt w' b o d' := by
  have hok := h.ok
  refine (dtext_raw h.raw hm1 hm2 hl).mono ?_
  intro e w'
  cases d with
  | stop c =>
    have hc : c ≠ 0 := hok
    simp only [tText] at hv
    injection hv with h1 h2
    subst h1 h2
    have e1 : stopR (Ds.stop c).num 30 = c := if_neg hc
    simp only [Ds.left, txt_nil, e1]
    rintro ⟨h1, h2, h3⟩
    exact ⟨h1, h2, h3, hc⟩
  | «at» s =>
    rw [tText_txt] at hv
    simp only [Ds.left]
    cases hx : txt m.toNat s with
    | ok t' q =>
      rw [hx] at hv
      injection hv with h1 h2
      subst h1 h2
      rintro ⟨h1, h2, h3⟩
      exact ⟨h1, h2, h3, trivial⟩
    | bad c =>
      rw [hx] at hv
      injection hv with h1 h2
      subst h1 h2
      rintro ⟨h1, h2, h3⟩
      exact ⟨h1, h2, h3, txt_bad hx⟩
end Go.Proofs.YtofpaldolcnmiaaGreat
namespace Go.Proofs.YtofpaldolcnmiaaGreat
open Go.RowKit Go.Sort
set_option maxHeartbeats 400000 in
theorem dflag_ok {w : World} {b o x : Nat} {t : List Nat} {r : Int} (h : DecR w b o (x :: t) r) (hx : x = 0 ∨ x = 1) (hl : t.length + 1 ≤ 9223372036854775807) :
    Calls Tryz.prog 159 #[.pointer (some ⟨b, o, none⟩)] w fun e w' => e = .returned (.bool (decide (x = 1))) ∧ Cel b o 2 w w' ∧ DecR w' b o t r := by
  have hmf : ∀ (fn : Fn) (first cap : Array Value) (w : World), (Instr.makeFunc fn first cap).run Tryz.prog w = .ok (.func fn first cap) w := fun _ _ _ _ => rfl
  obtain ⟨wa, hwa⟩ : ∃ wa, wa = w.alloc (.cells #[.pointer (some ⟨b, o, none⟩)] 73) := ⟨_, rfl⟩
  have hba : Below w.heap.size w wa := by rw [hwa]; exact Below.al (Below.refl _ _) _
  have H := hid (h.later hba)
  have hq : wa.cell? ⟨w.heap.size, 0, none⟩ = some (.pointer (some ⟨b, o, none⟩)) := by rw [hwa]; simp [go_sem]
  have hbl := h.lt
  have HWA := hid hwa
  clear h hwa
  rcases hx with rfl | rfl
  all_goals
    go_enter_defers Tryz.func159, Tryz.ntmps159
    go_wp2_with (rw [← HWA.out]; go_at_call 202; refine (next_ok H.out hl).mono ?_; rintro e w1 ⟨rfl, hc, hd⟩)
    have hq1 := hc.cell (.inl (by omega)) hq
    refine leaves_cons (f := 206) (args := #[.pointer (some ⟨w.heap.size, 0, none⟩)]) (by simp) (by simp [go_sem]) ?_
    refine (catch_flag_idle hq1).mono ?_
    rintro e u' w9 ⟨rfl, rfl, rfl⟩
    refine ⟨_, by simp [results, Tryz.results159, go_sem], rfl, ((Cel.of_below hba).trans hc).drew, hd.drew⟩
set_option maxHeartbeats 400000 in
theorem dflag_form {w : World} {b o x : Nat} {t : List Nat} {r : Int} (h : DecR w b o (x :: t) r) (hx : ¬ (x = 0 ∨ x = 1)) (hl : t.length + 1 ≤ 9223372036854775807) :
    Calls Tryz.prog 159 #[.pointer (some ⟨b, o, none⟩)] w fun e w' => e = .returned (.bool false) ∧ Cel b o 2 w w' ∧ DecR w' b o [] (stopR r 31) := by
  have e1 : ((x : Int) != 1) = true := by simp; omega
  have e0 : ((x : Int) != 0) = true := by simp; omega
  have f1 : decide ((x : Int) = 1) = false := by simp; omega
  have f0 : decide ((x : Int) = 0) = false := by simp; omega
  have hmf : ∀ (fn : Fn) (first cap : Array Value) (w : World), (Instr.makeFunc fn first cap).run Tryz.prog w = .ok (.func fn first cap) w := fun _ _ _ _ => rfl
  obtain ⟨wa, hwa⟩ : ∃ wa, wa = w.alloc (.cells #[.pointer (some ⟨b, o, none⟩)] 73) := ⟨_, rfl⟩
  have hba : Below w.heap.size w wa := by rw [hwa]; exact Below.al (Below.refl _ _) _
  have H := hid (h.later hba)
  have hq : wa.cell? ⟨w.heap.size, 0, none⟩ = some (.pointer (some ⟨b, o, none⟩)) := by rw [hwa]; simp [go_sem]
  have hbl := h.lt
  have HWA := hid hwa
  clear h hwa
  have HX := hid hx
  clear hx
  go_enter_defers Tryz.func159, Tryz.ntmps159
  go_wp2_with (rw [← HWA.out]; go_at_call 202; refine (next_ok H.out hl).mono ?_; rintro e w1 ⟨rfl, hc, hd⟩)
  have hq1 := hc.cell (.inl (by omega)) hq
  refine leaves_cons (f := 206) (args := #[.pointer (some ⟨w.heap.size, 0, none⟩)]) (by simp) (by simp [go_sem]) ?_
  refine (catch_flag_bad hq1 hd).mono ?_
  rintro e u' w9 ⟨rfl, rfl, hc9, hd9⟩
  refine ⟨.bool false, by simp [results, Tryz.results159, go_sem], rfl, ((Cel.of_below hba).trans hc).trans hc9, hd9⟩
set_option maxHeartbeats 400000 in
theorem dflag_bad {w : World} {b o : Nat} {r : Int} (h : DecR w b o [] r) :
    Calls Tryz.prog 159 #[.pointer (some ⟨b, o, none⟩)] w fun e w' => e = .returned (.bool false) ∧ Cel b o 2 w w' ∧ DecR w' b o [] (stopR r 30) := by
  have hmf : ∀ (fn : Fn) (first cap : Array Value) (w : World), (Instr.makeFunc fn first cap).run Tryz.prog w = .ok (.func fn first cap) w := fun _ _ _ _ => rfl
  obtain ⟨wa, hwa⟩ : ∃ wa, wa = w.alloc (.cells #[.pointer (some ⟨b, o, none⟩)] 73) := ⟨_, rfl⟩
  have hba : Below w.heap.size w wa := by rw [hwa]; exact Below.al (Below.refl _ _) _
  have H := hid (h.later hba)
  have hq : wa.cell? ⟨w.heap.size, 0, none⟩ = some (.pointer (some ⟨b, o, none⟩)) := by rw [hwa]; simp [go_sem]
  have hbl := h.lt
  have HWA := hid hwa
  clear h hwa
  go_enter_defers Tryz.func159, Tryz.ntmps159
  go_wp2_with (rw [← HWA.out]; go_at_call 202; refine (next_bad H.out).mono ?_; rintro e w1 ⟨rfl, rfl⟩)
  have hq1 := hq
  have hd := H.out
  refine leaves_cons (f := 206) (args := #[.pointer (some ⟨w.heap.size, 0, none⟩)]) (by simp) (by simp [go_sem]) ?_
  refine (catch_flag_bad hq1 hd).mono ?_
  rintro e u' w9 ⟨rfl, rfl, hc9, hd9⟩
  refine ⟨.bool false, by simp [results, Tryz.results159, go_sem], rfl, (Cel.of_below hba).trans hc9, hd9⟩
theorem dflag_is {w : World} {b o : Nat} {x : Bool} {d d' : Ds} (h : DecAt w b o d) (hl : d.left.length ≤ 9223372036854775807) (hv : tFlag d = (x, d')) :
    Calls Tryz.prog 159 #[.pointer (some ⟨b, o, none⟩)] w fun e w' => e = .returned (.bool x) ∧ Cel b o 2 w w' ∧ DecAt w' b o d' := by
  have hok := h.ok
  cases d with
  | stop c =>
    have hc : c ≠ 0 := hok
    simp only [tFlag] at hv
    injection hv with h1 h2
    subst h1 h2
    refine (dflag_bad h.raw).mono ?_
    rintro e w' ⟨h1, h2, h3⟩
    have e1 : stopR (Ds.stop c).num 30 = c := if_neg hc
    rw [e1] at h3
    exact ⟨h1, h2, h3, hc⟩
  | «at» s =>
    cases s with
    | nil =>
      simp only [tFlag] at hv
      injection hv with h1 h2
      subst h1 h2
      refine (dflag_bad h.raw).mono ?_
      rintro e w' ⟨h1, h2, h3⟩
      exact ⟨h1, h2, h3, show (30 : Int) ≠ 0 by decide⟩
    | cons y t =>
      by_cases hy : y = 0 ∨ y = 1
      · have hv' : x = decide (y = 1) ∧ d' = .at t := by
          rcases hy with rfl | rfl
          · simp only [tFlag, if_true] at hv
            injection hv with h1 h2
            exact ⟨h1.symm, h2.symm⟩
          · have hv2 : (true, Ds.at t) = (x, d') := hv
            injection hv2 with h1 h2
            exact ⟨h1.symm, h2.symm⟩
        obtain ⟨rfl, rfl⟩ := hv'
        refine (dflag_ok h.raw hy hl).mono ?_
        rintro e w' ⟨h1, h2, h3⟩
        exact ⟨h1, h2, h3, trivial⟩
      · have h0 : ¬ y = 0 := fun e => hy (.inl e)
        have h1' : ¬ y = 1 := fun e => hy (.inr e)
        simp only [tFlag, h0, h1', if_false] at hv
        injection hv with h1 h2
        subst h1 h2
        refine (dflag_form h.raw hy hl).mono ?_
        rintro e w' ⟨h1, h2, h3⟩
        exact ⟨h1, h2, h3, show (31 : Int) ≠ 0 by decide⟩
end Go.Proofs.YtofpaldolcnmiaaGreat
namespace Go.Proofs.YtofpaldolcnmiaaGreat
open Go.RowKit Go.Sort
set_option maxHeartbeats 400000 in
theorem dbyte_ok {w : World} {b o x : Nat} {t : List Nat} {r : Int} (h : DecR w b o (x :: t) r) (hl : t.length + 1 ≤ 9223372036854775807) :
    Calls Tryz.prog 157 #[.pointer (some ⟨b, o, none⟩)] w fun e w' => e = .returned (.int .u8 (x : Int)) ∧ Cel b o 2 w w' ∧ DecR w' b o t r := by
  have hmf : ∀ (fn : Fn) (first cap : Array Value) (w : World), (Instr.makeFunc fn first cap).run Tryz.prog w = .ok (.func fn first cap) w := fun _ _ _ _ => rfl
  obtain ⟨wa, hwa⟩ : ∃ wa, wa = w.alloc (.cells #[.pointer (some ⟨b, o, none⟩)] 73) := ⟨_, rfl⟩
  have hba : Below w.heap.size w wa := by rw [hwa]; exact Below.al (Below.refl _ _) _
  have H := hid (h.later hba)
  have hq : wa.cell? ⟨w.heap.size, 0, none⟩ = some (.pointer (some ⟨b, o, none⟩)) := by rw [hwa]; simp [go_sem]
  have hbl := h.lt
  have HWA := hid hwa
  clear h hwa
  go_enter_defers Tryz.func157, Tryz.ntmps157
  go_wp2_with (rw [← HWA.out]; go_at_call 202; refine (next_ok H.out hl).mono ?_; rintro e w1 ⟨rfl, hc, hd⟩)
  have hq1 := hc.cell (.inl (by omega)) hq
  refine leaves_cons (f := 201) (args := #[.pointer (some ⟨w.heap.size, 0, none⟩)]) (by simp) (by simp [go_sem]) ?_
  refine (catch_byte_idle hq1).mono ?_
  rintro e u' w9 ⟨rfl, rfl, rfl⟩
  refine ⟨.int .u8 x, by simp [results, Tryz.results157, go_sem], rfl, ((Cel.of_below hba).trans hc).drew, hd.drew⟩
set_option maxHeartbeats 400000 in
theorem dbyte_bad {w : World} {b o : Nat} {r : Int} (h : DecR w b o [] r) :
    Calls Tryz.prog 157 #[.pointer (some ⟨b, o, none⟩)] w fun e w' => e = .returned (.int .u8 0) ∧ Cel b o 2 w w' ∧ DecR w' b o [] (stopR r 30) := by
  have hmf : ∀ (fn : Fn) (first cap : Array Value) (w : World), (Instr.makeFunc fn first cap).run Tryz.prog w = .ok (.func fn first cap) w := fun _ _ _ _ => rfl
  obtain ⟨wa, hwa⟩ : ∃ wa, wa = w.alloc (.cells #[.pointer (some ⟨b, o, none⟩)] 73) := ⟨_, rfl⟩
  have hba : Below w.heap.size w wa := by rw [hwa]; exact Below.al (Below.refl _ _) _
  have H := hid (h.later hba)
  have hq : wa.cell? ⟨w.heap.size, 0, none⟩ = some (.pointer (some ⟨b, o, none⟩)) := by rw [hwa]; simp [go_sem]
  have hbl := h.lt
  have HWA := hid hwa
  clear h hwa
  go_enter_defers Tryz.func157, Tryz.ntmps157
  go_wp2_with (rw [← HWA.out]; go_at_call 202; refine (next_bad H.out).mono ?_; rintro e w1 ⟨rfl, rfl⟩)
  have hq1 := hq
  have hd := H.out
  refine leaves_cons (f := 201) (args := #[.pointer (some ⟨w.heap.size, 0, none⟩)]) (by simp) (by simp [go_sem]) ?_
  refine (catch_byte_bad hq1 hd).mono ?_
  rintro e u' w9 ⟨rfl, rfl, hc9, hd9⟩
  refine ⟨.int .u8 0, by simp [results, Tryz.results157, go_sem], rfl, (Cel.of_below hba).trans hc9, hd9⟩
theorem dbyte_is {w : World} {b o x : Nat} {d d' : Ds} (h : DecAt w b o d) (hl : d.left.length ≤ 9223372036854775807) (hv : tByte d = (x, d')) :
    Calls Tryz.prog 157 #[.pointer (some ⟨b, o, none⟩)] w fun e w' => e = .returned (.int .u8 (x : Int)) ∧ Cel b o 2 w w' ∧ DecAt w' b o d' := by
  have hok := h.ok
  cases d with
  | stop c =>
    have hc : c ≠ 0 := hok
    simp only [tByte] at hv
    injection hv with h1 h2
    subst h1 h2
    refine (dbyte_bad h.raw).mono ?_
    rintro e w' ⟨h1, h2, h3⟩
    have e1 : stopR (Ds.stop c).num 30 = c := if_neg hc
    rw [e1] at h3
    exact ⟨h1, h2, h3, hc⟩
  | «at» s =>
    cases s with
    | nil =>
      simp only [tByte] at hv
      injection hv with h1 h2
      subst h1 h2
      refine (dbyte_bad h.raw).mono ?_
      rintro e w' ⟨h1, h2, h3⟩
      exact ⟨h1, h2, h3, show (30 : Int) ≠ 0 by decide⟩
    | cons y t =>
      simp only [tByte] at hv
      injection hv with h1 h2
      subst h1 h2
      refine (dbyte_ok h.raw hl).mono ?_
      rintro e w' ⟨h1, h2, h3⟩
      exact ⟨h1, h2, h3, trivial⟩
end Go.Proofs.YtofpaldolcnmiaaGreat
namespace Go.Proofs.YtofpaldolcnmiaaGreat
open Go.RowKit Go.Sort
theorem catch_var_bad {w : World} {b o q : Nat} {s : List Nat} {r c : Int} {older : List PanicEntry} (hq : w.cell? ⟨q, 0, none⟩ = some (.pointer (some ⟨b, o, none⟩))) (h : DecR w b o s r) :
    CallsD Tryz.prog 145 #[.pointer (some ⟨q, 0, none⟩)] (.panicking (fault c :: older)) w fun e u' w' =>
      e = .returned (.tuple #[]) ∧ u' = .panicking (fault' c :: older) ∧ Cel b o 2 w w' ∧ DecR w' b o [] (stopR r c) := by
  refine callsD_of_wpS Tryz.func145 rfl fun c₀ cs hu => ?_
  apply wpS_region_draw
  intro t
  have h' : DecR w.drew b o s r := ⟨h.c0, h.c1, h.b8, h.loose⟩
  change wpOpsS _ (cOps "dec.go:40") _ (Region.schedule _ (cOps "dec.go:40") t) _ _ _
  rcases c_orders "dec.go:40" (Tryz.prog.follows Departure.mixedOrders) t with e | e
  all_goals
    rw [e]
    simp [wpOpsS, cOps, go_sem, recoverD, hu, Tryz.ntmps145, hq]
    refine (stop_fault h').mono ?_
    rintro e1 w1 ⟨rfl, hc, hd⟩
    exact ⟨rfl, _, rfl, _, results_none rfl _ _ _, rfl, rfl, (Cel.refl b o 2 w).drew.trans hc, hd⟩
theorem catch_var_idle {w : World} {b o q : Nat} (hq : w.cell? ⟨q, 0, none⟩ = some (.pointer (some ⟨b, o, none⟩))) :
    CallsD Tryz.prog 145 #[.pointer (some ⟨q, 0, none⟩)] .returning w fun e u' w' => e = .returned (.tuple #[]) ∧ u' = .returning ∧ w' = w.drew := by
  refine callsD_of_wpS Tryz.func145 rfl fun c₀ cs hu => ?_
  apply wpS_region_draw
  intro t
  change wpOpsS _ (cOps "dec.go:40") _ (Region.schedule _ (cOps "dec.go:40") t) _ _ _
  rcases c_orders "dec.go:40" (Tryz.prog.follows Departure.mixedOrders) t with e | e
  all_goals
    rw [e]
    simp [wpOpsS, cOps, go_sem, recoverD, hu, Tryz.ntmps145, hq]
    refine stop_nil.mono ?_
    rintro e1 w1 ⟨rfl, rfl⟩
    refine ⟨rfl, .returning, ?_, _, results_none rfl _ _ _, rfl, rfl, rfl⟩
    cases c₀
    simp_all
end Go.Proofs.YtofpaldolcnmiaaGreat
namespace Go.Proofs.YtofpaldolcnmiaaGreat
open Go.RowKit Go.Sort
set_option maxHeartbeats 400000 in
theorem dvar_raw {w : World} {b o m : Nat} {s : List Nat} {r : Int} (h : DecR w b o s r) (hl : s.length ≤ 9223372036854775807) :
    Calls Tryz.prog 74 #[.pointer (some ⟨b, o, none⟩), .int .u64 (m : Int)] w fun e w' => match vdec m s with
      | .ok v t => e = .returned (.int .u64 (v : Int)) ∧ Cel b o 2 w w' ∧ DecR w' b o t r
      | .short => e = .returned (.int .u64 0) ∧ Cel b o 2 w w' ∧ DecR w' b o [] (stopR r 30)
      | .form => e = .returned (.int .u64 0) ∧ Cel b o 2 w w' ∧ DecR w' b o [] (stopR r 31) := by
  have hmf : ∀ (fn : Fn) (first cap : Array Value) (w : World), (Instr.makeFunc fn first cap).run Tryz.prog w = .ok (.func fn first cap) w := fun _ _ _ _ => rfl
  obtain ⟨wa, hwa⟩ : ∃ wa, wa = w.alloc (.cells #[.pointer (some ⟨b, o, none⟩)] 73) := ⟨_, rfl⟩
  have hba : Below w.heap.size w wa := by rw [hwa]; exact Below.al (Below.refl _ _) _
  have H := hid (h.later hba)
  have hq : wa.cell? ⟨w.heap.size, 0, none⟩ = some (.pointer (some ⟨b, o, none⟩)) := by rw [hwa]; simp [go_sem]
  have hbl := h.lt
  have HWA := hid hwa
  clear h hwa
  cases hv : vdec m s with
  | ok v t =>
    have HV := hid hv
    clear hv
    go_enter_defers Tryz.func74, Tryz.ntmps74
    go_wp2_with (rw [← HWA.out]; go_at_call 147; refine (dnumber_any H.out hl).mono ?_; rw [HV.out]; rintro e w1 ⟨rfl, hc, hd⟩)
    have hq1 := hc.cell (.inl (by omega)) hq
    refine leaves_cons (f := 145) (args := #[.pointer (some ⟨w.heap.size, 0, none⟩)]) (by simp) (by simp [go_sem]) ?_
    refine (catch_var_idle hq1).mono ?_
    rintro e u' w2 ⟨rfl, rfl, rfl⟩
    refine ⟨.int .u64 v, by simp [results, Tryz.results74, go_sem], rfl, ((Cel.of_below hba).trans hc).drew, ⟨hd.c0, hd.c1, hd.b8, hd.loose⟩⟩
  | short =>
    have HV := hid hv
    clear hv
    go_enter_defers Tryz.func74, Tryz.ntmps74
    go_wp2_with (rw [← HWA.out]; go_at_call 147; refine (dnumber_any H.out hl).mono ?_; rw [HV.out]; rintro e w1 ⟨rfl, hc, t, hd⟩)
    have hq1 := hc.cell (.inl (by omega)) hq
    refine leaves_cons (f := 145) (args := #[.pointer (some ⟨w.heap.size, 0, none⟩)]) (by simp) (by simp [go_sem]) ?_
    refine (catch_var_bad hq1 hd).mono ?_
    rintro e u' w2 ⟨rfl, rfl, hc2, hd2⟩
    refine ⟨.int .u64 0, by simp [results, Tryz.results74, go_sem], rfl, ((Cel.of_below hba).trans hc).trans hc2, hd2⟩
  | form =>
    have HV := hid hv
    clear hv
    go_enter_defers Tryz.func74, Tryz.ntmps74
    go_wp2_with (rw [← HWA.out]; go_at_call 147; refine (dnumber_any H.out hl).mono ?_; rw [HV.out]; rintro e w1 ⟨rfl, hc, t, hd⟩)
    have hq1 := hc.cell (.inl (by omega)) hq
    refine leaves_cons (f := 145) (args := #[.pointer (some ⟨w.heap.size, 0, none⟩)]) (by simp) (by simp [go_sem]) ?_
    refine (catch_var_bad hq1 hd).mono ?_
    rintro e u' w2 ⟨rfl, rfl, hc2, hd2⟩
    refine ⟨.int .u64 0, by simp [results, Tryz.results74, go_sem], rfl, ((Cel.of_below hba).trans hc).trans hc2, hd2⟩
theorem dvar_any {w : World} {b o m : Nat} {d : Ds} (h : DecAt w b o d) (hl : d.left.length ≤ 9223372036854775807) :
    Calls Tryz.prog 74 #[.pointer (some ⟨b, o, none⟩), .int .u64 (m : Int)] w fun e w' => e = .returned (.int .u64 ((tVar m d).1 : Int)) ∧ Cel b o 2 w w' ∧ DecAt w' b o (tVar m d).2 := by
  refine (dvar_raw (m := m) h.raw hl).mono ?_
  intro e w'
  have hok := h.ok
  cases d with
  | stop c =>
    have hc : c ≠ 0 := hok
    simp only [Ds.left, Ds.num, vdec, vgo, tVar, stopR, hc, if_false]
    rintro ⟨h1, h2, h3⟩
    exact ⟨h1, h2, h3, hc⟩
  | «at» s =>
    simp only [Ds.left, Ds.num, tVar, stopR, if_true]
    cases vdec m s with
    | ok v t => rintro ⟨h1, h2, h3⟩; exact ⟨h1, h2, h3, trivial⟩
    | short => rintro ⟨h1, h2, h3⟩; exact ⟨h1, h2, h3, show (30 : Int) ≠ 0 by decide⟩
    | form => rintro ⟨h1, h2, h3⟩; exact ⟨h1, h2, h3, show (31 : Int) ≠ 0 by decide⟩
end Go.Proofs.YtofpaldolcnmiaaGreat
