import Derived.Test.YtchfoipkaookmabDoorWCatch
import Derived.Test.YtchfoipkaookmabDoorWOrders
import Derived.Test.YtchfoipkaookmabDoorWText
namespace Go.Proofs.YtchfoipkaookmabDoor
open Go.RowKit Go.Sort
set_option linter.unusedVariables false

set_option maxHeartbeats 400000 in
theorem dtext_raw {w : World} {b o : Nat} {m : Int} {s : List Nat} {r : Int} (h : DecR w b o s r) (hm1 : -9223372036854775808 ≤ m) (hm2 : m ≤ 9223372036854775807) (hl : s.length ≤ 9223372036854775807) :
    Calls Tryd.prog 22 #[.pointer (some ⟨b, o, none⟩), .int .i64 m] w fun e w' => match txt m.toNat s with
      | .ok t q => e = .returned (.string (ofNats t)) ∧ Cel b o 2 w w' ∧ DecR w' b o q r
      | .bad c => e = .returned (.string (ofNats [])) ∧ Cel b o 2 w w' ∧ DecR w' b o [] (stopR r c) := by
  have hmf : ∀ (fn : Fn) (first cap : Array Value) (w : World), (Instr.makeFunc fn first cap).run Tryd.prog w = .ok (.func fn first cap) w := fun _ _ _ _ => rfl
  obtain ⟨wa, hwa⟩ : ∃ wa, wa = w.alloc (.cells #[.pointer (some ⟨b, o, none⟩)] 32) := ⟨_, rfl⟩
  have hba : Below w.heap.size w wa := by rw [hwa]; exact Below.al (Below.refl _ _) _
  have H := hid (h.later hba)
  have hq : wa.cell? ⟨w.heap.size, 0, none⟩ = some (.pointer (some ⟨b, o, none⟩)) := by rw [hwa]; simp [go_sem]
  have hbl := h.lt
  have HWA := hid hwa
  clear h hwa
  obtain ⟨k, hk⟩ : ∃ k, m.toNat = k := ⟨_, rfl⟩
  have HMN := hid hk
  rw [hk]
  clear hk
  have hwd : (w.alloc (.cells #[.pointer (some ⟨b, o, none⟩)] 32)).drew = wa.drew := by rw [HWA.out]
  cases hv : txt k s with
  | ok t q =>
    have HV := hid hv
    clear hv
    go_enter_defers Tryd.func22, Tryd.ntmps22
    go_wp2_with fail
    refine wp_region_lin [[0, 1, 2, 3, 4], [1, 0, 2, 3, 4], [1, 2, 0, 3, 4]] (Checked.mixed Tryd.checked) (by kernel_rfl) ?_
    simp only [List.mem_cons, List.not_mem_nil, or_false, forall_eq_or_imp, forall_eq]
    refine ⟨wpOps_forall (.cons rfl (.cons rfl (.cons rfl (.cons rfl (.cons rfl .nil))))) ?_, wpOps_forall (.cons rfl (.cons rfl (.cons rfl (.cons rfl (.cons rfl .nil))))) ?_, wpOps_forall (.cons rfl (.cons rfl (.cons rfl (.cons rfl (.cons rfl .nil))))) ?_⟩
    all_goals simp only [List.getElem_toArray, List.getElem_cons_zero, List.getElem_cons_succ]
    all_goals go_wp2_with (first | (go_at_call 40; refine (nbz_is hm1 hm2 HMN.out).mono ?_; rintro e w1 ⟨rfl, rfl⟩) | (go_at_call 39; (try rw [hwd]); refine (dtext_any H.out.drew hl).mono ?_; rw [HV.out]; rintro e w1 ⟨rfl, hc, hd⟩))
    all_goals
      have hq1 := hc.cell (.inl (by omega)) hq
      refine leaves_cons (f := 38) (args := #[.pointer (some ⟨w.heap.size, 0, none⟩)]) (by simp) (by simp [go_sem]) ?_
      refine (catch_text_idle hq1).mono ?_
      rintro e u' w9 ⟨rfl, rfl, rfl⟩
      refine ⟨.string (ofNats t), by simp [results, Tryd.results22, go_sem], rfl, (((Cel.of_below hba).drew).trans hc).drew, hd.drew⟩
  | bad c =>
    have HV := hid hv
    clear hv
    go_enter_defers Tryd.func22, Tryd.ntmps22
    go_wp2_with fail
    refine wp_region_lin [[0, 1, 2, 3, 4], [1, 0, 2, 3, 4], [1, 2, 0, 3, 4]] (Checked.mixed Tryd.checked) (by kernel_rfl) ?_
    simp only [List.mem_cons, List.not_mem_nil, or_false, forall_eq_or_imp, forall_eq]
    refine ⟨wpOps_forall (.cons rfl (.cons rfl (.cons rfl (.cons rfl (.cons rfl .nil))))) ?_, wpOps_forall (.cons rfl (.cons rfl (.cons rfl (.cons rfl (.cons rfl .nil))))) ?_, wpOps_forall (.cons rfl (.cons rfl (.cons rfl (.cons rfl (.cons rfl .nil))))) ?_⟩
    all_goals simp only [List.getElem_toArray, List.getElem_cons_zero, List.getElem_cons_succ]
    all_goals go_wp2_with (first | (go_at_call 40; refine (nbz_is hm1 hm2 HMN.out).mono ?_; rintro e w1 ⟨rfl, rfl⟩) | (go_at_call 39; (try rw [hwd]); refine (dtext_any H.out.drew hl).mono ?_; rw [HV.out]; rintro e w1 ⟨rfl, hc, q, hd⟩))
    all_goals
      have hq1 := hc.cell (.inl (by omega)) hq
      refine leaves_cons (f := 38) (args := #[.pointer (some ⟨w.heap.size, 0, none⟩)]) (by simp) (by simp [go_sem]) ?_
      refine (catch_text_bad hq1 hd).mono ?_
      rintro e u' w9 ⟨rfl, rfl, hc9, hd9⟩
      refine ⟨.string { data := #[] }, by simp [results, Tryd.results22, go_sem], rfl, (((Cel.of_below hba).drew).trans hc).trans hc9, hd9⟩

theorem tText_txt (m : Nat) (s : List Nat) : tText m (.at s) = match txt m s with
    | .ok t q => (t, .at q)
    | .bad c => ([], .stop c) := by
  simp only [tText, txt]
  cases vdec m s with
  | ok v r =>
    simp only [tRaw]
    by_cases h : r.length < v
    · simp [h]
    · simp [h]
  | short => rfl
  | form => rfl
theorem txt_bad {m : Nat} {s : List Nat} {c : Int} (h : txt m s = .bad c) : c ≠ 0 := by
  unfold txt at h
  split at h
  · split at h
    · injection h with h; subst h; decide
    · cases h
  · injection h with h; subst h; decide
  · injection h with h; subst h; decide
theorem txt_nil (m : Nat) : txt m [] = .bad 30 := rfl

/-- Text(m): P3.3, P3.4 -/
theorem dtext_is {w : World} {b o : Nat} {m : Int} {t : List Nat} {d d' : Ds} (h : DecAt w b o d) (hm1 : -9223372036854775808 ≤ m) (hm2 : m ≤ 9223372036854775807) (hl : d.left.length ≤ 9223372036854775807) (hv : tText m.toNat d = (t, d')) :
    Calls Tryd.prog 22 #[.pointer (some ⟨b, o, none⟩), .int .i64 m] w fun e w' => e = .returned (.string (ofNats t)) ∧ Cel b o 2 w w' ∧ DecAt w' b o d' := by
  have hok := h.ok
  refine (dtext_raw h.raw hm1 hm2 hl).mono ?_
  intro e w'
  cases d with
  | stop c =>
    have hc : c ≠ 0 := hok
    simp only [tText] at hv
    injection hv with h1 h2
    subst h1 h2
    have e1 : stopR (Ds.stop c).num 30 = c := if_neg hc
    simp only [Ds.left, txt_nil, e1]
    rintro ⟨h1, h2, h3⟩
    exact ⟨h1, h2, h3, hc⟩
  | «at» s =>
    rw [tText_txt] at hv
    simp only [Ds.left]
    cases hx : txt m.toNat s with
    | ok t' q =>
      rw [hx] at hv
      injection hv with h1 h2
      subst h1 h2
      rintro ⟨h1, h2, h3⟩
      exact ⟨h1, h2, h3, trivial⟩
    | bad c =>
      rw [hx] at hv
      injection hv with h1 h2
      subst h1 h2
      rintro ⟨h1, h2, h3⟩
      exact ⟨h1, h2, h3, txt_bad hx⟩

end Go.Proofs.YtchfoipkaookmabDoor
