import Derived.Test.YtchfoipkaookmabDoorWCatch
import Derived.Test.YtchfoipkaookmabDoorWOrders
import Derived.Test.YtchfoipkaookmabDoorWText
namespace Go.Proofs.YtchfoipkaookmabDoor
open Go.RowKit Go.Sort
set_option linter.unusedVariables false

set_option maxHeartbeats 400000 in
theorem draw_ok {w : World} {b o : Nat} {m : Int} {s : List Nat} {r : Int} (h : DecR w b o s r) (hm1 : -9223372036854775808 ≤ m) (hm2 : m ≤ 9223372036854775807) (hl : s.length ≤ 9223372036854775807) (hn : m.toNat ≤ s.length) :
    Calls Tryd.prog 26 #[.pointer (some ⟨b, o, none⟩), .int .i64 m] w fun e w' => e = .returned (.string (ofNats (s.take m.toNat))) ∧ Cel b o 2 w w' ∧ DecR w' b o (s.drop m.toNat) r := by
  have hmf : ∀ (fn : Fn) (first cap : Array Value) (w : World), (Instr.makeFunc fn first cap).run Tryd.prog w = .ok (.func fn first cap) w := fun _ _ _ _ => rfl
  obtain ⟨wa, hwa⟩ : ∃ wa, wa = w.alloc (.cells #[.pointer (some ⟨b, o, none⟩)] 32) := ⟨_, rfl⟩
  have hba : Below w.heap.size w wa := by rw [hwa]; exact Below.al (Below.refl _ _) _
  have H := hid (h.later hba)
  have hq : wa.cell? ⟨w.heap.size, 0, none⟩ = some (.pointer (some ⟨b, o, none⟩)) := by rw [hwa]; simp [go_sem]
  have hbl := h.lt
  have HWA := hid hwa
  clear h hwa
  obtain ⟨k, hk⟩ : ∃ k, m.toNat = k := ⟨_, rfl⟩
  have HMN := hid hk
  rw [hk] at hn ⊢
  clear hk
  have hwd : (w.alloc (.cells #[.pointer (some ⟨b, o, none⟩)] 32)).drew = wa.drew := by rw [HWA.out]
  have HN := hid hn
  clear hn
  go_enter_defers Tryd.func26, Tryd.ntmps26
  go_wp2_with fail
  refine wp_region_lin [[0, 1, 2, 3, 4], [1, 0, 2, 3, 4], [1, 2, 0, 3, 4]] (Checked.mixed Tryd.checked) (by kernel_rfl) ?_
  simp only [List.mem_cons, List.not_mem_nil, or_false, forall_eq_or_imp, forall_eq]
  refine ⟨wpOps_forall (.cons rfl (.cons rfl (.cons rfl (.cons rfl (.cons rfl .nil))))) ?_, wpOps_forall (.cons rfl (.cons rfl (.cons rfl (.cons rfl (.cons rfl .nil))))) ?_, wpOps_forall (.cons rfl (.cons rfl (.cons rfl (.cons rfl (.cons rfl .nil))))) ?_⟩
  all_goals simp only [List.getElem_toArray, List.getElem_cons_zero, List.getElem_cons_succ]
  all_goals go_wp2_with (first | (go_at_call 40; refine (nbz_is hm1 hm2 HMN.out).mono ?_; rintro e w1 ⟨rfl, rfl⟩) | (go_at_call 43; (try rw [hwd]); refine (take_ok H.out.drew HN.out hl).mono ?_; rintro e w1 ⟨rfl, hc, hd⟩))
  all_goals
    have hq1 := hc.cell (.inl (by omega)) hq
    refine leaves_cons (f := 42) (args := #[.pointer (some ⟨w.heap.size, 0, none⟩)]) (by simp) (by simp [go_sem]) ?_
    refine (catch_raw_idle hq1).mono ?_
    rintro e u' w9 ⟨rfl, rfl, rfl⟩
    refine ⟨.string (ofNats (s.take k)), by simp [results, Tryd.results26, go_sem], rfl, (((Cel.of_below hba).drew).trans hc).drew, hd.drew⟩

set_option maxHeartbeats 400000 in
theorem draw_bad {w : World} {b o : Nat} {m : Int} {s : List Nat} {r : Int} (h : DecR w b o s r) (hm1 : -9223372036854775808 ≤ m) (hm2 : m ≤ 9223372036854775807) (hl : s.length ≤ 9223372036854775807) (hn : s.length < m.toNat) :
    Calls Tryd.prog 26 #[.pointer (some ⟨b, o, none⟩), .int .i64 m] w fun e w' => e = .returned (.string (ofNats [])) ∧ Cel b o 2 w w' ∧ DecR w' b o [] (stopR r 30) := by
  have hmf : ∀ (fn : Fn) (first cap : Array Value) (w : World), (Instr.makeFunc fn first cap).run Tryd.prog w = .ok (.func fn first cap) w := fun _ _ _ _ => rfl
  obtain ⟨wa, hwa⟩ : ∃ wa, wa = w.alloc (.cells #[.pointer (some ⟨b, o, none⟩)] 32) := ⟨_, rfl⟩
  have hba : Below w.heap.size w wa := by rw [hwa]; exact Below.al (Below.refl _ _) _
  have H := hid (h.later hba)
  have hq : wa.cell? ⟨w.heap.size, 0, none⟩ = some (.pointer (some ⟨b, o, none⟩)) := by rw [hwa]; simp [go_sem]
  have hbl := h.lt
  have HWA := hid hwa
  clear h hwa
  obtain ⟨k, hk⟩ : ∃ k, m.toNat = k := ⟨_, rfl⟩
  have HMN := hid hk
  rw [hk] at hn
  clear hk
  have hwd : (w.alloc (.cells #[.pointer (some ⟨b, o, none⟩)] 32)).drew = wa.drew := by rw [HWA.out]
  have HN := hid hn
  clear hn
  go_enter_defers Tryd.func26, Tryd.ntmps26
  go_wp2_with fail
  refine wp_region_lin [[0, 1, 2, 3, 4], [1, 0, 2, 3, 4], [1, 2, 0, 3, 4]] (Checked.mixed Tryd.checked) (by kernel_rfl) ?_
  simp only [List.mem_cons, List.not_mem_nil, or_false, forall_eq_or_imp, forall_eq]
  refine ⟨wpOps_forall (.cons rfl (.cons rfl (.cons rfl (.cons rfl (.cons rfl .nil))))) ?_, wpOps_forall (.cons rfl (.cons rfl (.cons rfl (.cons rfl (.cons rfl .nil))))) ?_, wpOps_forall (.cons rfl (.cons rfl (.cons rfl (.cons rfl (.cons rfl .nil))))) ?_⟩
  all_goals simp only [List.getElem_toArray, List.getElem_cons_zero, List.getElem_cons_succ]
  all_goals go_wp2_with (first | (go_at_call 40; refine (nbz_is hm1 hm2 HMN.out).mono ?_; rintro e w1 ⟨rfl, rfl⟩) | (go_at_call 43; (try rw [hwd]); refine (take_bad H.out.drew HN.out hl).mono ?_; rintro e w1 ⟨rfl, rfl⟩))
  all_goals
    have hq1 : wa.drew.cell? ⟨w.heap.size, 0, none⟩ = some (.pointer (some ⟨b, o, none⟩)) := hq
    have hd := H.out.drew
    refine leaves_cons (f := 42) (args := #[.pointer (some ⟨w.heap.size, 0, none⟩)]) (by simp) (by simp [go_sem]) ?_
    refine (catch_raw_bad hq1 hd).mono ?_
    rintro e u' w9 ⟨rfl, rfl, hc9, hd9⟩
    refine ⟨.string { data := #[] }, by simp [results, Tryd.results26, go_sem], rfl, ((Cel.of_below hba).drew).trans hc9, hd9⟩

/-- Raw(m): P3.3, P3.4 -/
theorem draw_is {w : World} {b o : Nat} {m : Int} {t : List Nat} {d d' : Ds} (h : DecAt w b o d) (hm1 : -9223372036854775808 ≤ m) (hm2 : m ≤ 9223372036854775807) (hl : d.left.length ≤ 9223372036854775807) (hv : tRaw m.toNat d = (t, d')) :
    Calls Tryd.prog 26 #[.pointer (some ⟨b, o, none⟩), .int .i64 m] w fun e w' => e = .returned (.string (ofNats t)) ∧ Cel b o 2 w w' ∧ DecAt w' b o d' := by
  have hok := h.ok
  cases d with
  | stop c =>
    have hc : c ≠ 0 := hok
    simp only [tRaw] at hv
    injection hv with h1 h2
    subst h1 h2
    by_cases hn : m.toNat ≤ ([] : List Nat).length
    · refine (draw_ok h.raw hm1 hm2 hl hn).mono ?_
      rintro e w' ⟨h1, h2, h3⟩
      simp only [Ds.left, List.take_nil, List.drop_nil] at h1 h3
      exact ⟨h1, h2, h3, hc⟩
    · refine (draw_bad h.raw hm1 hm2 hl (by simpa [Ds.left] using hn)).mono ?_
      rintro e w' ⟨h1, h2, h3⟩
      have e1 : stopR (Ds.stop c).num 30 = c := if_neg hc
      rw [e1] at h3
      exact ⟨h1, h2, h3, hc⟩
  | «at» s =>
    by_cases hn : s.length < m.toNat
    · simp only [tRaw, hn, if_true] at hv
      injection hv with h1 h2
      subst h1 h2
      refine (draw_bad h.raw hm1 hm2 hl hn).mono ?_
      rintro e w' ⟨h1, h2, h3⟩
      exact ⟨h1, h2, h3, show (30 : Int) ≠ 0 by decide⟩
    · simp only [tRaw, hn, if_false] at hv
      injection hv with h1 h2
      subst h1 h2
      refine (draw_ok h.raw hm1 hm2 hl (by show _ ≤ s.length; omega)).mono ?_
      rintro e w' ⟨h1, h2, h3⟩
      exact ⟨h1, h2, h3, trivial⟩

end Go.Proofs.YtchfoipkaookmabDoor
