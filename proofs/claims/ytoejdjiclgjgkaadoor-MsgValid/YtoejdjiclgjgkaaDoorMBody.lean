import Derived.Test.YtoejdjiclgjgkaaDoorMMake
import Derived.Test.YtoejdjiclgjgkaaDoorMMsg0
import Derived.Test.YtoejdjiclgjgkaaDoorMSame
namespace Go.Proofs.YtoejdjiclgjgkaaDoor
open Go.RowKit Go.Sort
set_option linter.unusedVariables false

set_option maxHeartbeats 4000000 in
/-- msg.validBody at any kind: its body's make, its valid and its message are handed in -/
theorem body_any {m n : Mg} {w : World} {b1 b2 : Bool} {D : TypeId} {F : FuncId} {vs : List Value}
    (hnew : ∀ w, Calls Tryd.prog 14 #[m.val] w fun e w' => ∃ q, e = .returned (.tuple #[.iface D (.pointer (some ⟨q, 0, none⟩)), .bool true]) ∧ At w' q 0 vs ∧ Below w.heap.size w w')
    (hmet : ∀ q w, (method 231 D (.pointer (some ⟨q, 0, none⟩)) "tidemark/msg.valid").run Tryd.prog w = .ok (F, .pointer (some ⟨q, 0, none⟩)) w)
    (hcall : ∀ q w, (callFunc F #[.pointer (some ⟨q, 0, none⟩)]).run Tryd.prog w = .ok (.enter F #[.pointer (some ⟨q, 0, none⟩)]) w)
    (hval : ∀ q w, At w q 0 vs → m.ok w → Calls Tryd.prog F #[.pointer (some ⟨q, 0, none⟩)] w fun e w' => e = .returned (.bool b1) ∧ Below w.heap.size w w')
    (hmsg : ∀ q w, At w q 0 vs → Calls Tryd.prog 16 #[.int .u32 m.f, .int .u32 m.t, .iface D (.pointer (some ⟨q, 0, none⟩))] w fun e w' => e = .returned n.val ∧ Below w.heap.size w w')
    (hS : sameM m n = b2) (hP : Part m n) (h : m.ok w) :
    Calls Tryd.prog 6 #[m.val] w fun e w' => (∃ v, e = .returned (.tuple #[v, .bool (b1 && b2)])) ∧ Below w.heap.size w w' := by
  have HN := hid hnew; have HME := hid hmet; have HC := hid hcall; have HV := hid hval; have HMS := hid hmsg; have H2 := hid hS; have HP := hid hP; have H := hid h
  clear hnew hmet hcall hval hmsg hS hP h
  go_enter Tryd.func6, Tryd.ntmps6
  go_wp2_with fail
  refine (HN.out _).mono ?_
  rintro e w1 ⟨q, rfl, hA, hw1⟩
  have hB := (boxM w m 35).later hw1
  replace hw1 := Below.on (Below.al (Below.refl _ _) _) hw1
  have HA := hid hA; have HW := hid hw1; have HM := hid (H.out.later hw1)
  clear hA hw1
  have ⟨c0, c1, c2, c3, c4, c5, c6, c7, c8, c9, c10, c11, c12, c13, c14⟩ := hB
  clear hB
  go_wp2_with fail
  have hi := HME.out q
  have hc := HC.out q
  cases b1
  · refine wp_region_quiet_below (by kernel_rfl) (by kernel_rfl) ?_
    repeat (go_big_quiet_step (exact Calls.regrown_of (HV.out q _ (HA.out.later (below_regrown _ _ _)) (HM.out.later (below_regrown _ _ _)))))
    refine wpQuiet_nil ?_
    intro w2 hw
    replace hw := below_of_regrown hw
    go_wp2_with fail
    go_ret2
    exact ⟨⟨_, rfl⟩, Below.on HW.out hw⟩
  · have k0 := cell_regrown c0; have k1 := cell_regrown c1; have k2 := cell_regrown c2; have k3 := cell_regrown c3; have k4 := cell_regrown c4; have k5 := cell_regrown c5; have k6 := cell_regrown c6; have k7 := cell_regrown c7; have k8 := cell_regrown c8; have k9 := cell_regrown c9; have k10 := cell_regrown c10; have k11 := cell_regrown c11; have k12 := cell_regrown c12; have k13 := cell_regrown c13; have k14 := cell_regrown c14
    clear c0 c1 c2 c3 c4 c5 c6 c7 c8 c9 c10 c11 c12 c13 c14
    refine wp_region_quiet_below (by kernel_rfl) (by kernel_rfl) ?_
    repeat (go_big_quiet_step (first | (go_at_call 16; exact Calls.regrown_of (HMS.out q _ (HA.out.later (below_regrown _ _ _)))) | (go_at_call 15; exact Calls.regrown_of (same_is (m := m) (n := n) H2.out (HM.out.later (below_regrown _ _ _)) HP.out)) | (exact Calls.regrown_of (HV.out q _ (HA.out.later (below_regrown _ _ _)) (HM.out.later (below_regrown _ _ _))))))
    refine wpQuiet_nil ?_
    intro w2 hw
    replace hw := below_of_regrown hw
    cases b2
    · go_wp2_with fail
      go_ret2
      exact ⟨⟨_, rfl⟩, Below.on HW.out hw⟩
    · go_wp2_with fail
      go_ret2
      exact ⟨⟨_, rfl⟩, Below.on HW.out hw⟩

end Go.Proofs.YtoejdjiclgjgkaaDoor
