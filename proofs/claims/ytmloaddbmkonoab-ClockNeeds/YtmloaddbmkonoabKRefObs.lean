import Derived.Test.YtmloaddbmkonoabKRefLast
namespace Go.Proofs.Ytmloaddbmkonoab
open Go.RowKit Go.Sort
set_option linter.unusedVariables false

set_option maxHeartbeats 400000 in
theorem robserve_top (B : Nat) (x : Rd) (a b d : Int) (w : World) (H : Hid (RefAt w B x)) (ha : (a == 18446744073709551615) = true) :
    Calls Try.prog 16 #[.pointer (some ⟨x.d, 0, none⟩), stv a b d] w fun e w' => e = .returned (.int .i64 11) ∧ Below w.heap.size w w' := by
  go_enter Try.func16, Try.ntmps16
  go_wp2
  go_ret
  exact ⟨rfl, w3c_below _ _ _ _⟩

set_option maxHeartbeats 2000000 in
theorem robserve_in (B : Nat) (x : Rd) (a b d : Int) (w : World) (H : Hid (RefAt w B x)) (hB : B ≤ w.heap.size) (hlen : (x.ss.length + 1) * 16 ≤ 140737488355328) (ha : (a == 18446744073709551615) = false) :
    Calls Try.prog 16 #[.pointer (some ⟨x.d, 0, none⟩), stv a b d] w fun e w' => e = .returned (.int .i64 0) ∧ Onl x.has w w' ∧ ∃ g k, (g = x.g3 ∨ w.heap.size ≤ g) ∧ RefAt w' B { x with g3 := g, k3 := k, ss := x.ss ++ [⟨a, b, d⟩] } := by
  obtain ⟨i0, hi, hz0, hz1, hz2⟩ := info_parts Try.infoSt
  go_enter Try.func16, Try.ntmps16
  go_wp2_with fail
  obtain ⟨wa, hwa⟩ : ∃ wa, wa = w3c w a b d := ⟨_, rfl⟩
  have ba : Below w.heap.size w wa := by rw [hwa]; exact w3c_below _ _ _ _
  have A := w3c_at w a b d
  rw [← hwa] at A
  show Code.wp _ _ _ _ (w3c w a b d)
  rw [← hwa]
  have ⟨s0, s1, s2⟩ := A
  have Ha := H.out.later ba
  have c3 := Ha.c3
  have hne := Ha.d3
  have hda : x.d < wa.heap.size := Ha.lt
  have HHa := hid Ha
  have hqa : w.heap.size < wa.heap.size := A.lt
  have HB := hid (show B ≤ (w3c wa a b d).drew.heap.size from Nat.le_trans (Nat.le_trans hB ba.size) (w3c_below wa a b d).size)
  have Hbb := hid (show Below wa.heap.size wa (w3c wa a b d).drew from Below.drew (w3c_below wa a b d))
  have Hown := hid (Ha.later Hbb.out).r3
  have n1 : Hid (∀ j u, (St.cs ⟨a, b, d⟩)[j]? = some u → (w3c wa a b d).drew.cell? (Addr.add ⟨wa.heap.size, 0, none⟩ j) = some u) := by
    show ∀ j u, _
    intro j u hj
    match j, hj with
    | 0, hj => simp [St.cs] at hj; subst hj; simp [go_sem, Addr.add]
    | 1, hj => simp [St.cs] at hj; subst hj; simp [go_sem, Addr.add]
    | 2, hj => simp [St.cs] at hj; subst hj; simp [go_sem, Addr.add]
  have n2 : Hid (∀ u ∈ St.cs ⟨a, b, d⟩, u.oneCell' = true) := fun u hu => by simp [St.cs] at hu; rcases hu with rfl | rfl | rfl <;> rfl
  have n3 : Hid (x.ss.length + 1 ≤ maxLen) := by show _ ≤ _; unfold maxLen; omega
  have n4 := hid hlen
  clear hwa A Ha hlen
  go_cut [] (fun wx => Onl x.has w wx ∧ ∃ g k, (g = x.g3 ∨ w.heap.size ≤ g) ∧ RefAt wx B { x with g3 := g, k3 := k, ss := x.ss ++ [⟨a, b, d⟩] })
  case first =>
    go_region_law ((refine step_append_lies _ (by rfl) _ _ 56 (by rfl) B 33 i0 (stv 0 0 0) 3 16 Try.underlying56 hi hz0 hz1 hz2 rfl (by decide) (.slice (some ⟨x.g3, 0, none⟩) x.ss.length x.k3) x.ss.length (flat x.ss) (by simp [Act.eval]) Hown.out ⟨wa.heap.size, 0, none⟩ 1 1 (St.cs ⟨a, b, d⟩) (by simp [Act.eval]) rfl n1.out n2.out (by decide) n3.out n4.out HB.out (w3c wa a b d).drew.heap.size rfl ?_; intro g cap w1 hown hgrow hat hlt; have o1 := grown_onl hgrow; have k3 := o1.cell hne (HHa.out.later Hbb.out).c3; have kf : ∀ o, w1.frozen? ⟨x.d, o, none⟩ = false := o1.loose hne (HHa.out.later Hbb.out).lt (HHa.out.later Hbb.out).loose; have HR := hid (H.out.app3 (v := ⟨a, b, d⟩) (Below.on ba Hbb.out) hgrow hown hat); clear hown hgrow hat hlt o1))
    all_goals (try go_wp2_with fail)
    all_goals go_meet
    all_goals exact ⟨HR.out.2.1, g, cap, HR.out.2.2, HR.out.1⟩
  case rest =>
    obtain ⟨r1, g, k, r2, r3⟩ := hcut
    have HR1 := hid r1
    have HR2 := hid r2
    have HR3 := hid r3
    clear r1 r2 r3 s0 s1 s2 c3
    go_wp2_with fail
    go_ret
    exact ⟨rfl, HR1.out, g, k, HR2.out, HR3.out⟩

end Go.Proofs.Ytmloaddbmkonoab
