import Derived.Test.YtmloaddbmkonoabKRef
namespace Go.Proofs.Ytmloaddbmkonoab
open Go.RowKit Go.Sort
set_option linter.unusedVariables false

set_option maxHeartbeats 1000000 in
theorem rread_any (B : Nat) (x : Rd) (v : Int) (w : World) (H : Hid (RefAt w B x)) (hB : B ≤ w.heap.size) (hlen : (x.rs.length + 1) * 8 ≤ 140737488355328) :
    Calls Try.prog 12 #[.pointer (some ⟨x.d, 0, none⟩), .int .u64 v] w fun e w' => e = .returned (.tuple #[]) ∧ Onl x.has w w' ∧ ∃ g k, (g = x.g2 ∨ w.heap.size ≤ g) ∧ RefAt w' B { x with g2 := g, k2 := k, rs := x.rs ++ [v] } := by
  obtain ⟨i0, hi, hz0, hz1, hz2⟩ := info_parts Try.infoU64
  have hd := H.out.lt
  have c2 := H.out.c2
  have hne := H.out.d2
  obtain ⟨wa, hwa⟩ : ∃ wa, wa = w.alloc (.cells #[.int .u64 v] 31) := ⟨_, rfl⟩
  have hba : Below w.heap.size w wa := by rw [hwa]; exact al_below _ _
  have Ha := hid (H.out.later hba)
  have n0 : wa.cell? ⟨w.heap.size, 0, none⟩ = some (.int .u64 v) := by rw [hwa]; simp [go_sem]
  have Hwa := hid hwa
  clear hwa
  go_enter Try.func12, Try.ntmps12
  go_wp2_with (first
    | (at_builtin; rw [← Hwa.out]; refine wpList_append_lies _ rfl _ _ 55 rfl B 31 i0 (.int .u64 0) 1 8 Try.underlying55 hi hz0 hz1 hz2 rfl (by decide) _ x.rs.length (ints x.rs) rfl Ha.out.r2 ⟨w.heap.size, 0, none⟩ 1 1 [.int .u64 v] rfl rfl ?c1 ?c2 (by decide) ?c3 ?c4 ?c5 wa.heap.size rfl ?_)
    | go_in)
  case c1 =>
    intro j u hj
    match j, hj with
    | 0, hj => simp at hj; subst hj; simpa [Addr.add] using n0
  case c2 => intro u hu; simp at hu; subst hu; rfl
  case c3 => unfold maxLen; omega
  case c4 => omega
  case c5 => exact Nat.le_trans hB hba.size
  · intro g cap w1 hown hgrow hat hlt
    have o1 := grown_onl hgrow
    have k2 := o1.cell hne Ha.out.c2
    have kf : ∀ o, w1.frozen? ⟨x.d, o, none⟩ = false := o1.loose hne Ha.out.lt Ha.out.loose
    obtain ⟨r1, r2, r3⟩ := H.out.app2 (v := v) hba hgrow hown hat
    have HR1 := hid r1
    have HR2 := hid r2
    have HR3 := hid r3
    clear r1 r2 r3 hown hgrow hat o1
    go_wp2_with fail
    go_end0
    exact ⟨rfl, HR2.out, g, cap, HR3.out, HR1.out⟩

set_option maxHeartbeats 1000000 in
theorem rreserve_any (B : Nat) (x : Rd) (v : Int) (w : World) (H : Hid (RefAt w B x)) (hB : B ≤ w.heap.size) (hlen : (x.ls.length + 1) * 8 ≤ 140737488355328) :
    Calls Try.prog 22 #[.pointer (some ⟨x.d, 0, none⟩), .int .u64 v] w fun e w' => e = .returned (.tuple #[]) ∧ Onl x.has w w' ∧ ∃ g k, (g = x.g4 ∨ w.heap.size ≤ g) ∧ RefAt w' B { x with g4 := g, k4 := k, ls := x.ls ++ [v] } := by
  obtain ⟨i0, hi, hz0, hz1, hz2⟩ := info_parts Try.infoU64
  have hd := H.out.lt
  have c2 := H.out.c4
  have hne := H.out.d4
  obtain ⟨wa, hwa⟩ : ∃ wa, wa = w.alloc (.cells #[.int .u64 v] 31) := ⟨_, rfl⟩
  have hba : Below w.heap.size w wa := by rw [hwa]; exact al_below _ _
  have Ha := hid (H.out.later hba)
  have n0 : wa.cell? ⟨w.heap.size, 0, none⟩ = some (.int .u64 v) := by rw [hwa]; simp [go_sem]
  have Hwa := hid hwa
  clear hwa
  go_enter Try.func22, Try.ntmps22
  go_wp2_with (first
    | (at_builtin; rw [← Hwa.out]; refine wpList_append_lies _ rfl _ _ 55 rfl B 31 i0 (.int .u64 0) 1 8 Try.underlying55 hi hz0 hz1 hz2 rfl (by decide) _ x.ls.length (ints x.ls) rfl Ha.out.r4 ⟨w.heap.size, 0, none⟩ 1 1 [.int .u64 v] rfl rfl ?c1 ?c2 (by decide) ?c3 ?c4 ?c5 wa.heap.size rfl ?_)
    | go_in)
  case c1 =>
    intro j u hj
    match j, hj with
    | 0, hj => simp at hj; subst hj; simpa [Addr.add] using n0
  case c2 => intro u hu; simp at hu; subst hu; rfl
  case c3 => unfold maxLen; omega
  case c4 => omega
  case c5 => exact Nat.le_trans hB hba.size
  · intro g cap w1 hown hgrow hat hlt
    have o1 := grown_onl hgrow
    have k2 := o1.cell hne Ha.out.c4
    have kf : ∀ o, w1.frozen? ⟨x.d, o, none⟩ = false := o1.loose hne Ha.out.lt Ha.out.loose
    obtain ⟨r1, r2, r3⟩ := H.out.app4 (v := v) hba hgrow hown hat
    have HR1 := hid r1
    have HR2 := hid r2
    have HR3 := hid r3
    clear r1 r2 r3 hown hgrow hat o1
    go_wp2_with fail
    go_end0
    exact ⟨rfl, HR2.out, g, cap, HR3.out, HR1.out⟩

end Go.Proofs.Ytmloaddbmkonoab
