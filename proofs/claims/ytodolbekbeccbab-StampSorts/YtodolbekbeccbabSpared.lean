import Derived.Test.YtodolbekbeccbabSame
import Derived.Test.YtodolbekbeccbabRoomy
namespace Go.Proofs.Ytodolbekbeccbab
open Go.RowKit Go.Sort

/-- a row of stamps at the head of block g, from its places -/
theorem Row.of_tab {w : World} {g M : Nat} {f : Nat → St} (h : Row w (some ⟨g, 0, none⟩) (tab M f)) {i : Nat} (hi : i < M) :
    w.cell? ⟨g, i * 3, none⟩ = some (.int .u64 (f i).w) ∧ w.cell? ⟨g, i * 3 + 1, none⟩ = some (.int .u32 (f i).l) ∧ w.cell? ⟨g, i * 3 + 2, none⟩ = some (.int .u32 (f i).n) := by
  obtain ⟨b, off, e, h0, h1, h2⟩ := h i (by rw [tab_length]; exact hi)
  injection e with e
  injection e with e1 e2
  subst e1 e2
  rw [nth_tab f hi] at h0 h1 h2
  simp only [Nat.zero_add] at h0 h1 h2
  exact ⟨h0, h1, h2⟩

theorem Row.cut {w : World} {a : Option Addr} {M n : Nat} {f : Nat → St} (h : Row w a (tab M f)) (hn : n ≤ M) : Row w a (tab n f) := fun i hi => by
  rw [tab_length] at hi
  obtain ⟨b, off, e, h0, h1, h2⟩ := h i (by rw [tab_length]; omega)
  rw [nth_tab f (by omega)] at h0 h1 h2
  refine ⟨b, off, e, ?_, ?_, ?_⟩ <;> rw [nth_tab f hi] <;> assumption

set_option maxHeartbeats 1000000 in
theorem spared_any (g : Nat) (a : Option Addr) (c M n : Nat) (f : Nat → St) (w : World) (hr : Row w (some ⟨g, 0, none⟩) (tab M f)) (hrow : Row w a (tab n f)) (hnM : n < M) (hM : M ≤ 9223372036854775807)
    (hm : ∀ i, n ≤ i → i < M → f i = mark i) :
    Calls Try.prog 13 #[.slice (some ⟨g, 0, none⟩) M M, .slice a n c] w fun e w' => e = .returned (.bool true) ∧ Below w.heap.size w w' := by
  have cs := fun w h1 h2 => same_any (some ⟨g, 0, none⟩) a M c (tab n f) w h1 h2 (by rw [tab_length]; omega)
  rw [tab_length] at cs
  have CS := hid cs
  clear cs
  go_enter Try.func13, Try.ntmps13
  go_wp2_with fail
  go_loopg [5] (M - n) (fun g' s5 wr => ∃ k : Nat, n ≤ k ∧ k ≤ M ∧ g' = M - k ∧ s5 = .int .i64 k ∧ Below w.heap.size w wr)
  case atStart => exact ⟨n, by omega, by omega, by omega, rfl, Below.refl _ _⟩
  case round =>
    obtain ⟨k, hnk, hk, rfl, rfl, hb⟩ := hrel
    by_cases hlt : k < M
    · obtain ⟨c0, c1, c2⟩ := (hr.later hb).of_tab hlt
      rw [hm k hnk hlt] at c0 c1 c2
      have hne : ∀ w, (binOp .neq 25 (stv 9 (IntKind.u32.wrap k) 9) (stv 9 (IntKind.u32.wrap k) 9)).run Try.prog w = .ok (.bool false) w := fun w => by rw [run_ne, sameB_self]; rfl
      simp only [mark] at c0 c1 c2
      clear hr hrow hm
      go_wp2_with fail
      go_roundg (M - (k + 1))
      case measure => omega
      case rel => exact ⟨k + 1, by omega, by omega, rfl, by go_num, hb⟩
    · obtain rfl : k = M := by omega
      have h1 := (hr.later hb).cut (Nat.le_of_lt hnM)
      have h2 := hrow.later hb
      go_wp2_with fail
      refine (CS.out _ h1 h2).mono ?_
      rintro e w1 ⟨rfl, hw⟩
      go_wp2_with fail
      go_ret
      exact ⟨rfl, Below.on hb hw⟩

end Go.Proofs.Ytodolbekbeccbab
