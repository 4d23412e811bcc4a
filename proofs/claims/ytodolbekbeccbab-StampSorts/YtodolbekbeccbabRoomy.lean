import Derived.Test.YtodolbekbeccbabTab
namespace Go.Proofs.Ytodolbekbeccbab
open Go.RowKit Go.Sort

/-- the mark at a place -/
def mark (i : Nat) : St := ⟨9, IntKind.u32.wrap i, 9⟩

theorem step_fn (f g : Nat → St) {k i : Nat} (hne : i ≠ k) : (if i < k + 1 then f i else g i) = if i < k then f i else g i := by
  by_cases h : i < k
  · rw [if_pos h, if_pos (by omega)]
  · rw [if_neg h, if_neg (by omega)]

set_option maxHeartbeats 2000000 in
theorem roomy_any (a : Option Addr) (c : Nat) (xs : List St) (w : World) (h : Row w a xs) (hl : xs.length * 16 ≤ 140737488351232) :
    Calls Try.prog 10 #[.slice a xs.length c] w fun e w' => ∃ g, e = .returned (.slice (some ⟨g, 0, none⟩) (2 * xs.length + 1) (2 * xs.length + 1)) ∧ w.heap.size ≤ g ∧
      w'.ownsRow w.heap.size 25 3 (.slice (some ⟨g, 0, none⟩) (2 * xs.length + 1) (2 * xs.length + 1)) (2 * xs.length + 1) (flat (tab (2 * xs.length + 1) fun i => if i < xs.length then nth xs i else mark i)) ∧ Below w.heap.size w w' := by
  obtain ⟨i0, hi, hz0, hz1, hz2⟩ := info_parts Try.infoSt
  obtain ⟨M, hM⟩ : ∃ M, M = 2 * xs.length + 1 := ⟨_, rfl⟩
  rw [← hM]
  have hM1 : M ≤ 17592186044416 := by omega
  have hM2 : 2 * xs.length + 1 ≤ M := by omega
  have hM3 : M ≤ 2 * xs.length + 1 := by omega
  clear hM
  go_enter Try.func10, Try.ntmps10
  go_wp2_with (first
    | (refine wpList_make_full _ rfl _ _ 31 rfl w.heap.size 25 i0 (stv 0 0 0) 3 Try.underlying31 hi hz0 hz1 .i64 .i64 _ _ M rfl rfl (by omega) (by omega) (by rw [hz2]; omega) (by unfold maxLen; omega) (Nat.le_refl _) ?_)
    | go_in)
  intro w1 hown0 hg0
  have hown1 : w1.ownsRow w.heap.size 25 3 (.slice (some ⟨w.heap.size, 0, none⟩) M M) M (flat (tab M fun _ => zst)) := by rw [← made_flat]; exact hown0
  have hb1 : Below w.heap.size w w1 := Below.grown (Below.refl _ _) hg0 (Nat.le_refl _) (fun k hk => by cases hk)
  clear hown0 hg0
  go_wp2_with fail
  go_loopg [4] M (fun g s4 wr => ∃ k : Nat, k ≤ M ∧ g = M - k ∧ s4 = .int .i64 k ∧ wr.ownsRow w.heap.size 25 3 (.slice (some ⟨w.heap.size, 0, none⟩) M M) M (flat (tab M fun i => if i < k then mark i else zst)) ∧ Below w.heap.size w wr)
  case atStart => exact ⟨0, by omega, by omega, rfl, by simpa using hown1, hb1⟩
  case round =>
    obtain ⟨k, hk, rfl, rfl, hown, hb⟩ := hrel
    by_cases hlt : k < M
    · obtain ⟨a', c', e', hrow⟩ := row_of_owns (xs := tab M fun i => if i < k then mark i else zst) (by rw [tab_length]; exact hown)
      obtain ⟨b', off', e2, c0, c1, c2⟩ := hrow k (by rw [tab_length]; exact hlt)
      rw [e2] at e'
      injection e' with e3 e31 e32; clear e31 e32
      injection e3 with e4
      injection e4 with e5 e6
      subst e5 e6
      simp only [Nat.zero_add] at c0 c1 c2
      have fz : ∀ o, wr.frozen? ⟨w.heap.size, o, none⟩ = false := fun o => hown.frozenAt o
      have hput := owns_put hown (k := k) (by rw [tab_length]; exact hlt) (mark k)
      rw [tab_set (g := fun i => if i < k + 1 then mark i else zst) (by simp) (fun i _ hne => step_fn mark (fun _ => zst) hne)] at hput
      have HP := hid hput
      have hbp := below_put3 hb (Nat.le_refl _) (k * 3) (mark k)
      have HB := hid hbp
      generalize nth (tab M fun i => if i < k then mark i else zst) k = y at c0 c1 c2
      clear hput hbp hown hrow e2
      go_wp2_with fail
      go_roundg (M - (k + 1))
      case measure => omega
      case rel => exact ⟨k + 1, by omega, rfl, by go_num, HP.out, HB.out⟩
    · obtain rfl : k = M := by omega
      have e : (tab k fun i => if i < k then mark i else zst) = tab k mark := tab_congr (fun i hi => by simp [hi])
      rw [e] at hown
      clear hlt hk hown1 hb1
      go_wp2_with fail
      go_loopg [5] xs.length (fun g s5 wr => ∃ j : Nat, j ≤ xs.length ∧ g = xs.length - j ∧ s5 = .int .i64 j ∧ wr.ownsRow w.heap.size 25 3 (.slice (some ⟨w.heap.size, 0, none⟩) k k) k (flat (tab k fun i => if i < j then nth xs i else mark i)) ∧ Below w.heap.size w wr)
      case atStart => exact ⟨0, by omega, by omega, rfl, by simpa using hown, hb⟩
      case round =>
        clear hown hb
        obtain ⟨j, hj, rfl, rfl, hown, hb⟩ := hrel
        by_cases hlt : j < xs.length
        · have hjk : j < k := by omega
          obtain ⟨a', c', e', hrow⟩ := row_of_owns (xs := tab k fun i => if i < j then nth xs i else mark i) (by rw [tab_length]; exact hown)
          obtain ⟨b', off', e2, c0, c1, c2⟩ := hrow j (by rw [tab_length]; exact hjk)
          rw [e2] at e'
          injection e' with e3 e31 e32; clear e31 e32
          injection e3 with e4
          injection e4 with e5 e6
          subst e5 e6
          simp only [Nat.zero_add] at c0 c1 c2
          have fz : ∀ o, wr.frozen? ⟨w.heap.size, o, none⟩ = false := fun o => hown.frozenAt o
          have hput := owns_put hown (k := j) (by rw [tab_length]; exact hjk) (nth xs j)
          rw [tab_set (g := fun i => if i < j + 1 then nth xs i else mark i) (by simp) (fun i _ hne => step_fn (nth xs) mark hne)] at hput
          have HP := hid hput
          have hbp := below_put3 hb (Nat.le_refl _) (j * 3) (nth xs j)
          have HB := hid hbp
          obtain ⟨bx, ox, rfl, d0, d1, d2⟩ := (h.later hb) j hlt
          obtain ⟨x, hx⟩ : ∃ x, x = nth xs j := ⟨_, rfl⟩
          rw [← hx] at d0 d1 d2 HP HB
          generalize nth (tab k fun i => if i < j then nth xs i else mark i) j = y at c0 c1 c2
          clear hput hbp hown hrow e2 hx h
          go_wp2_with fail
          go_roundg (xs.length - (j + 1))
          case measure => omega
          case rel => exact ⟨j + 1, by omega, rfl, by go_num, HP.out, HB.out⟩
        · obtain rfl : j = xs.length := by omega
          go_wp2_with fail
          go_ret
          exact ⟨_, rfl, Nat.le_refl _, hown, hb⟩

end Go.Proofs.Ytodolbekbeccbab
