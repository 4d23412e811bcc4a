import Derived.Test.YtchfoipkaookmabDoorSWrote
namespace Go.Proofs.YtchfoipkaookmabDoor
open Go.RowKit Go.Sort

set_option maxHeartbeats 400000 in
theorem put_any (b off n cap : Nat) (v : Int) (w : World) (hn : n ≤ 100) (hv : 0 ≤ v) (hv' : v ≤ 18446744073709551615)
    (hc : ∀ i, i < n → ∃ u, w.cell? ⟨b, off + i, none⟩ = some (.int .u8 u)) (hf : ∀ o, w.frozen? ⟨b, o, none⟩ = false) :
    Calls Tryd.prog 49 #[.slice (some ⟨b, off, none⟩) n cap, .int .u64 v] w fun e w' => e = .returned (.tuple #[]) ∧ Wrote w w' b off (be v n) := by
  go_enter Tryd.func49, Tryd.ntmps49
  go_wp2_with fail
  go_loopg [1, 4] n (fun g s1 s4 wr => ∃ k, k ≤ n ∧ g = n - k ∧ s1 = .int .u64 (v / 256 ^ k) ∧ s4 = .int .i64 ((n : Int) - 1 - k) ∧ Wrote w wr b (off + (n - k)) (be v k))
  case atStart => exact ⟨0, by omega, by omega, by simp, by simp, Wrote.refl _ _ _⟩
  case round =>
    obtain ⟨k, hk, rfl, rfl, rfl, hw⟩ := hrel
    obtain ⟨x, hx⟩ : ∃ x, x = v / 256 ^ k := ⟨_, rfl⟩
    have hx0 : 0 ≤ x := by rw [hx]; exact Int.ediv_nonneg hv (Int.le_of_lt (Int.pow_pos (by decide)))
    have hx1 : x ≤ 18446744073709551615 := by rw [hx]; exact Int.le_trans (Int.ediv_le_self _ hv) hv'
    have hnext : x / 256 = v / 256 ^ (k + 1) := by rw [hx, div_pow_next]
    have hbe : be v (k + 1) = (x % 256) :: be v k := by rw [hx, be_cons]
    have HN := hid hnext
    have HB := hid hbe
    rw [← hx]
    clear hx hnext hbe
    by_cases hlt : k < n
    · obtain ⟨u, hu⟩ := hc (n - 1 - k) (by omega)
      have e1 : off + (n - k) = off + (n - 1 - k) + 1 := by omega
      rw [e1] at hw
      have hu' : wr.cell? ⟨b, off + (n - 1 - k), none⟩ = some (.int .u8 u) := (hw.out _ (.inl (by omega))).trans hu
      have hf' : ∀ o, wr.frozen? ⟨b, o, none⟩ = false := fun o => (hw.frz o).trans (hf o)
      obtain ⟨j, hj⟩ : ∃ j : Nat, j = n - 1 - k := ⟨_, rfl⟩
      have e2 : (n : Int) - 1 - k = j := by omega
      rw [e2]
      rw [← hj] at hu' hw hu
      have hjn : j < n := by omega
      have HJ := hid hj
      clear hj e1 e2 hc
      go_wp2_with fail
      go_roundg (n - (k + 1))
      case measure => omega
      case rel =>
        have e3 : n - (k + 1) = j := by have := HJ.out; omega
        have e4 : ((n : Int) - 1 - (k + 1 : Nat)) = (j : Int) - 1 := by have := HJ.out; omega
        refine ⟨k + 1, by omega, rfl, by rw [HN.out], by rw [e4], ?_⟩
        rw [HB.out, e3]
        exact Wrote.cons hw _ hu
    · have hkn : k = n := by omega
      subst hkn
      have e : (k : Int) - 1 - k = -1 := by omega
      rw [e]
      clear hc HN HB
      rw [Nat.sub_self, Nat.add_zero] at hw
      go_wp2_with fail
      go_end0
      exact ⟨rfl, hw⟩

end Go.Proofs.YtchfoipkaookmabDoor
