import Derived.Test.YtpnbgdbkiokooaaDoorFlSends
/- The law's same, at equal lists. -/
namespace Go.Proofs.YtpnbgdbkiokooaaDoor.Fl
open Go.RowKit Go.Sort Go.Proofs.YtpnbgdbkiokooaaDoor
set_option linter.unusedVariables false

theorem Rd.at {w : World} {a : Option Addr} {n c : Nat} {xs : List ByteArray} (h : Rd w (.slice a n c) xs) {i : Nat} (hi : i < xs.length) : ∃ g off, a = some ⟨g, off, none⟩ ∧ w.cell? ⟨g, off + i, none⟩ = some (.string (nthT xs i)) := by
  obtain ⟨a2, c2, e, hrd⟩ := h
  injection e with e1 _ _
  obtain ⟨g, off, e2, y⟩ := hrd i _ (nthT_get hi)
  exact ⟨g, off, e1.trans e2, y⟩
theorem Rd.len {w : World} {a : Option Addr} {n c : Nat} {xs : List ByteArray} (h : Rd w (.slice a n c) xs) : n = xs.length := by
  obtain ⟨a2, c2, e, hrd⟩ := h
  injection e with _ e2 _
set_option maxHeartbeats 4000000 in
theorem same_at {w : World} {a b : Option Addr} {n m c d : Nat} {xs : List ByteArray} (h : Rd w (.slice a n c) xs) (k : Rd w (.slice b m d) xs) (hl : xs.length ≤ 4611686018427387904) :
    Calls Tryd.prog 31 #[.slice a n c, .slice b m d] w fun e w' => e = .returned (.bool true) ∧ ∃ q, w' = w.drewN q := by
  have hn := h.len
  have hm : m = n := by rw [hn]; exact k.len
  subst hm
  have HA := hid h
  have HK := hid k
  have HN := hid hn
  have hn63 : m ≤ 4611686018427387904 := by omega
  clear h k hn hl
  go_enter Tryd.func31, Tryd.ntmps31
  go_wp2_with fail
  go_loopg [5] m (fun g s5 wr => ∃ i q : Nat, i ≤ m ∧ g = m - i ∧ s5 = .int .i64 i ∧ wr = w.drewN q)
  case atStart => exact ⟨0, 0, by omega, by omega, rfl, rfl⟩
  case round =>
    obtain ⟨i, q, hi, rfl, rfl, rfl⟩ := hrel
    by_cases hlt : i < m
    · have hlt' : i < xs.length := by rw [← HN.out]; exact hlt
      obtain ⟨g, off, rfl, y0⟩ := HA.out.at hlt'
      obtain ⟨g2, off2, rfl, y1⟩ := HK.out.at hlt'
      generalize nthT xs i = t at y0 y1
      have hI : (i : Int) < (m : Int) := by omega
      go_wp2_with fail
      go_quiet (fail)
      go_wp2_with fail
      go_roundg (m - (i + 1))
      case measure => omega
      case rel => exact ⟨i + 1, _, by omega, rfl, by go_num, rfl⟩
    · obtain rfl : m = i := by omega
      clear hlt hi
      go_wp2_with fail
      go_ret
      exact ⟨rfl, q, rfl⟩
end Go.Proofs.YtpnbgdbkiokooaaDoor.Fl
