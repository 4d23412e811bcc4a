import Derived.Test.YtmloaddbmkonoabKStamps
import Derived.Test.YtmloaddbmkonoabLess
namespace Go.Proofs.Ytmloaddbmkonoab
open Go.RowKit Go.Sort

/-- two stamps of our own: the result's block and the greatest so far -/
structure MaxAt (w wr : World) (N : Nat) (m : St) : Prop where
  below : Below w.heap.size w wr
  base : w.heap.size ≤ N
  size : N + 2 ≤ wr.heap.size
  res : StampAt wr N 0 0 0
  great : StampAt wr (N + 1) m.w m.l m.n
  loose : Loose wr N
  loose1 : Loose wr (N + 1)

theorem MaxAt.later {w wr wc : World} {N : Nat} {m : St} (R : MaxAt w wr N m) (hb : Below wr.heap.size wr wc) : MaxAt w wc N m :=
  ⟨Below.on R.below hb, R.base, Nat.le_trans R.size hb.size, R.res.later hb, R.great.later hb, R.loose.later hb (by have := R.size; omega), R.loose1.later hb (by have := R.size; omega)⟩

theorem MaxAt.put {w wr : World} {N : Nat} {m : St} (R : MaxAt w wr N m) (x : St) : MaxAt w (putStamp wr (N + 1) x.w x.l x.n) N x :=
  ⟨Below.put R.below (by have := R.base; omega) _ _ _, R.base, by simpa [putStamp, World.setCell] using R.size,
    ⟨cell_put _ _ _ (by omega) R.res.1, cell_put _ _ _ (by omega) R.res.2.1, cell_put _ _ _ (by omega) R.res.2.2⟩, R.great.put _ _ _, R.loose.put _ _ _, R.loose1.put _ _ _⟩

set_option maxHeartbeats 1000000 in
theorem max_any (a : Option Addr) (c : Nat) (xs : List St) (w : World) (h : Row w a xs) (hl : xs.length ≤ 9223372036854775807) :
    Calls Try.prog 26 #[.slice a xs.length c] w fun e w' => e = .returned (maxSt zst xs).val ∧ Below w.heap.size w w' := by
  go_enter Try.func26, Try.ntmps26
  go_wp2_with fail
  go_loopg [8] xs.length (fun g s8 wr => ∃ k : Nat, k ≤ xs.length ∧ g = xs.length - k ∧ s8 = .int .i64 k ∧ MaxAt w wr w.heap.size (maxSt zst (xs.take k)))
  case atStart =>
    refine ⟨0, by omega, by omega, rfl, ?_, Nat.le_refl _, by simp, ?_, ?_, fun o => by simp [go_sem], fun o => by simp [go_sem]⟩
    · exact ((Below.refl _ _).alloc (Nat.le_refl _) _).alloc (by simp) _
    · refine ⟨?_, ?_, ?_⟩ <;> (simp [go_sem]; done)
    · refine ⟨?_, ?_, ?_⟩ <;> (simp [go_sem, maxSt, zst]; done)
  case round =>
    obtain ⟨k, hk, rfl, rfl, R⟩ := hrel
    obtain ⟨m, hm⟩ : ∃ m, m = maxSt zst (xs.take k) := ⟨_, rfl⟩
    rw [← hm] at R
    have ⟨g0, g1, g2⟩ := R.great
    have ⟨r0, r1, r2⟩ := R.res
    have f1 : ∀ o, wr.frozen? ⟨w.heap.size + 1, o, none⟩ = false := R.loose1
    have f0 : ∀ o, wr.frozen? ⟨w.heap.size, o, none⟩ = false := R.loose
    by_cases hlt : k < xs.length
    · have hs := maxSt_snoc (xs.take k) (nth xs k) zst
      rw [← nth_take hlt, ← hm] at hs
      have HS := hid hs
      obtain ⟨b, off, rfl, c0, c1, c2⟩ := (h.later R.below) k hlt
      obtain ⟨x, hx⟩ : ∃ x, x = nth xs k := ⟨_, rfl⟩
      rw [← hx] at c0 c1 c2 HS
      have hsz := R.size
      have hN0 : w.heap.size < wr.heap.size := by omega
      have hN1 : w.heap.size + 1 < wr.heap.size := by omega
      have A5 : StampAt (wr.alloc (.cells #[.int .u64 x.w, .int .u32 x.l, .int .u32 x.n] 33)) wr.heap.size x.w x.l x.n := by
        refine ⟨?_, ?_, ?_⟩ <;> (simp [go_sem]; done)
      clear hs hx hm hsz
      go_wp2_with fail
      have hless : ∃ u, lessB m.w m.l m.n x.w x.l x.n = u := ⟨_, rfl⟩
      obtain ⟨u, hu⟩ := hless
      refine (less_is hu _).mono ?_
      rintro e w1 ⟨rfl, hw1⟩
      have R1 := (R.later (Below.al (Below.refl _ _) _)).later hw1
      have A1 := A5.later hw1
      have ⟨g0, g1, g2⟩ := R1.great
      have ⟨s0, s1, s2⟩ := A1
      have f1 : ∀ o, w1.frozen? ⟨w.heap.size + 1, o, none⟩ = false := R1.loose1
      have HU : Hid (m.less x = u) := hu
      clear hu A5 hw1 R A1 hN0 hN1 r0 r1 r2 f0 c0 c1 c2
      cases u
      all_goals
        go_wp2_with fail
        go_roundg (xs.length - (k + 1))
        case measure => omega
      · refine ⟨k + 1, by omega, rfl, by go_num, ?_⟩
        rw [HS.out, HU.out]
        exact R1
      · refine ⟨k + 1, by omega, rfl, by go_num, ?_⟩
        rw [HS.out, HU.out]
        exact R1.put x
    · obtain rfl : k = xs.length := by omega
      rw [List.take_of_length_le (Nat.le_refl _)] at hm
      have hsz := R.size
      go_wp2_with fail
      rw [← hm]
      refine bodyPost_ret (v := m.val) (by simp [results, Try.results26, go_sem, r0, r1, r2]) rfl ⟨rfl, ?_⟩
      exact Below.put R.below (Nat.le_refl _) m.w m.l m.n

end Go.Proofs.Ytmloaddbmkonoab
