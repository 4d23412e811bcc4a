import Derived.Test.YtodolbekbeccbabFlat
namespace Go.Proofs.Ytodolbekbeccbab
open Go.RowKit Go.Sort

set_option maxHeartbeats 1000000 in
theorem cut_any (a : Option Addr) (c : Nat) (xs : List St) (w : World) (h : Row w a xs) (hl : xs.length * 16 ≤ 140737488355328) :
    Calls Try.prog 9 #[.slice a xs.length c] w fun e w' => ∃ v, e = .returned v ∧ w'.ownsRow w.heap.size 25 3 v xs.length (flat xs) ∧ Below w.heap.size w w' := by
  obtain ⟨i0, hi, hz0, hz1, hz2⟩ := info_parts Try.infoSt
  go_enter Try.func9, Try.ntmps9
  go_wp2_with fail
  go_loopg [3, 4] xs.length (fun g s3 s4 wr => ∃ k : Nat, k ≤ xs.length ∧ g = xs.length - k ∧ s4 = .int .i64 k ∧ wr.ownsRow w.heap.size 25 3 s3 k (flat (xs.take k)) ∧ Below w.heap.size w wr)
  case atStart => exact ⟨0, by omega, by omega, rfl, World.ownsRow_nil _ _ _ _, Below.refl _ _⟩
  case round =>
    obtain ⟨k, hk, rfl, rfl, hown, hb⟩ := hrel
    by_cases hlt : k < xs.length
    · have hs : flat (xs.take (k + 1)) = flat (xs.take k) ++ (nth xs k).cs := by rw [nth_take hlt, flat_append, flat_one]
      have HS := hid hs
      obtain ⟨b, off, rfl, c0, c1, c2⟩ := (h.later hb) k hlt
      obtain ⟨x, hx⟩ : ∃ x, x = nth xs k := ⟨_, rfl⟩
      rw [← hx] at c0 c1 c2 HS
      clear hs hx
      go_wp2_with (first
        | (at_builtin; refine wpList_append_own _ rfl _ _ 31 rfl w.heap.size 25 i0 (stv 0 0 0) 3 16 Try.underlying31 hi hz0 hz1 hz2 rfl (by decide) _ _ _ rfl (hown.alloc _) ⟨wr.heap.size, 0, none⟩ 1 1 x.cs rfl rfl ?c1 ?c2 ?c3 ?c4 ?c5 ?_)
        | go_in)
      case c1 =>
        intro j u hj
        match j, hj with
        | 0, hj => simp [St.cs] at hj; subst hj; simp [go_sem]
        | 1, hj => simp [St.cs] at hj; subst hj; simp [go_sem]
        | 2, hj => simp [St.cs] at hj; subst hj; simp [go_sem]
      case c2 => intro u hu; simp [St.cs] at hu; rcases hu with rfl | rfl | rfl <;> rfl
      case c3 => unfold maxLen; omega
      case c4 => omega
      case c5 => have := hb.size; simp; omega
      · intro v' w1 hown' hgrow _
        rw [← HS.out] at hown'
        have hb1 : Below w.heap.size w w1 := Below.grown (Below.al hb _) hgrow (by have := hb.size; simp; omega) (fun g hg => by
          obtain ⟨_, ⟨rfl, _⟩ | ⟨g', cap, cur, rfl, hg', _⟩⟩ := hown
          · simp [Value.ownBlock] at hg
          · simp [Value.ownBlock] at hg; omega)
        clear hgrow hown HS c0 c1 c2
        go_wp2_with fail
        go_roundg (xs.length - (k + 1))
        case measure => omega
        case rel => exact ⟨k + 1, by omega, rfl, by go_num, hown', hb1⟩
    · obtain rfl : k = xs.length := by omega
      rw [List.take_of_length_le (Nat.le_refl _)] at hown
      go_wp2_with fail
      go_ret
      exact ⟨_, rfl, hown, hb⟩

end Go.Proofs.Ytodolbekbeccbab
