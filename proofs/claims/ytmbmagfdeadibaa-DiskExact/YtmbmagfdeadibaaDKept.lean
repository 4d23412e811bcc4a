import Derived.Test.YtmbmagfdeadibaaDCell
namespace Go.Proofs.Ytmbmagfdeadibaa
open Go.RowKit Go.Sort
set_option linter.unusedVariables false

set_option maxHeartbeats 2000000 in
theorem kept_any {a : Option Addr} {c : Nat} {xs : List Cc} {keep : Int} {w : World} (h : RowC w a xs) (hl : xs.length ≤ 1048576) (h1 : -9223372036854775808 ≤ keep) (h2 : keep ≤ 9223372036854775807) :
    Calls Try.prog 43 #[.slice a xs.length c, .int .i64 keep] w fun e w' => ∃ v, e = .returned v ∧ w'.ownsRow w.heap.size 72 2 v (keptF keep xs).1.length (flatC (keptF keep xs).1) ∧ Below w.heap.size w w' := by
  obtain ⟨i0, hi, hz0, hz1, hz2⟩ := info_of Try.infoCc
  have HL : Hid (-9223372036854775808 ≤ keep ∧ keep ≤ 9223372036854775807) := ⟨h1, h2⟩
  clear h1 h2
  go_enter Try.func43, Try.ntmps43
  go_wp2_with fail
  go_loopg [1, 5, 6] xs.length (fun g s1 s5 s6 wr => ∃ k : Nat, k ≤ xs.length ∧ g = xs.length - k ∧ s1 = .int .i64 (keptF keep (xs.take k)).2 ∧ s6 = .int .i64 k ∧ wr.ownsRow w.heap.size 72 2 s5 (keptF keep (xs.take k)).1.length (flatC (keptF keep (xs.take k)).1) ∧ Below w.heap.size w wr)
  case atStart => exact ⟨0, by omega, by omega, rfl, rfl, World.ownsRow_nil _ _ _ _, Below.refl _ _⟩
  case round =>
    obtain ⟨k, hk, rfl, rfl, rfl, hown, hb⟩ := hrel
    by_cases hlt : k < xs.length
    · have hs : keptF keep (xs.take (k + 1)) = keptStep (keptF keep (xs.take k)) (nthC xs k) := by rw [nthC_take hlt, keptF_snoc]
      have hkl : (keptF keep (xs.take k)).1.length ≤ 1048576 := by
        have := keptF_length keep (xs.take k)
        rw [List.length_take] at this
        omega
      have hk2 := keptF_low keep (xs.take k) HL.out.1 HL.out.2
      obtain ⟨b, off, rfl, c0, c1⟩ := (h.later hb) k hlt
      obtain ⟨x, hx⟩ : ∃ x, x = nthC xs k := ⟨_, rfl⟩
      rw [← hx] at c0 c1 hs
      obtain ⟨p, hp⟩ : ∃ p, p = keptF keep (xs.take k) := ⟨_, rfl⟩
      rw [← hp] at hs hown hkl hk2 ⊢
      obtain ⟨out, kp⟩ := p
      obtain ⟨xb, xs'⟩ := x
      have HS := hid hs
      have HK2 := hid hk2
      clear hs hx hp hk2
      dsimp only at hown hkl ⊢
      cases xs'
      · by_cases hpos : 0 < kp
        · have hd : decide (0 < kp) = true := decide_eq_true hpos
          have hw : IntKind.i64.wrap (kp - 1) = kp - 1 := by have := HK2.out; dsimp only at this; rw [IntKind.wrap_i64]; omega
          have HE : Hid (keptStep (out, kp) ⟨xb, false⟩ = (out ++ [⟨xb, true⟩], kp - 1)) := by show _ = _; simp [keptStep, hpos]
          have HD := hid hd
          go_wp2_with (first
            | (at_builtin; refine wpList_append_own _ rfl _ _ 65 rfl w.heap.size 72 i0 (ccv 0 false) 2 2 Try.underlying65 hi hz0 hz1 hz2 rfl (by decide) _ _ _ rfl (hown.alloc _) ⟨wr.heap.size, 0, none⟩ 1 1 (Cc.cs ⟨xb, true⟩) rfl rfl ?c1 ?c2 ?c3 ?c4 ?c5 ?_)
            | go_in)
          case c1 =>
            intro j u hj
            match j, hj with
            | 0, hj => simp [Cc.cs] at hj; subst hj; simp [go_sem]
            | 1, hj => simp [Cc.cs] at hj; subst hj; simp [go_sem]
          case c2 => intro u hu; simp [Cc.cs] at hu; rcases hu with rfl | rfl <;> rfl
          case c3 => unfold maxLen; omega
          case c4 => omega
          case c5 => have := hb.size; simp; omega
          · intro v' w1 hown' hgrow _
            have hb1 : Below w.heap.size w w1 := Below.grown (Below.al hb _) hgrow (by have := hb.size; simp; omega) (fun g hg => by
              obtain ⟨_, ⟨rfl, _⟩ | ⟨g', cap, cur, rfl, hg', _⟩⟩ := hown
              · simp [Value.ownBlock] at hg
              · simp [Value.ownBlock] at hg; omega)
            clear hgrow hown c0 c1
            go_wp2_with fail
            go_roundg (xs.length - (k + 1))
            case measure => omega
            case rel =>
              refine ⟨k + 1, by omega, rfl, ?_, by go_num, ?_, hb1⟩
              · rw [HS.out, HE.out]
              · rw [HS.out, HE.out]
                dsimp only
                rw [List.length_append, flatC_append, flatC_one]
                exact hown'
        · have hd : decide (0 < kp) = false := decide_eq_false hpos
          have HE : Hid (keptStep (out, kp) ⟨xb, false⟩ = (out, kp)) := by show _ = _; simp [keptStep, hpos]
          clear hpos
          go_wp2_with fail
          go_roundg (xs.length - (k + 1))
          case measure => omega
          case rel =>
            refine ⟨k + 1, by omega, rfl, ?_, by go_num, ?_, hb⟩
            · rw [HS.out, HE.out]
            · rw [HS.out, HE.out]
              exact hown
      · have HE : Hid (keptStep (out, kp) ⟨xb, true⟩ = (out ++ [⟨xb, true⟩], kp)) := by show _ = _; simp [keptStep]
        go_wp2_with (first
          | (at_builtin; refine wpList_append_own _ rfl _ _ 65 rfl w.heap.size 72 i0 (ccv 0 false) 2 2 Try.underlying65 hi hz0 hz1 hz2 rfl (by decide) _ _ _ rfl (hown.alloc _) ⟨wr.heap.size, 0, none⟩ 1 1 (Cc.cs ⟨xb, true⟩) rfl rfl ?c1 ?c2 ?c3 ?c4 ?c5 ?_)
          | go_in)
        case c1 =>
          intro j u hj
          match j, hj with
          | 0, hj => simp [Cc.cs] at hj; subst hj; simp [go_sem]
          | 1, hj => simp [Cc.cs] at hj; subst hj; simp [go_sem]
        case c2 => intro u hu; simp [Cc.cs] at hu; rcases hu with rfl | rfl <;> rfl
        case c3 => unfold maxLen; omega
        case c4 => omega
        case c5 => have := hb.size; simp; omega
        · intro v' w1 hown' hgrow _
          have hb1 : Below w.heap.size w w1 := Below.grown (Below.al hb _) hgrow (by have := hb.size; simp; omega) (fun g hg => by
            obtain ⟨_, ⟨rfl, _⟩ | ⟨g', cap, cur, rfl, hg', _⟩⟩ := hown
            · simp [Value.ownBlock] at hg
            · simp [Value.ownBlock] at hg; omega)
          clear hgrow hown c0 c1
          go_wp2_with fail
          go_roundg (xs.length - (k + 1))
          case measure => omega
          case rel =>
            refine ⟨k + 1, by omega, rfl, ?_, by go_num, ?_, hb1⟩
            · rw [HS.out, HE.out]
            · rw [HS.out, HE.out]
              dsimp only
              rw [List.length_append, flatC_append, flatC_one]
              exact hown'
    · obtain rfl : k = xs.length := by omega
      rw [List.take_of_length_le (Nat.le_refl _)] at hown
      go_wp2_with fail
      go_ret
      exact ⟨_, rfl, hown, hb⟩

end Go.Proofs.Ytmbmagfdeadibaa
