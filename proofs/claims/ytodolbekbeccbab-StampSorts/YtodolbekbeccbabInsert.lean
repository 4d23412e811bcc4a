import Derived.Test.YtodolbekbeccbabFlat
import Derived.Lib.SmallJoins
namespace Go.Proofs.Ytodolbekbeccbab
open Go.RowKit Go.Sort

/-- a list with s at the place at -/
def insAt (xs : List St) (n : Nat) (s : St) : List St := xs.take n ++ [s] ++ xs.drop n
theorem insAt_length (xs : List St) (n : Nat) (s : St) : (insAt xs n s).length = xs.length + 1 := by
  simp [insAt]; omega
theorem drop_take_snoc {xs : List St} {n k : Nat} (h : n + k < xs.length) : (xs.drop n).take (k + 1) = (xs.drop n).take k ++ [nth xs (n + k)] := by
  rw [List.take_succ_eq_append_getElem (by rw [List.length_drop]; omega)]
  congr 2
  rw [List.getElem_drop]
  simp [nth, h]

set_option maxHeartbeats 2000000 in
theorem insert_any (a : Option Addr) (c : Nat) (xs : List St) (n : Nat) (s : St) (w : World) (h : Row w a xs) (hn : n ≤ xs.length) (hl : (xs.length + 1) * 16 ≤ 140737488355328) :
    Calls Try.prog 23 #[.slice a xs.length c, .int .i64 n, stv s.w s.l s.n] w fun e w' => ∃ v, e = .returned v ∧ w'.ownsRow w.heap.size 25 3 v (xs.length + 1) (flat (insAt xs n s)) ∧ Below w.heap.size w w' := by
  obtain ⟨i0, hi, hz0, hz1, hz2⟩ := info_parts Try.infoSt
  obtain ⟨W0, hW0⟩ : ∃ W0, W0 = w.alloc (.cells #[.int .u64 s.w, .int .u32 s.l, .int .u32 s.n] 25) := ⟨_, rfl⟩
  have hb0 : Hid (Below w.heap.size w W0) := by rw [hW0]; exact Below.al (Below.refl _ _) _
  have A0 : Hid (StampAt W0 w.heap.size s.w s.l s.n) := by
    rw [hW0]; exact ⟨by simp [go_sem], by simp [go_sem], by simp [go_sem]⟩
  have h0 := hid (h.later hb0.out)
  have hsz : w.heap.size ≤ W0.heap.size := hb0.out.size
  go_enter Try.func23, Try.ntmps23
  go_wp2_with fail
  rw [← hW0]
  clear hW0 h
  go_loopg [7, 8] n (fun g s7 s8 wr => ∃ k : Nat, k ≤ n ∧ g = n - k ∧ s8 = .int .i64 k ∧ wr.ownsRow W0.heap.size 25 3 s7 k (flat (xs.take k)) ∧ Below W0.heap.size W0 wr)
  case atStart => exact ⟨0, by omega, by omega, rfl, World.ownsRow_nil _ _ _ _, Below.refl _ _⟩
  case round =>
    obtain ⟨k, hk, rfl, rfl, hown, hb⟩ := hrel
    by_cases hlt : k < n
    · have hlt' : k < xs.length := by omega
      have hs : flat (xs.take (k + 1)) = flat (xs.take k) ++ (nth xs k).cs := by rw [nth_take hlt', flat_append, flat_one]
      have HS := hid hs
      obtain ⟨b, off, rfl, c0, c1, c2⟩ := (h0.out.later hb) k hlt'
      obtain ⟨x, hx⟩ : ∃ x, x = nth xs k := ⟨_, rfl⟩
      rw [← hx] at c0 c1 c2 HS
      clear hs hx
      go_wp2_with (first
        | (at_builtin; refine wpList_append_own _ rfl _ _ 31 rfl W0.heap.size 25 i0 (stv 0 0 0) 3 16 Try.underlying31 hi hz0 hz1 hz2 rfl (by decide) _ _ _ rfl (hown.alloc _) ⟨wr.heap.size, 0, none⟩ 1 1 x.cs rfl rfl ?c1 ?c2 ?c3 ?c4 ?c5 ?_)
        | go_in)
      case c1 =>
        intro j u hj
        match j, hj with
        | 0, hj => simp [St.cs] at hj; subst hj; simp [go_sem]
        | 1, hj => simp [St.cs] at hj; subst hj; simp [go_sem]
        | 2, hj => simp [St.cs] at hj; subst hj; simp [go_sem]
      case c2 => intro u hu; simp [St.cs] at hu; rcases hu with rfl | rfl | rfl <;> rfl
      case c3 => unfold maxLen; omega
      case c4 => omega
      case c5 => have := hb.size; simp; omega
      · intro v' w1 hown' hgrow _
        rw [← HS.out] at hown'
        have hb1 : Below W0.heap.size W0 w1 := Below.grown (Below.al hb _) hgrow (by have := hb.size; simp; omega) (fun g hg => by
          obtain ⟨_, ⟨rfl, _⟩ | ⟨g', cap, cur, rfl, hg', _⟩⟩ := hown
          · simp [Value.ownBlock] at hg
          · simp [Value.ownBlock] at hg; omega)
        clear hgrow hown HS c0 c1 c2
        go_wp2_with fail
        go_roundg (n - (k + 1))
        case measure => omega
        case rel => exact ⟨k + 1, by omega, rfl, by go_num, hown', hb1⟩
    · obtain rfl : k = n := by omega
      have ⟨q0, q1, q2⟩ := A0.out.later hb
      go_wp2_with (first
        | (at_builtin; refine wpList_append_own _ rfl _ _ 31 rfl W0.heap.size 25 i0 (stv 0 0 0) 3 16 Try.underlying31 hi hz0 hz1 hz2 rfl (by decide) _ _ _ rfl (hown.alloc _) ⟨wr.heap.size, 0, none⟩ 1 1 s.cs rfl rfl ?c1 ?c2 ?c3 ?c4 ?c5 ?_)
        | go_in)
      case c1 =>
        intro j u hj
        match j, hj with
        | 0, hj => simp [St.cs] at hj; subst hj; simp [go_sem]
        | 1, hj => simp [St.cs] at hj; subst hj; simp [go_sem]
        | 2, hj => simp [St.cs] at hj; subst hj; simp [go_sem]
      case c2 => intro u hu; simp [St.cs] at hu; rcases hu with rfl | rfl | rfl <;> rfl
      case c3 => unfold maxLen; omega
      case c4 => omega
      case c5 => have := hb.size; simp; omega
      · intro v' w1 hown' hgrow _
        have hb1 : Below W0.heap.size W0 w1 := Below.grown (Below.al hb _) hgrow (by have := hb.size; simp; omega) (fun g hg => by
          obtain ⟨_, ⟨rfl, _⟩ | ⟨g', cap, cur, rfl, hg', _⟩⟩ := hown
          · simp [Value.ownBlock] at hg
          · simp [Value.ownBlock] at hg; omega)
        clear hgrow hown q0 q1 q2 hlt hb
        go_wp2_with fail
        go_loopg [7, 9] (xs.length - k) (fun g s7 s9 wr => ∃ j : Nat, k + j ≤ xs.length ∧ g = xs.length - k - j ∧ s9 = .int .i64 (k + j : Nat) ∧ wr.ownsRow W0.heap.size 25 3 s7 (k + 1 + j) (flat (xs.take k) ++ s.cs ++ flat ((xs.drop k).take j)) ∧ Below W0.heap.size W0 wr)
        case atStart => exact ⟨0, by omega, by omega, rfl, by simpa [flat] using hown', hb1⟩
        case round =>
          clear hown' hb1
          obtain ⟨j, hj, rfl, rfl, hown, hb⟩ := hrel
          by_cases hlt : k + j < xs.length
          · have hs : flat ((xs.drop k).take (j + 1)) = flat ((xs.drop k).take j) ++ (nth xs (k + j)).cs := by rw [drop_take_snoc hlt, flat_append, flat_one]
            have HS := hid hs
            obtain ⟨b, off, rfl, c0, c1, c2⟩ := (h0.out.later hb) (k + j) hlt
            obtain ⟨y, hy⟩ : ∃ y, y = nth xs (k + j) := ⟨_, rfl⟩
            rw [← hy] at c0 c1 c2 HS
            obtain ⟨m, hm⟩ : ∃ m, m = k + j := ⟨_, rfl⟩
            rw [← hm] at c0 c1 c2 hlt ⊢
            have HM := hid hm
            clear hs hy hm
            go_wp2_with (first
        | (at_builtin; refine wpList_append_own _ rfl _ _ 31 rfl W0.heap.size 25 i0 (stv 0 0 0) 3 16 Try.underlying31 hi hz0 hz1 hz2 rfl (by decide) _ _ _ rfl (hown.alloc _) ⟨wr.heap.size, 0, none⟩ 1 1 y.cs rfl rfl ?c1 ?c2 ?c3 ?c4 ?c5 ?_)
        | go_in)
            case c1 =>
              intro j u hj
              match j, hj with
              | 0, hj => simp [St.cs] at hj; subst hj; simp [go_sem]
              | 1, hj => simp [St.cs] at hj; subst hj; simp [go_sem]
              | 2, hj => simp [St.cs] at hj; subst hj; simp [go_sem]
            case c2 => intro u hu; simp [St.cs] at hu; rcases hu with rfl | rfl | rfl <;> rfl
            case c3 => have := HM.out; unfold maxLen; omega
            case c4 => have := HM.out; omega
            case c5 => have := hb.size; simp; omega
            · intro v' w1 hown' hgrow _
              have hown2 : w1.ownsRow W0.heap.size 25 3 v' (k + 1 + j + 1) (flat (xs.take k) ++ s.cs ++ flat ((xs.drop k).take (j + 1))) := by rw [HS.out]; simpa [List.append_assoc] using hown'
              have hb1 : Below W0.heap.size W0 w1 := Below.grown (Below.al hb _) hgrow (by have := hb.size; simp; omega) (fun g hg => by
                obtain ⟨_, ⟨rfl, _⟩ | ⟨g', cap, cur, rfl, hg', _⟩⟩ := hown
                · simp [Value.ownBlock] at hg
                · simp [Value.ownBlock] at hg; omega)
              clear hgrow hown HS c0 c1 c2 hown'
              go_wp2_with fail
              go_roundg (xs.length - k - (j + 1))
              case measure => have := HM.out; omega
              case rel => exact ⟨j + 1, by have := HM.out; omega, rfl, by rw [HM.out]; go_num, by rw [show k + 1 + (j + 1) = k + 1 + j + 1 by omega]; exact hown2, hb1⟩
          · have hjx : k + j = xs.length := by omega
            have hfin : flat (xs.take k) ++ s.cs ++ flat ((xs.drop k).take j) = flat (insAt xs k s) := by
              have hd : (xs.drop k).take j = xs.drop k := List.take_of_length_le (by rw [List.length_drop]; omega)
              rw [hd]
              simp [insAt, flat]
            rw [hfin, show k + 1 + j = xs.length + 1 by omega] at hown
            obtain ⟨m, hm⟩ : ∃ m, m = k + j := ⟨_, rfl⟩
            rw [← hm] at hlt ⊢
            have hlt' : ¬ (m : Int) < (xs.length : Int) := by omega
            clear hfin hjx hm
            go_wp2_with fail
            go_ret
            exact ⟨_, rfl, Joins.ownsRow_le hown hsz, Below.on hb0.out hb⟩

end Go.Proofs.Ytodolbekbeccbab
