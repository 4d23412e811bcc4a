import Derived.Test.YtmbmagfdeadibaaDRefRead
namespace Go.Proofs.Ytmbmagfdeadibaa
open Go.RowKit Go.Sort
set_option linter.unusedVariables false

/-- bytes in memory -/
def u8s (l : List Nat) : List Value := l.map fun (n : Nat) => .int .u8 (n : Int)
theorem u8s_length (l : List Nat) : (u8s l).length = l.length := by simp [u8s]
theorem u8s_append (l r : List Nat) : u8s (l ++ r) = u8s l ++ u8s r := by simp [u8s]
theorem Try.infoU8 : (Try.prog.info? 5).map (fun i => (i.zero, i.size, i.bytes)) = some (some (.int .u8 0), 1, 1) := by kernel_rfl
/-- a row of bytes of one's own, as a text -/
theorem convert_own {w : World} {B n : Nat} {v : Value} {l : List Nat} (h : w.ownsRow B 5 1 v n (u8s l)) : (convert 53 9 v).run Try.prog w = .ok (.string (ofNats l)) w := by
  have hl : l.length = n := by have := h.1; rw [u8s_length] at this; omega
  have h' := h
  obtain ⟨_, ⟨rfl, h0⟩ | ⟨g, cap, cur, rfl, _⟩⟩ := h'
  · obtain rfl : l = [] := List.length_eq_zero_iff.1 (by omega)
    exact run_convert_bytes_nil w 53 5 Try.underlying53 Try.underlying5 0 0 9 Try.underlying9
  · have hcv := run_convert_bytes_arg (P := Try.prog) w 53 5 Try.underlying53 Try.underlying5 g 0 n cap (l.map Int.ofNat) (by rw [List.length_map, hl]) (fun i hi => by
        have hc := h.cellAt i (by omega)
        rw [Nat.zero_add, hc]
        have : i < l.length := by omega
        simp [u8s, List.getD, this]) 9 Try.underlying9
    rw [strOfNums_nats] at hcv
    exact hcv

set_option maxHeartbeats 2000000 in
theorem rbytes0 {w : World} {x : Rf} (h : RefD w x) :
    Calls Try.prog 34 #[.pointer (some ⟨x.p, 0, none⟩), .int .i64 0] w fun e w' => e = .returned (.string (ofNats (bytesC (x.r 0)))) ∧ Below w.heap.size w w' := by
  obtain ⟨a, c, e, hr⟩ := h.row0
  have hl := h.l0
  have cc := h.c1
  rw [e] at cc
  obtain ⟨xs, hxs⟩ : ∃ xs, xs = x.r 0 := ⟨_, rfl⟩
  rw [← hxs] at cc hl hr ⊢
  obtain ⟨i0, hi, hz0, hz1, hz2⟩ := info_of Try.infoU8
  have HC := hid cc
  clear e hxs h cc
  have HR := hid hr
  clear hr
  go_enter Try.func34, Try.ntmps34
  go_wp2_with fail
  refine (rright_is (u := true) rfl _).mono ?_
  rintro e w1 ⟨rfl, rfl⟩
  go_wp2_with fail
  go_loopg [5, 6] xs.length (fun g s5 s6 wr => ∃ k : Nat, k ≤ xs.length ∧ g = xs.length - k ∧ s6 = .int .i64 k ∧ wr.ownsRow w1.heap.size 5 1 s5 k (u8s (bytesC (xs.take k))) ∧ Below w1.heap.size w1 wr)
  case atStart => exact ⟨0, by omega, by omega, rfl, World.ownsRow_nil _ _ _ _, Below.refl _ _⟩
  case round =>
    obtain ⟨k, hk, rfl, rfl, hown, hb⟩ := hrel
    have cc := cell_later hb HC.out
    by_cases hlt : k < xs.length
    · have hs : u8s (bytesC (xs.take (k + 1))) = u8s (bytesC (xs.take k)) ++ [.int .u8 ((nthC xs k).b : Int)] := by rw [nthC_take hlt]; simp [u8s, bytesC]
      have HS := hid hs
      obtain ⟨b, off, rfl, d0, d1⟩ := (HR.out.later hb) k hlt
      obtain ⟨y, hy⟩ : ∃ y, y = nthC xs k := ⟨_, rfl⟩
      rw [← hy] at d0 d1 HS
      clear hs hy
      go_wp2_with (first
        | (at_builtin; refine wpList_append_own _ rfl _ _ 53 rfl w1.heap.size 5 i0 (.int .u8 0) 1 1 Try.underlying53 hi hz0 hz1 hz2 rfl (by decide) _ _ _ rfl (hown.alloc _) ⟨wr.heap.size, 0, none⟩ 1 1 [.int .u8 (y.b : Int)] rfl rfl ?c1 ?c2 ?c3 ?c4 ?c5 ?_)
        | go_in)
      case c1 =>
        intro j u hj
        match j, hj with
        | 0, hj => simp at hj; subst hj; simp [go_sem]
      case c2 => intro u hu; simp at hu; subst hu; rfl
      case c3 => unfold maxLen; omega
      case c4 => omega
      case c5 => have := hb.size; simp; omega
      · intro v' w2 hown' hgrow _
        rw [← HS.out] at hown'
        have hb1 : Below w1.heap.size w1 w2 := Below.grown (Below.al hb _) hgrow (by have := hb.size; simp; omega) (fun g hg => by
          obtain ⟨_, ⟨rfl, _⟩ | ⟨g', cap, cur, rfl, hg', _⟩⟩ := hown
          · simp [Value.ownBlock] at hg
          · simp [Value.ownBlock] at hg; omega)
        clear hgrow hown HS d0 d1 cc
        go_wp2_with fail
        go_roundg (xs.length - (k + 1))
        case measure => omega
        case rel => exact ⟨k + 1, by omega, rfl, by go_num, hown', hb1⟩
    · obtain rfl : k = xs.length := by omega
      rw [List.take_of_length_le (Nat.le_refl _)] at hown
      have hcv := convert_own hown
      go_wp2_with fail
      go_ret
      exact ⟨rfl, hb⟩

set_option maxHeartbeats 2000000 in
theorem rbytes1 {w : World} {x : Rf} (h : RefD w x) :
    Calls Try.prog 34 #[.pointer (some ⟨x.p, 0, none⟩), .int .i64 1] w fun e w' => e = .returned (.string (ofNats (bytesC (x.r 1)))) ∧ Below w.heap.size w w' := by
  obtain ⟨a, c, e, hr⟩ := h.row1
  have hl := h.l1
  have cc := h.c2
  rw [e] at cc
  obtain ⟨xs, hxs⟩ : ∃ xs, xs = x.r 1 := ⟨_, rfl⟩
  rw [← hxs] at cc hl hr ⊢
  obtain ⟨i0, hi, hz0, hz1, hz2⟩ := info_of Try.infoU8
  have HC := hid cc
  clear e hxs h cc
  have HR := hid hr
  clear hr
  go_enter Try.func34, Try.ntmps34
  go_wp2_with fail
  refine (rright_is (u := true) rfl _).mono ?_
  rintro e w1 ⟨rfl, rfl⟩
  go_wp2_with fail
  go_loopg [5, 6] xs.length (fun g s5 s6 wr => ∃ k : Nat, k ≤ xs.length ∧ g = xs.length - k ∧ s6 = .int .i64 k ∧ wr.ownsRow w1.heap.size 5 1 s5 k (u8s (bytesC (xs.take k))) ∧ Below w1.heap.size w1 wr)
  case atStart => exact ⟨0, by omega, by omega, rfl, World.ownsRow_nil _ _ _ _, Below.refl _ _⟩
  case round =>
    obtain ⟨k, hk, rfl, rfl, hown, hb⟩ := hrel
    have cc := cell_later hb HC.out
    by_cases hlt : k < xs.length
    · have hs : u8s (bytesC (xs.take (k + 1))) = u8s (bytesC (xs.take k)) ++ [.int .u8 ((nthC xs k).b : Int)] := by rw [nthC_take hlt]; simp [u8s, bytesC]
      have HS := hid hs
      obtain ⟨b, off, rfl, d0, d1⟩ := (HR.out.later hb) k hlt
      obtain ⟨y, hy⟩ : ∃ y, y = nthC xs k := ⟨_, rfl⟩
      rw [← hy] at d0 d1 HS
      clear hs hy
      go_wp2_with (first
        | (at_builtin; refine wpList_append_own _ rfl _ _ 53 rfl w1.heap.size 5 i0 (.int .u8 0) 1 1 Try.underlying53 hi hz0 hz1 hz2 rfl (by decide) _ _ _ rfl (hown.alloc _) ⟨wr.heap.size, 0, none⟩ 1 1 [.int .u8 (y.b : Int)] rfl rfl ?c1 ?c2 ?c3 ?c4 ?c5 ?_)
        | go_in)
      case c1 =>
        intro j u hj
        match j, hj with
        | 0, hj => simp at hj; subst hj; simp [go_sem]
      case c2 => intro u hu; simp at hu; subst hu; rfl
      case c3 => unfold maxLen; omega
      case c4 => omega
      case c5 => have := hb.size; simp; omega
      · intro v' w2 hown' hgrow _
        rw [← HS.out] at hown'
        have hb1 : Below w1.heap.size w1 w2 := Below.grown (Below.al hb _) hgrow (by have := hb.size; simp; omega) (fun g hg => by
          obtain ⟨_, ⟨rfl, _⟩ | ⟨g', cap, cur, rfl, hg', _⟩⟩ := hown
          · simp [Value.ownBlock] at hg
          · simp [Value.ownBlock] at hg; omega)
        clear hgrow hown HS d0 d1 cc
        go_wp2_with fail
        go_roundg (xs.length - (k + 1))
        case measure => omega
        case rel => exact ⟨k + 1, by omega, rfl, by go_num, hown', hb1⟩
    · obtain rfl : k = xs.length := by omega
      rw [List.take_of_length_le (Nat.le_refl _)] at hown
      have hcv := convert_own hown
      go_wp2_with fail
      go_ret
      exact ⟨rfl, hb⟩

end Go.Proofs.Ytmbmagfdeadibaa
