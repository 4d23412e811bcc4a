import Derived.Test.YtmhpakbkmddfeaaJAskedG
import Derived.SizedLaws
namespace Go.Proofs.Ytmhpakbkmddfeaa.St
open Go.RowKit Go.Sort Go.WideShapes Go.ChangeAt
set_option linter.unusedVariables false

set_option maxRecDepth 100000 in
set_option maxHeartbeats 2000000 in
theorem stamps_law {W : World} {a : Option Addr} {c : Nat} {l : List Ao} (hR : RowO W a l) (hn : (l.length + 2) * 64 ≤ 140737488355328) (hc : l.length ≤ c) (hsz : ∀ x ∈ l, x.key.size ≤ reachBytes) :
    Calls Try.prog 8 #[.slice a l.length c] W fun e w' => e = .returned (.bool true) ∧ Below W.heap.size W w' := by
  have HR := hid hR
  have HZ := hid hsz
  have NX : Hid (Calls Try.prog 28 #[] W fun e w' => e = .returned (.pointer (some ⟨W.heap.size, 0, none⟩)) ∧ Hid (Calls Try.prog 29 #[] w' fun e w2 => ∃ d, e = .returned (.pointer (some ⟨d, 0, none⟩)) ∧ Hid (Qs W w2 W.heap.size d (.slice none 0 0) []))) :=
    (new_is W).mono fun e w' ⟨he, hx, hb⟩ => ⟨he, (refnew_is w').mono fun e w2 ⟨he2, hr2, hb2⟩ => ⟨_, he2, hx.later hb2, hr2, fun k hk => by
      have := hb.size
      rcases hk with rfl | rfl | hk
      · omega
      · omega
      · simp [Value.ownBlock] at hk, Below.on hb hb2⟩⟩
  clear hR hsz
  go_enter Try.func8, Try.ntmps8
  go_wp2_with (first
    | (go_at_call 28; refine NX.out.mono ?_; rintro e w1 ⟨rfl, hN⟩)
    | (go_at_call 29; refine hN.out.mono ?_; rintro e w2 ⟨d, rfl, HQ0⟩))
  clear hN NX
  obtain ⟨x, hx⟩ : ∃ x, x = W.heap.size := ⟨_, rfl⟩
  rw [← hx] at HQ0
  rw [← hx]
  clear hx
  go_loopg [5] l.length (fun g s5 wr => ∃ k : Nat, k ≤ l.length ∧ g = l.length - k ∧ s5 = .int .i64 k ∧ ∃ v log, log.length ≤ k ∧ Hid (Qs W wr x d v log))
  case atStart => exact ⟨0, by omega, by omega, rfl, _, [], by simp, HQ0⟩
  case round =>
    obtain ⟨k, hk, rfl, rfl, v, log, hlog, HQ⟩ := hrel
    clear HQ0
    by_cases hlt : k < l.length
    · obtain ⟨b, off, rfl, d0, d1, d2, d3, d4, d5⟩ := HR.out k hlt
      obtain ⟨y, hy⟩ : ∃ y, y = nthO l k := ⟨_, rfl⟩
      have HS : Hid ((nthO l k).key.size + 1 ≤ 9223372036854775807) := by show _ ≤ _; have := HZ.out _ (nthO_mem hlt); unfold reachBytes at this; omega
      rw [← hy] at HS d0 d1 d2 d3 d4 d5
      have e0 := cell_later HQ.out.bel d0
      have e1 := cell_later HQ.out.bel d1
      have e2 := cell_later HQ.out.bel d2
      have e3 := cell_later HQ.out.bel d3
      have e4 := cell_later HQ.out.bel d4
      have e5 := cell_later HQ.out.bel d5
      clear d0 d1 d2 d3 d4 d5 hy
      have AS := hid (asked_is y HQ.out (by omega) HS.out)
      go_wp2_with (go_at_call 30; refine AS.out.mono ?_; rintro e w3 ⟨rfl, v', log', hl', hq'⟩; have hq' := hid hq')
      go_roundg (l.length - (k + 1))
      case measure => omega
      case rel => exact ⟨k + 1, by omega, rfl, by go_num, v', log', by omega, hq'⟩
    · obtain rfl : k = l.length := by omega
      clear hlt hk
      obtain ⟨n, hln⟩ : ∃ n, (ixL log).length = n := ⟨_, rfl⟩
      have XL : Hid (Calls Try.prog 31 #[.pointer (some ⟨x, 0, none⟩)] wr fun e w' => e = .returned (.int .i64 (n : Int)) ∧ w' = wr) := by
        have := len_is HQ.out.xi
        rw [hln] at this
        exact this
      have RL : Hid (Calls Try.prog 32 #[.pointer (some ⟨d, 0, none⟩)] wr fun e w' => e = .returned (.int .i64 (n : Int)) ∧ Below wr.heap.size wr w') := by
        have := reflen_is HQ.out.ri
        rw [hln] at this
        exact this
      clear hln
      go_wp2_with (first
        | (go_at_call 31; refine XL.out.mono ?_; rintro e w3 ⟨rfl, rfl⟩)
        | (go_at_call 32; refine RL.out.mono ?_; rintro e w4 ⟨rfl, hb4⟩))
      go_ret
      exact ⟨retB' (by simp), Below.on HQ.out.bel hb4⟩

end Go.Proofs.Ytmhpakbkmddfeaa.St
