import Derived.Test.YtcphmahbhecfaaaXCommits
import Derived.RangeFuncNested
import Derived.RangeFuncBound
import Derived.RangeFuncCalls
import Derived.RangeFuncLeaves
import Derived.Shelf.Abstract
import Derived.Shelf.RegionOpen
import Derived.OwnWalkIn
import Derived.TacticsInMore
import Derived.LoopNIn
import Derived.LoopIn
import Derived.Sort.LoopGhostIn
/- maps.Values. -/
namespace Go.Proofs.Ytcphmahbhecfaaa.Lg
open Go.RowKit Go.Sort Go.Shelf Go.Lib Lk
set_option linter.unusedVariables false
attribute [local go_sem] Oper.semAt_some

abbrev VALUES : Nat := 20
abbrev VALUES1 : Nat := 27
/-- what a loop over a map leans on stays -/
theorem rng_walks {m : Option Nat} {r : Nat} {w w' : World} {ps todo : List (Ix × En)} (h : RngO ixv En.val w m r ps todo) (hk : KeepsWalks w w') : RngO ixv En.val w' m r ps todo := by
  refine h.same (fun b e => ?_) ?_
  · subst e
    obtain ⟨es, clock, _, _, _, hb, _⟩ := h.at
    rw [hb]; exact hk.same b _ hb rfl
  · cases m with
    | none => rw [h.2.2]; exact hk.same r _ h.2.2 rfl
    | some b =>
      obtain ⟨es, clock, since, seen, c0, _, _, _, _, hr, _⟩ := h.at
      rw [hr]; exact hk.same r _ hr rfl
theorem rng_iter {m : Option Nat} {r : Nat} {w : World} {ps todo : List (Ix × En)} (h : RngO ixv En.val w m r ps todo) : ∃ o : Obj, w.heap[r]? = some o ∧ o.isWalk = true := by
  cases m with
  | none => exact ⟨_, h.2.2, rfl⟩
  | some b =>
    obtain ⟨es, clock, since, seen, c0, _, _, _, _, hr, _⟩ := h.at
    exact ⟨_, hr, rfl⟩
theorem onl_grown {w w' : World} {r : Nat} (h : Onl (fun b => b = r) w w') : w.grownBy w' (some r) := ⟨h.os, h.tape, h.output, h.size, fun k hk hn => h.block k hk (fun e => hn (by rw [e]))⟩
theorem below_grown {w w' : World} (h : Below w.heap.size w w') : w.grownBy w' none := ⟨h.os, h.tape, h.output, h.size, fun k hk _ => h.block k hk⟩

set_option maxRecDepth 100000 in
set_option maxHeartbeats 1000000 in
theorem values1_in (n : Nat) (hn : 1 ≤ n) (l Bm : Nat) (m : Option Nat) (M : List En) (J Jx : List En → World → Prop)
    (hY : ∀ pre x W, J pre W → pre.length < M.length → YieldAt Fence.wide (n - 1) Try.prog l #[.agg #[.int .u32 x.id.1, .int .u32 x.id.2, .int .u32 x.home, .int .i64 x.oc, .int .u64 x.w, .int .u32 x.l, .int .u32 x.n]] W fun e W' => (e = .returned (.bool true) ∧ J (pre ++ [x]) W' ∧ KeepsWalks W W') ∨ (e = .returned (.bool false) ∧ Jx (pre ++ [x]) W'))
    (W : World) (hJ : AbidesFrom W.heap.size J) (hm : W.cell? ⟨Bm, 0, none⟩ = some (.map m)) (hM : MapO ixv En.val W m (prsE M)) (h0 : J [] W) :
    CallsIn Fence.wide n Try.prog VALUES1 #[.func (.yield l) #[] #[], .pointer (some ⟨Bm, 0, none⟩)] W fun e W' => (∃ v, e = .returned v) ∧ ((∃ xs, xs.Perm M ∧ J xs W') ∨ (∃ pre, True ∧ Jx pre W')) := by
  obtain ⟨o, hr, R0⟩ := hM.range (P := Try.prog) Try.underlying48
  have RR := hid R0
  have HY := hid hY
  have HJ := hid hJ
  have H0 := hid h0
  clear R0 hY hJ h0 hM
  refine callsIn_of_wp Try.func27 rfl trivial ?_ rfl
  simp only [Try.ntmps27, List.size_toArray, List.length_cons, List.length_nil, Nat.reduceAdd, Nat.reduceSub, Array.replicate_succ, Array.replicate_zero, List.push_toArray, List.append_toArray, List.nil_append, List.cons_append]
  gi_wp2
  gi_loopg [4] M.length (fun g s4 wr => ∃ (todo : List (Ix × En)) (xs : List En), g = todo.length ∧ Hid ((xs ++ todo.map (·.2)).Perm M) ∧ Hid (RngO ixv En.val wr m W.heap.size (prsE M) todo) ∧ Hid (J xs wr))
  case atStart =>
    refine ⟨prsE M, [], by simp, hid (by simp [prsE, List.map_map, Function.comp_def]), RR, HJ.out [] W _ none H0.out (below_grown (Below.al (Below.refl _ _) _)) (fun r e => by cases e)⟩
  case round =>
    obtain ⟨todo, xs, rfl, HP, HG, HJs⟩ := hrel
    clear hr RR
    rcases HG.out.next Try.prog with ⟨rfl, hn'⟩ | ⟨⟨j, v⟩, todo', w1, hpm, hpI, hn', R1, hen, hon, hsz⟩
    · gi_wp2
      first | go_end0 | refine bodyPost_ret (results_none rfl _ _ _) rfl ?_
      exact ⟨⟨_, rfl⟩, .inl ⟨xs, by simpa using HP.out, HJs.out⟩⟩
    · have hpl : todo'.length + 1 = todo.length := by have := hpm.length_eq; simpa using this.symm
      have hJ1 : J xs w1 := HJ.out xs wr w1 (some W.heap.size) HJs.out (onl_grown hon) (fun r e => by cases e; exact ⟨Nat.le_refl _, rng_iter HG.out⟩)
      have hJ2 : J xs (w1.alloc (.cells #[.int .u32 v.id.1, .int .u32 v.id.2, .int .u32 v.home, .int .i64 v.oc, .int .u64 v.w, .int .u32 v.l, .int .u32 v.n] 36)) := HJ.out xs w1 _ none hJ1 (below_grown (Below.al (Below.refl _ _) _)) (fun r e => by cases e)
      have hlt : xs.length < M.length := by
        have := HP.out.length_eq
        simp at this
        omega
      obtain ⟨fn, tmps, assign, body, hy, hR⟩ := HY.out xs v _ hJ2 hlt
      have HP2 : Hid ((xs ++ [v] ++ todo'.map (·.2)).Perm M) := by
        refine hid (List.Perm.trans ?_ HP.out)
        rw [List.append_assoc]
        refine List.Perm.append_left _ ?_
        have := (hpm.map (·.2)).symm
        simpa using this
      have HR2 : Hid (RngO ixv En.val (w1.alloc (.cells #[.int .u32 v.id.1, .int .u32 v.id.2, .int .u32 v.home, .int .i64 v.oc, .int .u64 v.w, .int .u32 v.l, .int .u32 v.n] 36)) m W.heap.size (prsE M) todo') := R1.later (Below.al (Below.refl _ _) _)
      simp only [En.val, ixv] at hn' hen
      clear R1 hpm hpI hon hJ1 hJ2 HG HJs hsz
      gi_wp2
      refine hR.mono ?_
      rintro e W3 (⟨rfl, hJ3, hk3⟩ | ⟨rfl, hJx3⟩)
      · have HK3 := hid (rng_walks HR2.out hk3)
        have HJ3 := hid hJ3
        clear hJ3 hk3
        gi_wp2
        gi_roundg todo'.length
        case measure => omega
        case rel => exact ⟨todo', xs ++ [v], rfl, HP2, HK3, HJ3⟩
      · have HX3 := hid hJx3
        clear hJx3
        gi_wp2
        first | go_end0 | refine bodyPost_ret (results_none rfl _ _ _) rfl ?_
        exact ⟨⟨_, rfl⟩, .inr ⟨xs ++ [v], trivial, HX3.out⟩⟩
theorem values_is (m : Option Nat) (w : World) : Calls Try.prog VALUES #[.map m] w fun e w' => e = .returned (.func (.func VALUES1) #[] #[.pointer (some ⟨w.heap.size, 0, none⟩)]) ∧ w' = w.alloc (.cells #[.map m] 48) := by
  go_enter Try.func20, Try.ntmps20
  go_wp2_with fail
  go_ret
  exact ⟨rfl, rfl⟩
theorem values_stops (n : Nat) (hn : 1 ≤ n) (Bm : Nat) (m : Option Nat) (M : List En) (w : World) (hm : w.cell? ⟨Bm, 0, none⟩ = some (.map m)) (hM : MapO ixv En.val w m (prsE M)) :
    SeqStopsK Fence.wide n Try.prog VALUES1 #[.pointer (some ⟨Bm, 0, none⟩)] (fun x : En => #[.agg #[.int .u32 x.id.1, .int .u32 x.id.2, .int .u32 x.home, .int .i64 x.oc, .int .u64 x.w, .int .u32 x.l, .int .u32 x.n]]) KeepsWalks (fun xs => xs.Perm M) (fun _ => True) M.length w := fun l J Jx W hW hJ _ hY h0 =>
  values1_in n hn l Bm m M J Jx hY W hJ (cell_later hW hm) (hM.later hW) h0
end Go.Proofs.Ytcphmahbhecfaaa.Lg
