import Derived.Test.YtiheilkjlapoiaaFeRow0
import Derived.RangeFuncNested
import Derived.RangeFuncBound
import Derived.RangeFuncCalls
import Derived.RangeFuncLeaves
import Derived.RangeFuncBox
import Derived.Shelf.Abstract
import Derived.Shelf.RegionOpen
import Derived.OwnWalkIn
import Derived.TacticsInMore
import Derived.LoopNIn
import Derived.LoopIn
import Derived.Maps.AppendAt
import Derived.Sort.LoopGhostIn
/- slices.Values at entries. -/
namespace Go.Proofs.Ytiheilkjlapoiaa.Lg
open Go.RowKit Go.Sort Go.Shelf Go.Lib Lk
set_option linter.unusedVariables false
attribute [local go_sem] Oper.semAt_some

abbrev VALS : Nat := 16
abbrev VALS1 : Nat := 22
def nthE (xs : List En) (i : Nat) : En := (xs[i]?).getD En.zero
/-- a row of entries that is read -/
def RowE (w : World) (a : Option Addr) (xs : List En) : Prop :=
  ∀ i, i < xs.length → ∃ b off, a = some ⟨b, off, none⟩ ∧ b < w.heap.size ∧ (∀ j v, (ecs (nthE xs i))[j]? = some v → w.cell? ⟨b, off + i * 7 + j, none⟩ = some v)
theorem RowE.later {w w' : World} {a : Option Addr} {xs : List En} (h : RowE w a xs) (hb : Below w.heap.size w w') : RowE w' a xs := fun i hi => by
  obtain ⟨b, off, e, hlt, hc⟩ := h i hi
  exact ⟨b, off, e, Nat.lt_of_lt_of_le hlt hb.size, fun j v hj => cell_later hb (hc j v hj)⟩
theorem below_grown {w w' : World} (h : Below w.heap.size w w') : w.grownBy w' none := ⟨h.os, h.tape, h.output, h.size, fun k hk _ => h.block k hk⟩
theorem nthE_take (xs : List En) (i : Nat) (h : i < xs.length) : xs.take (i + 1) = xs.take i ++ [nthE xs i] := by
  rw [List.take_add_one, nthE, List.getElem?_eq_getElem h]; rfl
/-- cells of walked rows and boxes lie in blocks of cells: an iterator leaves them -/
theorem walks_cell {w w' : World} (hk : KeepsWalks w w') : w.heap.size ≤ w'.heap.size := hk.size

set_option maxRecDepth 100000 in
set_option maxHeartbeats 1000000 in
theorem vals1_in (n : Nat) (hn : 1 ≤ n) (l Bm : Nat) (a : Option Addr) (c : Nat) (M : List En) (J Jx : List En → World → Prop) (K : World → Prop)
    (hK : ∀ W, K W → W.cell? ⟨Bm, 0, none⟩ = some (.slice a M.length c) ∧ RowE W a M)
    (hKa : ∀ W o, K W → K (W.alloc o)) (hml : M.length ≤ 3518437208882)
    (hY : ∀ i W, J (M.take i) W → K W → i < M.length → YieldAt Fence.wide (n - 1) Try.prog l #[(nthE M i).val] W fun e W' => (e = .returned (.bool true) ∧ J (M.take i ++ [nthE M i]) W' ∧ K W') ∨ (e = .returned (.bool false) ∧ Jx (M.take i ++ [nthE M i]) W'))
    (W : World) (hJ : AbidesFrom W.heap.size J) (h0 : J [] W) (hk0 : K W) :
    CallsIn Fence.wide n Try.prog VALS1 #[.func (.yield l) #[] #[], .pointer (some ⟨Bm, 0, none⟩)] W fun e W' => (∃ v, e = .returned v) ∧ (J M W' ∨ (∃ i, i < M.length ∧ Jx (M.take (i + 1)) W')) := by
  have HY := hid hY
  have HJ := hid hJ
  have HK := hid hK
  have HKA := hid hKa
  have H0 := hid h0
  have HK0 := hid hk0
  obtain ⟨hm, hrow⟩ := hK W hk0
  obtain ⟨nn, hnn⟩ : ∃ nn, nn = M.length := ⟨_, rfl⟩
  rw [← hnn] at hm hml ⊢
  clear hY hJ h0 hK hk0 hKa hrow
  refine callsIn_of_wp Try.func22 rfl trivial ?_ rfl
  simp only [Try.ntmps22, List.size_toArray, List.length_cons, List.length_nil, Nat.reduceAdd, Nat.reduceSub, Array.replicate_succ, Array.replicate_zero, List.push_toArray, List.append_toArray, List.nil_append, List.cons_append]
  gi_wp2
  gi_loopg [7] nn (fun g s7 wr => ∃ (i : Nat), i ≤ nn ∧ g = nn - i ∧ s7 = .int .i64 i ∧ Hid (J (M.take i) wr) ∧ Hid (K wr))
  case atStart =>
    exact ⟨0, by omega, by omega, rfl, hid (by simpa using H0.out), HK0⟩
  case round =>
    obtain ⟨i, hi, rfl, rfl, HJs, HKs⟩ := hrel
    clear hm
    by_cases hlt : i < nn
    · obtain ⟨hc, hr⟩ := HK.out wr HKs.out
      obtain ⟨b, off, ea, hbl, hcs⟩ := hr i (by omega)
      obtain ⟨x, hx⟩ : ∃ x, x = nthE M i := ⟨_, rfl⟩
      rw [← hx] at hcs
      have x0 : wr.cell? ⟨b, off + i * 7, none⟩ = some (.int .u32 x.id.1) := hcs 0 _ rfl
      have x1 : wr.cell? ⟨b, off + i * 7 + 1, none⟩ = some (.int .u32 x.id.2) := hcs 1 _ rfl
      have x2 : wr.cell? ⟨b, off + i * 7 + 2, none⟩ = some (.int .u32 x.home) := hcs 2 _ rfl
      have x3 : wr.cell? ⟨b, off + i * 7 + 3, none⟩ = some (.int .i64 x.oc) := hcs 3 _ rfl
      have x4 : wr.cell? ⟨b, off + i * 7 + 4, none⟩ = some (.int .u64 x.w) := hcs 4 _ rfl
      have x5 : wr.cell? ⟨b, off + i * 7 + 5, none⟩ = some (.int .u32 x.l) := hcs 5 _ rfl
      have x6 : wr.cell? ⟨b, off + i * 7 + 6, none⟩ = some (.int .u32 x.n) := hcs 6 _ rfl
      subst ea
      have hJ2 : J (M.take i) (wr.alloc (.cells #[.int .u32 x.id.1, .int .u32 x.id.2, .int .u32 x.home, .int .i64 x.oc, .int .u64 x.w, .int .u32 x.l, .int .u32 x.n] 60)) := HJ.out _ wr _ none HJs.out (below_grown (Below.al (Below.refl _ _) _)) (fun r e => by cases e)
      have hR0 := HY.out i _ hJ2 (HKA.out _ _ HKs.out) (by omega)
      rw [← hx] at hR0
      obtain ⟨fn, tmps, assign, body, hy, hR⟩ := hR0
      have HE := hid (show M.take (i + 1) = M.take i ++ [x] by rw [nthE_take M i (by omega), hx])
      clear hcs hr hJ2 hx
      gi_wp2
      refine hR.mono ?_
      rintro e W3 (⟨rfl, hJ3, hk3⟩ | ⟨rfl, hJx3⟩)
      · have HK3 := hid hk3
        have HJ3 := hid hJ3
        clear hJ3 hk3
        gi_wp2
        gi_roundg (nn - (i + 1))
        case measure => omega
        case rel => exact ⟨i + 1, by omega, rfl, by go_num, hid (by rw [HE.out]; exact HJ3.out), HK3⟩
      · have HX3 := hid hJx3
        clear hJx3
        gi_wp2
        first | go_end0 | refine bodyPost_ret (results_none rfl _ _ _) rfl ?_
        exact ⟨⟨_, rfl⟩, .inr ⟨i, hlt, by rw [HE.out]; exact HX3.out⟩⟩
    · gi_wp2
      first | go_end0 | refine bodyPost_ret (results_none rfl _ _ _) rfl ?_
      exact ⟨⟨_, rfl⟩, .inl (by have := HJs.out; rwa [List.take_of_length_le (by omega)] at this)⟩
theorem vals_is (a : Option Addr) (n c : Nat) (w : World) : Calls Try.prog VALS #[.slice a n c] w fun e w' => e = .returned (.func (.func VALS1) #[] #[.pointer (some ⟨w.heap.size, 0, none⟩)]) ∧ w' = w.alloc (.cells #[.slice a n c] 38) := by
  go_enter Try.func16, Try.ntmps16
  go_wp2_with fail
  go_ret
  exact ⟨rfl, rfl⟩
theorem vals_stops (n : Nat) (hn : 1 ≤ n) {Bm : Nat} {a : Option Addr} {c : Nat} {M : List En} {v w : World} (hvw : Below v.heap.size v w) (hm : v.cell? ⟨Bm, 0, none⟩ = some (.slice a M.length c)) (hr : RowE v a M) (hml : M.length ≤ 3518437208882) :
    SeqStopsK Fence.wide n Try.prog VALS1 #[.pointer (some ⟨Bm, 0, none⟩)] (fun x : En => #[.agg #[.int .u32 x.id.1, .int .u32 x.id.2, .int .u32 x.home, .int .i64 x.oc, .int .u64 x.w, .int .u32 x.l, .int .u32 x.n]]) (Below v.heap.size) (fun xs => xs = M) (fun pre => ∃ i, i < M.length ∧ pre = M.take (i + 1)) M.length w := fun l J Jx W hW hJ _ hY h0 =>
  (vals1_in n hn l Bm a c M J Jx (fun W => Below v.heap.size v W) (fun W hB => ⟨cell_later hB hm, hr.later hB⟩) (fun W o hB => Below.al hB o) hml
    (fun i W hJi hK hi => by
      obtain ⟨fn, tmps, assign, body, hy, hR⟩ := hY (M.take i) (nthE M i) W hJi (by rw [List.length_take]; omega)
      refine ⟨fn, tmps, assign, body, hy, hR.mono ?_⟩
      rintro e W' (⟨h1, h2, h3⟩ | h)
      · exact .inl ⟨h1, h2, hK.trans h3⟩
      · exact .inr h)
    W hJ h0 (hvw.trans (hW.mono hvw.size))).mono fun e W' h => ⟨h.1, h.2.elim (fun k => .inl ⟨M, rfl, k⟩) (fun ⟨i, hi, k⟩ => .inr ⟨_, ⟨i, hi, rfl⟩, k⟩)⟩
end Go.Proofs.Ytiheilkjlapoiaa.Lg
