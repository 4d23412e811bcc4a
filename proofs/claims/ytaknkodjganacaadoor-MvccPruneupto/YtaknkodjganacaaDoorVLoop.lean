import Derived.Test.YtaknkodjganacaaDoorVFrom
import Derived.RangeFuncNested
import Derived.RangeFuncBound
import Derived.RangeFuncCalls
import Derived.RangeFuncLeaves
import Derived.Shelf.Abstract
import Derived.Shelf.RegionOpen
import Derived.OwnWalkIn
import Derived.TacticsInMore
import Derived.LoopNIn
import Derived.LoopIn
import Derived.Stop.RegionWithIn
namespace Go.Proofs.YtaknkodjganacaaDoor.Vs
open Go.RowKit Go.Sort Go.Shelf
set_option linter.unusedVariables false
attribute [local go_sem] Oper.semAt_some

/-- the function value of a loop's body: what one call of it comes to -/
abbrev Yld (l : Nat) (e : En) (W : World) (R : Ending → World → Prop) : Prop := ∀ m, YieldAt Fence.wide m Tryd.prog l #[.string e.1, .slice (some ⟨e.2.g, 0, none⟩) e.2.n e.2.cap] W R
theorem room_none (k : Nat) : Fence.wide.room k := room_wide k
theorem YieldAt.anyD {m : Nat} (m' : Nat) {P : Program} {l : Nat} {args : Array Value} {W : World} {R : Ending → World → Prop} (h : YieldAt Fence.wide m P l args W R) : YieldAt Fence.wide m' P l args W R := by
  obtain ⟨fn, tmps, assign, body, hy, hR⟩ := h
  exact ⟨fn, tmps, assign, body, hy, ⟨hR.1, fun c cs _ => hR.2 c cs (room_wide _)⟩⟩
/-- what an iterator asks of the loop -/
structure Loops {α : Type} (f : α → En) (l N : Nat) (J Jx : List α → World → Prop) : Prop where
  round : ∀ m pre x W, J pre W → pre.length < N → YieldAt Fence.wide m Tryd.prog l #[.string (f x).1, .slice (some ⟨(f x).2.g, 0, none⟩) (f x).2.n (f x).2.cap] W fun e W' => ∃ u, e = .returned (.bool u) ∧ (u = true → J (pre ++ [x]) W' ∧ Kp W W') ∧ (u = false → Jx (pre ++ [x]) W')
  later : ∀ pre W W', J pre W → Below W.heap.size W W' → J pre W'

theorem map_parts {α : Type} {f : α → En} {ys : List α} {a b c : List En} (h : ys.map f = a ++ b ++ c) : ∃ y1 y2 y3, ys = y1 ++ y2 ++ y3 ∧ y1.map f = a ∧ y2.map f = b ∧ y3.map f = c := by
  obtain ⟨y12, y3, rfl, h12, h3⟩ := List.map_eq_append_iff.1 h
  obtain ⟨y1, y2, rfl, h1, h2⟩ := List.map_eq_append_iff.1 h12
  exact ⟨y1, y2, y3, rfl, h1, h2, h3⟩
theorem map_one {α : Type} {f : α → En} {ys : List α} {e : En} (h : ys.map f = [e]) : ∃ y, ys = [y] ∧ f y = e := by
  cases ys with
  | nil => simp at h
  | cons y t =>
    cases t with
    | nil => exact ⟨y, rfl, by simpa using h⟩
    | cons z t => simp at h

/-- what up and down come to -/
def Ran {α : Type} (J Jx : List α → World → Prop) (pre ys : List α) (W : World) : Ending → World → Prop := fun e W' =>
  ∃ u, e = .returned (.bool u) ∧ (u = true → J (pre ++ ys) W' ∧ Kp W W') ∧ (u = false → ∃ q, q <+: ys ∧ Jx (pre ++ q) W')

theorem box_new (w : World) (lo hi : ByteArray) : (w.alloc (.cells #[.string lo, .string hi] 28)).heap[w.heap.size]? = some (.cells #[.string lo, .string hi] 28 (0, 0)) := World.alloc_heap_new w _
theorem box_kp {w w' : World} {B : Nat} {lo hi : ByteArray} (h : Kp w w') (hb : w.heap[B]? = some (.cells #[.string lo, .string hi] 28 (0, 0))) : w'.heap[B]? = some (.cells #[.string lo, .string hi] 28 (0, 0)) := h.2 B _ _ _ (.inr (.inl rfl)) hb


end Go.Proofs.YtaknkodjganacaaDoor.Vs
