import Derived.Test.YtfkiccdjffhhhaaGreatDoorRdPlain
import Derived.Test.YtfkiccdjffhhhaaGreatDoorBase0
import Derived.Lib.QuietBelow
import Derived.BigQuiet
/- What the lines have said so far, as it lies in memory. -/
namespace Go.Proofs.YtfkiccdjffhhhaaGreatDoor.Rt
open Go.RowKit Go.Sort
set_option linter.unusedVariables false

/-- a draft at p; v: the row of its split keys -/
structure BoxD (w : World) (p : Nat) (d : Dr) (v : Value) : Prop where
  s0 : w.cell? ⟨p, 0, none⟩ = some (.bool (d.f 0).isSome)
  v0 : w.cell? ⟨p, 1, none⟩ = some (.int .u64 ((d.f 0).getD 0 : Nat))
  s1 : w.cell? ⟨p, 2, none⟩ = some (.bool (d.f 1).isSome)
  v1 : w.cell? ⟨p, 3, none⟩ = some (.int .u64 ((d.f 1).getD 0 : Nat))
  s2 : w.cell? ⟨p, 4, none⟩ = some (.bool (d.f 2).isSome)
  v2 : w.cell? ⟨p, 5, none⟩ = some (.int .u64 ((d.f 2).getD 0 : Nat))
  s3 : w.cell? ⟨p, 6, none⟩ = some (.bool (d.f 3).isSome)
  v3 : w.cell? ⟨p, 7, none⟩ = some (.int .u64 ((d.f 3).getD 0 : Nat))
  s4 : w.cell? ⟨p, 8, none⟩ = some (.bool (d.f 4).isSome)
  v4 : w.cell? ⟨p, 9, none⟩ = some (.int .u64 ((d.f 4).getD 0 : Nat))
  sp : w.cell? ⟨p, 10, none⟩ = some v
theorem BoxD.later {w w' : World} {p : Nat} {d : Dr} {v : Value} (h : BoxD w p d v) (hb : Below w.heap.size w w') : BoxD w' p d v :=
  ⟨cell_later hb h.s0, cell_later hb h.v0, cell_later hb h.s1, cell_later hb h.v1, cell_later hb h.s2, cell_later hb h.v2, cell_later hb h.s3, cell_later hb h.v3, cell_later hb h.s4, cell_later hb h.v4, cell_later hb h.sp⟩

/-- a number as an int: above every limit it stays so -/
def smallN (n : Nat) : Nat := if n ≤ 1048577 then n else 1048577
set_option maxHeartbeats 1000000 in
theorem small_is {w : World} {p o n : Nat} (hn : n < 18446744073709551616) (h : w.cell? ⟨p, o + 1, none⟩ = some (.int .u64 (n : Nat))) :
    Calls Tryz.prog 40 #[.pointer (some ⟨p, o, none⟩)] w fun e w' => e = .returned (.int .i64 (smallN n : Nat)) ∧ w' = w := by
  by_cases hs : n ≤ 1048577
  · have hm : min (n : Int) 1048577 = (n : Int) := by omega
    have hv : smallN n = n := if_pos hs
    rw [hv]
    go_enter Tryz.func40, Tryz.ntmps40
    go_wp2_with fail
    go_ret
    exact ⟨by go_num, rfl⟩
  · have hm : min (n : Int) 1048577 = 1048577 := by omega
    have hv : smallN n = 1048577 := if_neg hs
    rw [hv]
    go_enter Tryz.func40, Tryz.ntmps40
    go_wp2_with fail
    go_ret
    exact ⟨by go_num, rfl⟩
set_option maxHeartbeats 2000000 in
theorem whole_is {w : World} {p : Nat} {d : Dr} {v : Value} (h : BoxD w p d v) :
    Calls Tryz.prog 38 #[.pointer (some ⟨p, 0, none⟩)] w fun e w' => e = .returned (.bool d.whole) ∧ Below w.heap.size w w' := by
  obtain ⟨h0, _, h1, _, h2, _, h3, _, h4, _, _⟩ := h
  unfold Dr.whole
  generalize (d.f 0).isSome = b0 at h0 ⊢
  generalize (d.f 1).isSome = b1 at h1 ⊢
  generalize (d.f 2).isSome = b2 at h2 ⊢
  generalize (d.f 3).isSome = b3 at h3 ⊢
  generalize (d.f 4).isSome = b4 at h4 ⊢
  cases b0 <;> cases b1 <;> cases b2 <;> cases b3 <;> cases b4
  all_goals
    go_enter Tryz.func38, Tryz.ntmps38
    go_wp2_with fail
    go_ret
    exact ⟨rfl, Below.refl _ _⟩
end Go.Proofs.YtfkiccdjffhhhaaGreatDoor.Rt
