import Derived.Test.YtfkiccdjffhhhaaGreatDoorRdNum
import Derived.Test.YtfkiccdjffhhhaaGreatDoorRdDraft
import Derived.Test.YtfkiccdjffhhhaaGreatDoorDOnl
/- A line's number, taken. -/
namespace Go.Proofs.YtfkiccdjffhhhaaGreatDoor.Rt
open Go.RowKit Go.Sort
set_option linter.unusedVariables false

set_option maxRecDepth 16000 in
set_option maxHeartbeats 2000000 in
theorem ftake_is {u o p : Nat} {t : ByteArray} {ty : TypeId} {a : Option Addr} {w : World} {x : Value} (hu : u < 18446744073709551616) (ht : t.data.toList = Lib.decDigits u) (hs : t.size ≤ 1000) (hg : w.cell? ⟨6, 0, none⟩ = some (.iface ty (.pointer a))) (hp : p ≠ 6)
    (h0 : w.cell? ⟨p, o, none⟩ = some (.bool false)) (h1 : w.cell? ⟨p, o + 1, none⟩ = some x) (hf : ∀ o, w.frozen? ⟨p, o, none⟩ = false) (hl : p < w.heap.size) :
    Calls Tryz.prog 54 #[.pointer (some ⟨p, o, none⟩), .string t] w fun e w' => e = .returned .nilIface ∧ ∃ w1, Below w.heap.size (w.setCell ⟨p, o, none⟩ (.bool true)) w1 ∧ w' = w1.setCell ⟨p, o + 1, none⟩ (.int .u64 (u : Nat)) := by
  obtain ⟨wc, hwc⟩ : ∃ wc, wc = w.setCell ⟨p, o, none⟩ (.bool true) := ⟨_, rfl⟩
  have hgc : wc.cell? ⟨6, 0, none⟩ = some (.iface ty (.pointer a)) := by rw [hwc, World.cell?_setCell_other (h := fun e => hp (congrArg Addr.block e))]; exact hg
  have HN := hid (number_is hu ht hs hgc)
  have f0 := hf o
  have h1c : wc.cell? ⟨p, o + 1, none⟩ = some x := by rw [hwc, World.cell?_setCell_other (h := fun e => by have := congrArg Addr.off e; simp at this)]; exact h1
  have f1 : wc.frozen? ⟨p, o + 1, none⟩ = false := by rw [hwc, World.frozen?_setCell]; exact hf _
  have hlc : p < wc.heap.size := by rw [hwc, World.size_setCell]; exact hl
  have hsz : wc.heap.size = w.heap.size := by rw [hwc, World.size_setCell]
  go_enter Tryz.func54, Tryz.ntmps54
  go_wp2_with fail
  rw [← hwc]
  refine HN.out.mono ?_
  rintro e w2 ⟨rfl, hb⟩
  have k1 := cell_later hb h1c
  have k2 := (hb.frozen (p := ⟨p, o + 1, none⟩) hlc).trans f1
  go_wp2_with fail
  go_ret
  exact ⟨rfl, w2, by rw [← hwc, ← hsz]; exact hb, rfl⟩
theorem ftwice_is {o p : Nat} {t : ByteArray} {x : Value} {w : World} (h0 : w.cell? ⟨p, o, none⟩ = some (.bool true)) (hg : w.cell? ⟨0, 0, none⟩ = some x) :
    Calls Tryz.prog 54 #[.pointer (some ⟨p, o, none⟩), .string t] w fun e w' => e = .returned x ∧ w' = w := by
  go_enter Tryz.func54, Tryz.ntmps54
  go_wp2_with fail
  go_ret
  exact ⟨rfl, rfl⟩
end Go.Proofs.YtfkiccdjffhhhaaGreatDoor.Rt
