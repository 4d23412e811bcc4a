import Derived.Test.YtodolbekbeccbaaRoadOpen
import Derived.Test.YtodolbekbeccbaaNexts
namespace Go.Proofs.Ytodolbekbeccbaa
open Go.ChangeShapes Go.WideShapes Go.ChangeAt Go.RowKit Go.Deep

set_option maxHeartbeats 400000 in
theorem nexts_nil (a b c : Int) (ad : Option Addr) (cap : Nat) (w : World) :
    Calls Try.prog 4 #[.agg #[.int .u64 a, .int .u32 b, .int .u32 c, .slice ad 0 cap]] w fun e w' => e = .returned (.bool true) ∧ Below w.heap.size w w' := by
  go_enter Try.func4, Try.ntmps4
  go_wp2_with fail
  go_loopg [4] 0 (fun g i wr => i = .int .i64 0 ∧ wr.cell? ⟨w.heap.size, 3, none⟩ = some (.slice ad 0 cap) ∧ Below w.heap.size w wr)
  case atStart => exact ⟨rfl, by simp [go_sem], ((Below.refl _ _).alloc (Nat.le_refl _) _).alloc (by simp) _⟩
  case round =>
    obtain ⟨rfl, n3, hb⟩ := hrel
    go_wp2_with fail
    go_ret
    exact ⟨rfl, hb⟩

theorem opened_stampNexts {H : Type} {enc : TypeId × Value → H} {W : World} {r : Reach} {b : Nat} {v : Value} {d : DataW H} {p : List MemPlace}
    (hv : Value.okWide Try.prog W r b 33 v) (h : DataW.Trod enc Try.prog W 0 (fun _ => true) true 33 v d p) :
    Calls Try.prog 4 #[v] W fun e w' => e = .returned (.bool true) ∧ Below W.heap.size W w' := by
  obtain ⟨x, y, z, hs, ⟨ad, cap, rfl⟩ | ⟨bb, off, len, cap, zs, rfl, hm, hbb, hcell, hz⟩⟩ := open_road hv h
  · exact nexts_nil x y z ad cap W
  · exact nexts_walk x y z bb off len cap zs W hs hm hbb hcell hz

end Go.Proofs.Ytodolbekbeccbaa
