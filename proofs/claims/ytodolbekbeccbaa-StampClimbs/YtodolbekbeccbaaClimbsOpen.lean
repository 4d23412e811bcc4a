import Derived.Test.YtodolbekbeccbaaRoadOpen
import Derived.Test.YtodolbekbeccbaaClimbs
namespace Go.Proofs.Ytodolbekbeccbaa
open Go.ChangeShapes Go.WideShapes Go.ChangeAt Go.RowKit Go.Deep

set_option maxHeartbeats 400000 in
theorem climbs_nil (a b c : Int) (ad : Option Addr) (cap : Nat) (w : World) :
    Calls Try.prog 5 #[.agg #[.int .u64 a, .int .u32 b, .int .u32 c, .slice ad 0 cap]] w fun e w' => e = .returned (.bool true) ∧ Below w.heap.size w w' := by
  go_enter Try.func5, Try.ntmps5
  go_upto_region 1 with fail
  go_cut [3, 4] (fun s3 s4 wx => s4 = .slice ad 0 cap ∧ Below w.heap.size w wx)
  case first =>
    go_region
    all_goals (go_wp2_with fail; go_meet)
    all_goals (refine ⟨rfl, ?_⟩)
    all_goals (repeat (first | exact Below.refl _ _ | refine Below.drew ?_ | refine Below.al ?_ _))
  case rest =>
  obtain ⟨rfl, hb0⟩ := hcut
  go_wp2_with fail
  go_loopg [5] 0 (fun g i wr => i = .int .i64 0 ∧ Below w.heap.size w wr)
  case atStart => exact ⟨rfl, hb0⟩
  case round =>
    obtain ⟨rfl, hb⟩ := hrel
    go_wp2_with fail
    go_ret
    exact ⟨rfl, hb⟩

theorem opened_stampClimbs {H : Type} {enc : TypeId × Value → H} {W : World} {r : Reach} {b : Nat} {v : Value} {d : DataW H} {p : List MemPlace}
    (hv : Value.okWide Try.prog W r b 33 v) (h : DataW.Trod enc Try.prog W 0 (fun _ => true) true 33 v d p) :
    Calls Try.prog 5 #[v] W fun e w' => e = .returned (.bool true) ∧ Below W.heap.size W w' := by
  obtain ⟨x, y, z, hs, ⟨ad, cap, rfl⟩ | ⟨bb, off, len, cap, zs, rfl, hm, hbb, hcell, hz⟩⟩ := open_road hv h
  · exact climbs_nil x y z ad cap W
  · exact climbs_walk x y z bb off len cap zs W hs hm hbb hcell hz

end Go.Proofs.Ytodolbekbeccbaa
