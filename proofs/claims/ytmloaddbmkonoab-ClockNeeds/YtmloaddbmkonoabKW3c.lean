import Derived.Test.YtmloaddbmkonoabKOnly
namespace Go.Proofs.Ytmloaddbmkonoab
open Go.RowKit Go.Sort

/-- a world with one stamp more -/
abbrev w3c (w : World) (a b c : Int) : World := w.alloc (.cells #[.int .u64 a, .int .u32 b, .int .u32 c] 33)
theorem w3c_at (w : World) (a b c : Int) : StampAt (w3c w a b c) w.heap.size a b c := by refine ⟨?_, ?_, ?_⟩ <;> (simp [go_sem]; done)
theorem w3c_loose (w : World) (a b c : Int) : Loose (w3c w a b c) w.heap.size := fun o => by simp [go_sem]
theorem w3c_below (w : World) (a b c : Int) : Below w.heap.size w (w3c w a b c) := Below.al (Below.refl _ _) _
theorem w3c_size (w : World) (a b c : Int) : w.heap.size < (w3c w a b c).heap.size := by simp

end Go.Proofs.Ytmloaddbmkonoab
