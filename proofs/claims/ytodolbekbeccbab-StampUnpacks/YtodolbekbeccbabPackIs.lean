import Derived.Test.YtodolbekbeccbabPack
import Derived.Test.YtodolbekbeccbabLex
import Derived.Test.YtodolbekbeccbabNextPlain
namespace Go.Proofs.Ytodolbekbeccbab
open Go.RowKit Go.Sort

theorem pack_is {a b c : Int} {p : ByteArray} (h : StB a b c) (e : p = strOfNums (pk a b c)) (w : World) :
    Calls Try.prog 8 #[stv a b c] w fun e w' => e = .returned (.string p) ∧ Below w.heap.size w w' := by
  rw [e]; exact pack_any a b c w h.1 h.2.1 h.2.2

end Go.Proofs.Ytodolbekbeccbab
