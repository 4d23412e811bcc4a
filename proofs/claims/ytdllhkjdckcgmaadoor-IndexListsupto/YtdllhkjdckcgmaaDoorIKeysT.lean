import Derived.Test.YtdllhkjdckcgmaaDoorIMany
import Derived.Test.YtdllhkjdckcgmaaDoorIKeys
namespace Go.Proofs.YtdllhkjdckcgmaaDoor
open Go.RowKit Go.Sort
set_option linter.unusedVariables false

abbrev ks (l : List En) : List ByteArray := l.map fun e => e.1
theorem ks_txs (l : List En) : (ks l).map Value.string = txs l := by simp [ks, txs]
theorem keysT_is {w : World} {p : Nat} {l : List En} (h : Xi w p l) (lo hi : ByteArray) (hn : l.length * 16 ≤ 70368744177664) :
    Calls Tryd.prog 9 #[.pointer (some ⟨p, 0, none⟩), .agg #[.string lo, .string hi]] w fun e w' =>
      ∃ ka kc, e = .returned (.slice ka (ks (rangeX l lo hi)).length kc) ∧ RowT w' ka (ks (rangeX l lo hi)) ∧ Below w.heap.size w w' :=
  (keys_is h lo hi hn).mono fun e w' ⟨v, he, hrow, hb⟩ => by
    have hrow' : w'.ownsRow w.heap.size 9 1 v (ks (rangeX l lo hi)).length ((ks (rangeX l lo hi)).map Value.string) := by rw [List.length_map, ks_txs]; exact hrow
    obtain ⟨ka, kc, hv, hT⟩ := rowT_of_owns hrow'
    exact ⟨ka, kc, by rw [he, hv], hT, hb⟩

end Go.Proofs.YtdllhkjdckcgmaaDoor
