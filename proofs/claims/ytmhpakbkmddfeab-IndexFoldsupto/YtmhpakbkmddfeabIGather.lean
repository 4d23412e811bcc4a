import Derived.Test.YtmhpakbkmddfeabITwo
import Derived.Test.YtmhpakbkmddfeabISpan
import Derived.Test.YtmhpakbkmddfeabIAsk
namespace Go.Proofs.Ytmhpakbkmddfeab
open Go.RowKit Go.Sort
set_option linter.unusedVariables false

theorem onl_of_grown {w w' : World} {row : Option Nat} (h : w.grownBy w' row) : Onl (fun b => row = some b) w w' :=
  ⟨h.os, h.tape, h.output, h.size, fun k hk hn => h.block k hk (fun e => hn e.symm)⟩
abbrev OwnB (v : Value) : Nat → Prop := fun b => v.ownBlock = some b
set_option maxHeartbeats 2000000 in
theorem gather_is {w : World} {B : Nat} {v : Value} {l : List En} (h : OwnE w B v l) (k : ByteArray) (n : Int) (hl : (l.length + 1) * 64 ≤ 140737488355328) (hB : B ≤ w.heap.size) :
    Calls Try.prog 22 #[v, .string k, .int .i64 n] w fun e w' => ∃ v', e = .returned v' ∧ OwnE w' B v' (l ++ [(k, n)]) ∧ Onl (OwnB v) w w' := by
  have HO := hid h
  have HL := hid hl
  have HB := hid hB
  clear h hl hB
  go_enter Try.func22, Try.ntmps22
  go_wp2_with (at_builtin; refine append_E rfl _ _ rfl (k, n) rfl (HO.out.later (Below.al (Below.refl _ _) _)) rfl (new2 _ _ _ _) HL.out (by have := HB.out; simp; omega) ?_; intro v6 w6 ho6 hg6; have ho6 := hid ho6; have hg6 := hid hg6)
  go_ret
  exact ⟨v6, rfl, ho6.out, (Onl.of_below (Below.al (Below.refl _ _) _)).trans (onl_of_grown hg6.out)⟩

end Go.Proofs.Ytmhpakbkmddfeab
