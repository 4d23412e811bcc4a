/-
  No cell of these rows narrows 'for every input' (looked for: loops, veiled, ifaces, maps, wideKeys, modest, calm, conditions, laid).
  DERIVED. THE GIVEN ROWS OF THIS SEAT. 3 by the template 'for every input the law returns true; each argument reads behind the call as it read before'; 0 by the template 'total and deterministic' (their statements: YtofpaldolcnmiaaGreatTotals.lean).
  GIVEN WITH THE SEED: the statements are not yours to turn. If you find one false, say at which input.
  Laid BY PROGRAM, IN A SANDBOX (cutbox-rows.mjs): the forced cells as the released guide's own fill.sh prints them over the translation cf3a6830164808da… (all of the seat's roots in one cut). By AI agents, Wed Nov 11 2026. No macro, syntax, notation, axiom, sorry.
-/
import Derived.Test.YtofpaldolcnmiaaGreatChecked
import GoSem.Claim
import GoSem.ClaimJoined
import GoSem.ClaimMapViews
import Derived.JoinedTies
import Derived.KernelRfl
namespace Go.Proofs.YtofpaldolcnmiaaGreat
/- THE CELL 'sum', in the pinned program and in every row, IS THE sha256 OF THE DUMP (.gsa) THAT YtofpaldolcnmiaaGreatProg.lean LOADS. Nothing in Lean hashes anything: it is a label: what it is worth is what the hold of that sum in a sandbox is worth. -/
noncomputable def Tryz.pinned : Pinned := { name := "ytofpaldolcnmiaagreat", sum := "cf3a6830164808da1236210971b57e86169f4d7d39c4002062308a2b660e649c", checked := Tryz.checked }
namespace Rows
def none {H : Type} : Left H := { results := [], args := [] }

/-- 'tidemarklaw13.StateTwin': WHATEVER THE INPUT: true; the input reads as it did. -/
def stateTwinSpec : ChangeSpec := { name := "stateTwin", fn := fun _ => fun
  | [d] => { results := [.lit (.bool true)], args := [d] }
  | _ => none }
def stateTwinRow : OpenClaim := { program := "ytofpaldolcnmiaagreat", sum := "cf3a6830164808da1236210971b57e86169f4d7d39c4002062308a2b660e649c", func := "tidemark/tidemarklaw13.StateTwin", spec := "stateTwin", unfollowed := true, recurses := true, plainKeys := false, apart := false }
def StateTwinSaid : Prop := stateTwinRow.holds Tryz.pinned (OpenSpec.ofChange stateTwinSpec)

/-- ITS FALSE NEIGHBOUR: 'it returns false'. Refute it at one input. -/
def stateTwinWrong : ChangeSpec := { name := "stateTwin", fn := fun _ => fun
  | [d] => { results := [.lit (.bool false)], args := [d] }
  | _ => none }
def StateTwinWrongFalsely : Prop := stateTwinRow.holds Tryz.pinned (OpenSpec.ofChange stateTwinWrong)

/-- 'tidemarklaw13.StateFolds': WHATEVER THE INPUT: true; the input reads as it did. -/
def stateFoldsSpec : ChangeSpec := { name := "stateFolds", fn := fun _ => fun
  | [d] => { results := [.lit (.bool true)], args := [d] }
  | _ => none }
def stateFoldsRow : OpenClaim := { program := "ytofpaldolcnmiaagreat", sum := "cf3a6830164808da1236210971b57e86169f4d7d39c4002062308a2b660e649c", func := "tidemark/tidemarklaw13.StateFolds", spec := "stateFolds", unfollowed := true, recurses := true, plainKeys := false, apart := false }
def StateFoldsSaid : Prop := stateFoldsRow.holds Tryz.pinned (OpenSpec.ofChange stateFoldsSpec)

/-- ITS FALSE NEIGHBOUR: 'it returns false'. Refute it at one input. -/
def stateFoldsWrong : ChangeSpec := { name := "stateFolds", fn := fun _ => fun
  | [d] => { results := [.lit (.bool false)], args := [d] }
  | _ => none }
def StateFoldsWrongFalsely : Prop := stateFoldsRow.holds Tryz.pinned (OpenSpec.ofChange stateFoldsWrong)

/-- 'tidemarklaw13.StateLoads': WHATEVER THE INPUT: true; the input reads as it did. -/
def stateLoadsSpec : ChangeSpec := { name := "stateLoads", fn := fun _ => fun
  | [d] => { results := [.lit (.bool true)], args := [d] }
  | _ => none }
def stateLoadsRow : OpenClaim := { program := "ytofpaldolcnmiaagreat", sum := "cf3a6830164808da1236210971b57e86169f4d7d39c4002062308a2b660e649c", func := "tidemark/tidemarklaw13.StateLoads", spec := "stateLoads", unfollowed := true, recurses := true, plainKeys := false, apart := false }
def StateLoadsSaid : Prop := stateLoadsRow.holds Tryz.pinned (OpenSpec.ofChange stateLoadsSpec)

/-- ITS FALSE NEIGHBOUR: 'it returns false'. Refute it at one input. -/
def stateLoadsWrong : ChangeSpec := { name := "stateLoads", fn := fun _ => fun
  | [d] => { results := [.lit (.bool false)], args := [d] }
  | _ => none }
def StateLoadsWrongFalsely : Prop := stateLoadsRow.holds Tryz.pinned (OpenSpec.ofChange stateLoadsWrong)

/- THE SECOND FORM. 'bulk': how many values and letters a reading holds, each counted each time it is reached (what is shared counts as often as it is met; a slice's spare places count too). A statement '..UptoSaid' is the law's where the arguments, and the package variables that the reading takes, are together of bulk at most 1048576: NARROWER than '..Said'. Prove '..Said' where nothing that the law and all that it calls make is longer than what came in: it says more and counts as full. Else prove '..UptoSaid'. A law counts once. -/
mutual
def uptoBulk {H : Type} : DataW H → Nat
  | .lit (.string bytes) => bytes.length + 1
  | .lit _ => 1
  | .nil => 1
  | .ptr d => uptoBulk d + 1
  | .slice elems spare => uptoBulkAll elems + uptoBulkAll spare + 1
  | .agg parts => uptoBulkAll parts + 1
  | .iface _ d => uptoBulk d + 1
  | .map entries => uptoBulkEntries entries + 1
  | .held _ => 1
def uptoBulkAll {H : Type} : List (DataW H) → Nat
  | [] => 0
  | d :: r => uptoBulk d + uptoBulkAll r
def uptoBulkEntries {H : Type} : List (Lit × DataW H) → Nat
  | [] => 0
  | x :: r => uptoBulkEntry x + uptoBulkEntries r
def uptoBulkEntry {H : Type} : Lit × DataW H → Nat
  | (.string bytes, d) => bytes.length + uptoBulk d + 1
  | (_, d) => uptoBulk d + 1
 end
def uptoSmall : (H : Type) → List (DataW H) → Bool := fun _ ds => decide (uptoBulkAll ds ≤ 1048576)
def OpenSpec.upto (s : _root_.Go.ChangeSpec) : _root_.Go.OpenSpec := { _root_.Go.OpenSpec.ofChange s with cond := some uptoSmall }

/-- 'tidemarklaw13.StateTwin', WHERE WHAT IT READS IS OF BULK AT MOST 1048576: true; the input reads as it did. -/
def stateTwinUptoRow : OpenClaim := { program := "ytofpaldolcnmiaagreat", sum := "cf3a6830164808da1236210971b57e86169f4d7d39c4002062308a2b660e649c", func := "tidemark/tidemarklaw13.StateTwin", spec := "stateTwin", unfollowed := true, recurses := true, plainKeys := false, apart := false, narrowed := true }
def StateTwinUptoSaid : Prop := stateTwinUptoRow.holds Tryz.pinned (OpenSpec.upto stateTwinSpec)

/-- 'tidemarklaw13.StateFolds', WHERE WHAT IT READS IS OF BULK AT MOST 1048576: true; the input reads as it did. -/
def stateFoldsUptoRow : OpenClaim := { program := "ytofpaldolcnmiaagreat", sum := "cf3a6830164808da1236210971b57e86169f4d7d39c4002062308a2b660e649c", func := "tidemark/tidemarklaw13.StateFolds", spec := "stateFolds", unfollowed := true, recurses := true, plainKeys := false, apart := false, narrowed := true }
def StateFoldsUptoSaid : Prop := stateFoldsUptoRow.holds Tryz.pinned (OpenSpec.upto stateFoldsSpec)

/-- 'tidemarklaw13.StateLoads', WHERE WHAT IT READS IS OF BULK AT MOST 1048576: true; the input reads as it did. -/
def stateLoadsUptoRow : OpenClaim := { program := "ytofpaldolcnmiaagreat", sum := "cf3a6830164808da1236210971b57e86169f4d7d39c4002062308a2b660e649c", func := "tidemark/tidemarklaw13.StateLoads", spec := "stateLoads", unfollowed := true, recurses := true, plainKeys := false, apart := false, narrowed := true }
def StateLoadsUptoSaid : Prop := stateLoadsUptoRow.holds Tryz.pinned (OpenSpec.upto stateLoadsSpec)

end Rows
end Go.Proofs.YtofpaldolcnmiaaGreat
