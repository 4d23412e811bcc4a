/-
  NARROWER THAN 'FOR EVERY INPUT', by the rows' own cells (each row's printed sentence says how): MsgValid: laid.
  DERIVED. THE GIVEN ROWS OF THIS SEAT. 1 by the template 'for every input the law returns true; each argument reads behind the call as it read before'; 0 by the template 'total and deterministic' (their statements: YtoejdjiclgjgkaaDoorTotals.lean).
  GIVEN WITH THE SEED: the statements are not yours to turn. If you find one false, say at which input.
  Laid BY PROGRAM, IN A SANDBOX (cutbox-rows.mjs): the forced cells as the released guide's own fill.sh prints them over the translation 90859932a856dde9… (all of the seat's roots in one cut). By AI agents, Wed Nov 11 2026. No macro, syntax, notation, axiom, sorry.
-/
import Derived.Test.YtoejdjiclgjgkaaDoorChecked
import GoSem.Claim
import GoSem.ClaimJoined
import GoSem.ClaimMapViews
import Derived.JoinedTies
import Derived.KernelRfl
namespace Go.Proofs.YtoejdjiclgjgkaaDoor
/- THE CELL 'sum', in the pinned program and in every row, IS THE sha256 OF THE DUMP (.gsa) THAT YtoejdjiclgjgkaaDoorProg.lean LOADS. Nothing in Lean hashes anything: it is a label: what it is worth is what the hold of that sum in a sandbox is worth. -/
noncomputable def Tryd.pinned : Pinned := { name := "ytoejdjiclgjgkaadoor", sum := "90859932a856dde9bba337fb7498b3212136a2f606e6a6788f0c7e438e6f83ea", checked := Tryd.checked }
namespace Rows
def none {H : Type} : Left H := { results := [], args := [] }

/- WHAT THE LISTED PACKAGE-LEVEL VARIABLES READ AS WHEN THE CALL BEGINS. Each datum BY PROGRAM (the guide's laid-datum.mjs) off the statement by which the dump's own 'gosem.cut.vars' lays the variable. In a bare row this is a premise. The card (YtoejdjiclgjgkaaDoorCards.lean) ties it to the program's text. -/
def laid_tidemark_tidemarkref5_dataStatus {H : Type} : DataW H := .agg [.lit (.int .i64 0), .lit (.int .i64 11), .lit (.int .i64 60), .lit (.int .i64 90), .lit (.int .i64 140), .lit (.int .i64 142)]
def laid_tidemark_tidemarkref5_voteStatus {H : Type} : DataW H := .agg [.lit (.int .i64 0), .lit (.int .i64 11), .lit (.int .i64 60), .lit (.int .i64 90), .lit (.int .i64 100), .lit (.int .i64 141), .lit (.int .i64 164)]

/-- 'tidemarklaw5.MsgValid': WHATEVER THE INPUT: true; the input reads as it did. -/
def msgValidSpec : ChangeSpec := { name := "msgValid", fn := fun _ => fun
  | [d] => { results := [.lit (.bool true)], args := [d] }
  | _ => none }
def msgValidRow : OpenClaim := { program := "ytoejdjiclgjgkaadoor", sum := "90859932a856dde9bba337fb7498b3212136a2f606e6a6788f0c7e438e6f83ea", func := "tidemark/tidemarklaw5.MsgValid", spec := "msgValid", unfollowed := true, recurses := true, named := ["tidemark/tidemarkref5.dataStatus", "tidemark/tidemarkref5.voteStatus"], apart := false, laid := [("tidemark/tidemarkref5.dataStatus", laid_tidemark_tidemarkref5_dataStatus), ("tidemark/tidemarkref5.voteStatus", laid_tidemark_tidemarkref5_voteStatus)] }
def MsgValidSaid : Prop := msgValidRow.holds Tryd.pinned (OpenSpec.ofChange msgValidSpec)

/-- ITS FALSE NEIGHBOUR: 'it returns false'. Refute it at one input. -/
def msgValidWrong : ChangeSpec := { name := "msgValid", fn := fun _ => fun
  | [d] => { results := [.lit (.bool false)], args := [d] }
  | _ => none }
def MsgValidWrongFalsely : Prop := msgValidRow.holds Tryd.pinned (OpenSpec.ofChange msgValidWrong)

/- THE SECOND FORM. 'bulk': how many values and letters a reading holds, each counted each time it is reached (what is shared counts as often as it is met; a slice's spare places count too). A statement '..UptoSaid' is the law's where the arguments, and the package variables that the reading takes, are together of bulk at most 1048576: NARROWER than '..Said'. Prove '..Said' where nothing that the law and all that it calls make is longer than what came in: it says more and counts as full. Else prove '..UptoSaid'. A law counts once. -/
mutual
def uptoBulk {H : Type} : DataW H → Nat
  | .lit (.string bytes) => bytes.length + 1
  | .lit _ => 1
  | .nil => 1
  | .ptr d => uptoBulk d + 1
  | .slice elems spare => uptoBulkAll elems + uptoBulkAll spare + 1
  | .agg parts => uptoBulkAll parts + 1
  | .iface _ d => uptoBulk d + 1
  | .map entries => uptoBulkEntries entries + 1
  | .held _ => 1
def uptoBulkAll {H : Type} : List (DataW H) → Nat
  | [] => 0
  | d :: r => uptoBulk d + uptoBulkAll r
def uptoBulkEntries {H : Type} : List (Lit × DataW H) → Nat
  | [] => 0
  | x :: r => uptoBulkEntry x + uptoBulkEntries r
def uptoBulkEntry {H : Type} : Lit × DataW H → Nat
  | (.string bytes, d) => bytes.length + uptoBulk d + 1
  | (_, d) => uptoBulk d + 1
 end
def uptoSmall : (H : Type) → List (DataW H) → Bool := fun _ ds => decide (uptoBulkAll ds ≤ 1048576)
def OpenSpec.upto (s : _root_.Go.ChangeSpec) : _root_.Go.OpenSpec := { _root_.Go.OpenSpec.ofChange s with cond := some uptoSmall }

/-- 'tidemarklaw5.MsgValid', WHERE WHAT IT READS IS OF BULK AT MOST 1048576: true; the input reads as it did. -/
def msgValidUptoRow : OpenClaim := { program := "ytoejdjiclgjgkaadoor", sum := "90859932a856dde9bba337fb7498b3212136a2f606e6a6788f0c7e438e6f83ea", func := "tidemark/tidemarklaw5.MsgValid", spec := "msgValid", unfollowed := true, recurses := true, named := ["tidemark/tidemarkref5.dataStatus", "tidemark/tidemarkref5.voteStatus"], apart := false, laid := [("tidemark/tidemarkref5.dataStatus", laid_tidemark_tidemarkref5_dataStatus), ("tidemark/tidemarkref5.voteStatus", laid_tidemark_tidemarkref5_voteStatus)], narrowed := true }
def MsgValidUptoSaid : Prop := msgValidUptoRow.holds Tryd.pinned (OpenSpec.upto msgValidSpec)

end Rows
end Go.Proofs.YtoejdjiclgjgkaaDoor
