import Derived.Test.YtoejdjiclgjgkaaDoorMNew
import Derived.Test.YtoejdjiclgjgkaaDoorMMake2
import Derived.Test.YtoejdjiclgjgkaaDoorMMake4
import Derived.Test.YtoejdjiclgjgkaaDoorMBody
import Derived.Test.YtoejdjiclgjgkaaDoorMValids
import Derived.Test.YtoejdjiclgjgkaaDoorMMsg1
import Derived.Test.YtoejdjiclgjgkaaDoorMMsg2
import Derived.Test.YtoejdjiclgjgkaaDoorMMsg3
import Derived.Test.YtoejdjiclgjgkaaDoorMMsg4
import Derived.Test.YtoejdjiclgjgkaaDoorMMsg5
import Derived.Test.YtoejdjiclgjgkaaDoorMMsg6
import Derived.Test.YtoejdjiclgjgkaaDoorMMsg7
import Derived.Test.YtoejdjiclgjgkaaDoorMMsg8
import Derived.Test.YtoejdjiclgjgkaaDoorMMsg9
namespace Go.Proofs.YtoejdjiclgjgkaaDoor
open Go.RowKit Go.Sort
set_option linter.unusedVariables false

theorem body1 {m : Mg} {w : World} {u : Bool} (hk : m.k = 1) (hu : ((decide (m.rs.length = 1) && readsOk m.rs) && sameM m (pRead m)) = u) (h : m.ok w) :
    Calls Tryd.prog 6 #[m.val] w fun e w' => (∃ v, e = .returned (.tuple #[v, .bool u])) ∧ Below w.heap.size w w' := by
  subst hu
  exact body_any (n := pRead m) (D := 58) (F := 52) (vs := vRead m)
    (new_any (k := 1) (F := 21) hk (by decide) (by decide) rfl (fun _ _ => by kernel_rfl) (fun w => make1 m w))
    (fun q w => by kernel_rfl) (fun q w => by kernel_rfl) (fun q w hA hM => read_valid rfl hA hM) (fun q w hA => message1 hA) rfl ⟨by rw [hk]; rfl, beq_self_eq_true _, beq_self_eq_true _, .inl ⟨rfl, rfl⟩, .inr ⟨rfl, rfl, rfl⟩, .inr ⟨rfl, rfl, rfl⟩⟩ h

theorem body2 {m : Mg} {w : World} {u : Bool} (hk : m.k = 2) (hu : (((m.st == 0 || decide (m.ps.length = 0)) && dataS m.st && pairsOk m.ps) && sameM m (pData m)) = u) (h : m.ok w) :
    Calls Tryd.prog 6 #[m.val] w fun e w' => (∃ v, e = .returned (.tuple #[v, .bool u])) ∧ Below w.heap.size w w' := by
  subst hu
  exact body_any (n := pData m) (D := 62) (F := 57) (vs := vData m)
    (new_any (k := 2) (F := 22) hk (by decide) (by decide) rfl (fun _ _ => by kernel_rfl) (fun w => make2 m w))
    (fun q w => by kernel_rfl) (fun q w => by kernel_rfl) (fun q w hA hM => data_valid rfl hA hM) (fun q w hA => message2 hA) rfl ⟨by rw [hk]; rfl, beq_self_eq_true _, beq_self_eq_true _, .inr ⟨rfl, rfl, rfl⟩, .inr ⟨rfl, rfl, rfl⟩, .inl ⟨rfl, rfl⟩⟩ h

theorem body3 {m : Mg} {w : World} {u : Bool} (hk : m.k = 3) (hu : ((!(decide (m.rs.length = 0) && decide (m.ws.length = 0)) && seqOk m && readsOk m.rs && writesOk m.ws) && sameM m (pPrep m)) = u) (h : m.ok w) :
    Calls Tryd.prog 6 #[m.val] w fun e w' => (∃ v, e = .returned (.tuple #[v, .bool u])) ∧ Below w.heap.size w w' := by
  subst hu
  exact body_any (n := pPrep m) (D := 65) (F := 65) (vs := vPrep m)
    (new_any (k := 3) (F := 23) hk (by decide) (by decide) rfl (fun _ _ => by kernel_rfl) (fun w => make3 m w))
    (fun q w => by kernel_rfl) (fun q w => by kernel_rfl) (fun q w hA hM => prep_valid rfl hA hM) (fun q w hA => message3 hA) rfl ⟨by rw [hk]; rfl, beq_self_eq_true _, beq_self_eq_true _, .inl ⟨rfl, rfl⟩, .inl ⟨rfl, rfl⟩, .inr ⟨rfl, rfl, rfl⟩⟩ h

theorem body4 {m : Mg} {w : World} {u : Bool} (hk : m.k = 4) (hu : (((m.st == 0 || zeroSt m) && seqOk m && voteS m.st) && sameM m (pVote m)) = u) (h : m.ok w) :
    Calls Tryd.prog 6 #[m.val] w fun e w' => (∃ v, e = .returned (.tuple #[v, .bool u])) ∧ Below w.heap.size w w' := by
  subst hu
  exact body_any (n := pVote m) (D := 71) (F := 72) (vs := vVote m)
    (new_any (k := 4) (F := 25) hk (by decide) (by decide) rfl (fun _ _ => by kernel_rfl) (fun w => make4 m w))
    (fun q w => by kernel_rfl) (fun q w => by kernel_rfl) (fun q w hA hM => vote_valid rfl hA) (fun q w hA => message4 hA) rfl ⟨by rw [hk]; rfl, beq_self_eq_true _, beq_self_eq_true _, .inr ⟨rfl, rfl, rfl⟩, .inr ⟨rfl, rfl, rfl⟩, .inr ⟨rfl, rfl, rfl⟩⟩ h

theorem body5 {m : Mg} {w : World} {u : Bool} (hk : m.k = 5) (hu : (seqOk m && sameM m (pCommit m)) = u) (h : m.ok w) :
    Calls Tryd.prog 6 #[m.val] w fun e w' => (∃ v, e = .returned (.tuple #[v, .bool u])) ∧ Below w.heap.size w w' := by
  subst hu
  exact body_any (n := pCommit m) (D := 74) (F := 66) (vs := vCommit m)
    (new_any (k := 5) (F := 26) hk (by decide) (by decide) rfl (fun _ _ => by kernel_rfl) (fun w => make5 m w))
    (fun q w => by kernel_rfl) (fun q w => by kernel_rfl) (fun q w hA hM => txn_valid rfl hA.1 hA.2.1) (fun q w hA => message5 hA) rfl ⟨by rw [hk]; rfl, beq_self_eq_true _, beq_self_eq_true _, .inr ⟨rfl, rfl, rfl⟩, .inr ⟨rfl, rfl, rfl⟩, .inr ⟨rfl, rfl, rfl⟩⟩ h

theorem body6 {m : Mg} {w : World} {u : Bool} (hk : m.k = 6) (hu : (((m.oc == 1 || (m.oc == 2 && zeroSt m)) && seqOk m) && sameM m (pVerd 6 m)) = u) (h : m.ok w) :
    Calls Tryd.prog 6 #[m.val] w fun e w' => (∃ v, e = .returned (.tuple #[v, .bool u])) ∧ Below w.heap.size w w' := by
  subst hu
  exact body_any (n := pVerd 6 m) (D := 77) (F := 78) (vs := vVerd m)
    (new_any (k := 6) (F := 27) hk (by decide) (by decide) rfl (fun _ _ => by kernel_rfl) (fun w => make6 m w))
    (fun q w => by kernel_rfl) (fun q w => by kernel_rfl) (fun q w hA hM => verd_valid rfl hA) (fun q w hA => message6 hA) rfl ⟨by rw [hk]; rfl, beq_self_eq_true _, beq_self_eq_true _, .inr ⟨rfl, rfl, rfl⟩, .inr ⟨rfl, rfl, rfl⟩, .inr ⟨rfl, rfl, rfl⟩⟩ h

theorem body7 {m : Mg} {w : World} {u : Bool} (hk : m.k = 7) (hu : (((m.oc == 1 || (m.oc == 2 && zeroSt m)) && seqOk m) && sameM m (pVerd 7 m)) = u) (h : m.ok w) :
    Calls Tryd.prog 6 #[m.val] w fun e w' => (∃ v, e = .returned (.tuple #[v, .bool u])) ∧ Below w.heap.size w w' := by
  subst hu
  exact body_any (n := pVerd 7 m) (D := 83) (F := 78) (vs := vVerd m)
    (new_any (k := 7) (F := 29) hk (by decide) (by decide) rfl (fun _ _ => by kernel_rfl) (fun w => make7 m w))
    (fun q w => by kernel_rfl) (fun q w => by kernel_rfl) (fun q w hA hM => verd_valid rfl hA) (fun q w hA => message7 hA) rfl ⟨by rw [hk]; rfl, beq_self_eq_true _, beq_self_eq_true _, .inr ⟨rfl, rfl, rfl⟩, .inr ⟨rfl, rfl, rfl⟩, .inr ⟨rfl, rfl, rfl⟩⟩ h

theorem body8 {m : Mg} {w : World} {u : Bool} (hk : m.k = 8) (hu : (seqOk m && sameM m (pQuery m)) = u) (h : m.ok w) :
    Calls Tryd.prog 6 #[m.val] w fun e w' => (∃ v, e = .returned (.tuple #[v, .bool u])) ∧ Below w.heap.size w w' := by
  subst hu
  exact body_any (n := pQuery m) (D := 85) (F := 66) (vs := vQuery m)
    (new_any (k := 8) (F := 30) hk (by decide) (by decide) rfl (fun _ _ => by kernel_rfl) (fun w => make8 m w))
    (fun q w => by kernel_rfl) (fun q w => by kernel_rfl) (fun q w hA hM => txn_valid rfl hA.1 hA.2.1) (fun q w hA => message8 hA) rfl ⟨by rw [hk]; rfl, beq_self_eq_true _, beq_self_eq_true _, .inr ⟨rfl, rfl, rfl⟩, .inr ⟨rfl, rfl, rfl⟩, .inr ⟨rfl, rfl, rfl⟩⟩ h

theorem body9 {m : Mg} {w : World} {u : Bool} (hk : m.k = 9) (hu : (((m.oc == 1 || (m.oc == 2 && zeroSt m)) && seqOk m) && sameM m (pVerd 9 m)) = u) (h : m.ok w) :
    Calls Tryd.prog 6 #[m.val] w fun e w' => (∃ v, e = .returned (.tuple #[v, .bool u])) ∧ Below w.heap.size w w' := by
  subst hu
  exact body_any (n := pVerd 9 m) (D := 88) (F := 78) (vs := vVerd m)
    (new_any (k := 9) (F := 31) hk (by decide) (by decide) rfl (fun _ _ => by kernel_rfl) (fun w => make9 m w))
    (fun q w => by kernel_rfl) (fun q w => by kernel_rfl) (fun q w hA hM => verd_valid rfl hA) (fun q w hA => message9 hA) rfl ⟨by rw [hk]; rfl, beq_self_eq_true _, beq_self_eq_true _, .inr ⟨rfl, rfl, rfl⟩, .inr ⟨rfl, rfl, rfl⟩, .inr ⟨rfl, rfl, rfl⟩⟩ h

end Go.Proofs.YtoejdjiclgjgkaaDoor
