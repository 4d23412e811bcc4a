import Derived.Test.YtgplnbdankfobaaGreatDoorQHold
/- Release, in plain words. -/
namespace Go.Proofs.YtgplnbdankfobaaGreatDoor.Lk
open Go.RowKit Go.Sort
set_option linter.unusedVariables false

def hasB (M : List Hd) (i : Ix) : Bool := decide (i ∈ M.map Hd.id)
def dropV (V : List Hv) (i : Ix) : List Hv := V.filter (fun v => !decide (v.h.id = i))
theorem dropV_prs (V : List Hv) (i : Ix) : prs (dropV V i) = dropA (prs V) i := by
  simp only [prs, dropV, dropA, List.filter_map]; rfl
theorem dropV_map (V : List Hv) (i : Ix) : (dropV V i).map Hv.h = dropM (V.map Hv.h) i := by
  simp only [dropV, dropM, List.filter_map]; rfl
theorem dropM_not {M : List Hd} {i : Ix} (h : i ∉ M.map Hd.id) : dropM M i = M :=
  List.filter_eq_self.2 fun x hx => by
    have : x.id ≠ i := fun e => h (List.mem_map.2 ⟨x, hx, e⟩)
    simp [this]
end Go.Proofs.YtgplnbdankfobaaGreatDoor.Lk
