import Derived.Test.YtneojeidpfjpbaaGreatDoorB32
set_option linter.unusedVariables false
namespace Go.Proofs.YtneojeidpfjpbaaGreatDoor.Ig
open Go.RowKit Go.Sort Ys
def rgE (e : Lg.En) : Rg := ⟨3, 0, e.id.1, e.id.2, e.home, e.oc, e.w, e.l, e.n, none, [], 0, none, [], 0, ⟨#[]⟩⟩
def rgP (h : Lk.Hd) : Rg := ⟨2, 0, h.id.1, h.id.2, h.home, 0, h.w, h.l, h.n, none, h.rs, 0, none, h.ws, 0, ⟨#[]⟩⟩
end Go.Proofs.YtneojeidpfjpbaaGreatDoor.Ig
