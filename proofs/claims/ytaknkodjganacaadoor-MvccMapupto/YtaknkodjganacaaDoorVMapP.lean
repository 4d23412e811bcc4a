import Derived.Test.YtaknkodjganacaaDoorVPt
import Derived.Test.YtaknkodjganacaaDoorVLay
/- MvccMap, plain: a store whose stamps rise is a map at every stamp. -/
namespace Go.Proofs.YtaknkodjganacaaDoor.Vs
open Go.RowKit Go.Sort
set_option linter.unusedVariables false

/-- a write at or below a read's stamp is laid on the map -/
theorem inst_lay {M : Mst} (hM : Rising M) {ws : List Wr} {i : Nat} (hi : i < ws.length) {t s : Sp} (hs : s.lt t = false) : readAll (instM M (ws.take (i + 1)) t) s = layX (readAll (instM M (ws.take i) t) s) (nthW ws i) := by
  have hr := (instM_count hM (ws.take i) t).2
  rw [nthW_take hi, instM_snoc, readAll_add_low hr (v := Wr.ver (nthW ws i) t) hs, layX_set (readAll_rising hr s)]
  rfl
theorem inst_skip {M : Mst} (hM : Rising M) {ws : List Wr} {i : Nat} (hi : i < ws.length) {t s : Sp} (hs : s.lt t = true) : readAll (instM M (ws.take (i + 1)) t) s = readAll (instM M (ws.take i) t) s := by
  have hr := (instM_count hM (ws.take i) t).2
  rw [nthW_take hi, instM_snoc, readAll_add_high hr (v := Wr.ver (nthW ws i) t) hs]
end Go.Proofs.YtaknkodjganacaaDoor.Vs
