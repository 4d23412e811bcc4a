import Derived.Test.YtfkiccdjffhhhaaGreatDoorRdDraft
import Derived.Test.YtfkiccdjffhhhaaGreatDoorRMay
import Derived.Deep.RegionHeld3
/- What was said, as a configuration. -/
namespace Go.Proofs.YtfkiccdjffhhhaaGreatDoor.Rt
open Go.RowKit Go.Sort
set_option linter.unusedVariables false

set_option maxRecDepth 16000 in
set_option maxHeartbeats 4000000 in
theorem config_is {w : World} {p : Nat} {d : Dr} {va : Option Addr} {vn vc : Nat} (h : BoxD w p d (.slice va vn vc)) (hd : ∀ k, (d.f k).getD 0 < 18446744073709551616) :
    Calls Tryz.prog 28 #[.pointer (some ⟨p, 0, none⟩)] w fun e w' => e = .returned (.agg #[.int .i64 (smallN ((d.f 0).getD 0) : Nat), .int .i64 (smallN ((d.f 1).getD 0) : Nat), .slice va vn vc, .int .i64 (smallN ((d.f 2).getD 0) : Nat), .int .i64 (smallN ((d.f 3).getD 0) : Nat), .int .u64 ((d.f 4).getD 0 : Nat)]) ∧ Below w.heap.size w w' := by
  have S0 := hid fun wz (hb : Below w.heap.size w wz) => small_is (w := wz) (p := p) (o := 0) (hd 0) (cell_later hb h.v0)
  have S1 := hid fun wz (hb : Below w.heap.size w wz) => small_is (w := wz) (p := p) (o := 2) (hd 1) (cell_later hb h.v1)
  have S2 := hid fun wz (hb : Below w.heap.size w wz) => small_is (w := wz) (p := p) (o := 4) (hd 2) (cell_later hb h.v2)
  have S3 := hid fun wz (hb : Below w.heap.size w wz) => small_is (w := wz) (p := p) (o := 6) (hd 3) (cell_later hb h.v3)
  have c4 := h.v4
  have c10 := h.sp
  generalize smallN ((d.f 0).getD 0) = n0 at S0 ⊢
  generalize smallN ((d.f 1).getD 0) = n1 at S1 ⊢
  generalize smallN ((d.f 2).getD 0) = n2 at S2 ⊢
  generalize smallN ((d.f 3).getD 0) = n3 at S3 ⊢
  generalize (d.f 4).getD 0 = n4 at c4 ⊢
  clear h hd
  go_enter Tryz.func28, Tryz.ntmps28
  go_upto_region 1 with fail
  go_region_held3 (fun ws => ws.cell? ⟨p, 9, none⟩ = some (.int .u64 n4) ∧ ws.cell? ⟨p, 10, none⟩ = some (.slice va vn vc) ∧ Below w.heap.size w ws)
    ((refine (fun (hB : Below w.heap.size w _) => ⟨cell_later hB c4, cell_later hB c10, hB⟩) ?_; (repeat (first | with_reducible exact Below.refl _ _ | with_reducible assumption | with_reducible refine Below.drew ?_ | with_reducible refine Below.al ?_ _ | with_reducible refine Below.setCell ?_ (by first | exact Nat.le_refl _ | (simp; omega) | (simp; done)) _ | with_reducible refine Below.on ?_ (by assumption)))))
    (first | (go_at_call_of 40 (Value.pointer (some ⟨p, 0, none⟩)); refine (S0.out _ ?_).mono ?_; ((repeat (first | with_reducible exact Below.refl _ _ | with_reducible assumption | with_reducible refine Below.drew ?_ | with_reducible refine Below.al ?_ _ | with_reducible refine Below.setCell ?_ (by first | exact Nat.le_refl _ | (simp; omega) | (simp; done)) _ | with_reducible refine Below.on ?_ (by assumption)))); rintro e w1 ⟨rfl, rfl⟩) | (go_at_call_of 40 (Value.pointer (some ⟨p, 2, none⟩)); refine (S1.out _ ?_).mono ?_; ((repeat (first | with_reducible exact Below.refl _ _ | with_reducible assumption | with_reducible refine Below.drew ?_ | with_reducible refine Below.al ?_ _ | with_reducible refine Below.setCell ?_ (by first | exact Nat.le_refl _ | (simp; omega) | (simp; done)) _ | with_reducible refine Below.on ?_ (by assumption)))); rintro e w1 ⟨rfl, rfl⟩) | (go_at_call_of 40 (Value.pointer (some ⟨p, 4, none⟩)); refine (S2.out _ ?_).mono ?_; ((repeat (first | with_reducible exact Below.refl _ _ | with_reducible assumption | with_reducible refine Below.drew ?_ | with_reducible refine Below.al ?_ _ | with_reducible refine Below.setCell ?_ (by first | exact Nat.le_refl _ | (simp; omega) | (simp; done)) _ | with_reducible refine Below.on ?_ (by assumption)))); rintro e w1 ⟨rfl, rfl⟩) | (go_at_call_of 40 (Value.pointer (some ⟨p, 6, none⟩)); refine (S3.out _ ?_).mono ?_; ((repeat (first | with_reducible exact Below.refl _ _ | with_reducible assumption | with_reducible refine Below.drew ?_ | with_reducible refine Below.al ?_ _ | with_reducible refine Below.setCell ?_ (by first | exact Nat.le_refl _ | (simp; omega) | (simp; done)) _ | with_reducible refine Below.on ?_ (by assumption)))); rintro e w1 ⟨rfl, rfl⟩))
  all_goals go_wp2_with fail
  refine bodyPost_ret (v := .agg #[.int .i64 (n0 : Nat), .int .i64 (n1 : Nat), .slice va vn vc, .int .i64 (n2 : Nat), .int .i64 (n3 : Nat), .int .u64 (n4 : Nat)]) (by simp [results, Tryz.results28, go_sem]) rfl ⟨rfl, by (repeat (first | with_reducible exact Below.refl _ _ | with_reducible assumption | with_reducible refine Below.drew ?_ | with_reducible refine Below.al ?_ _ | with_reducible refine Below.setCell ?_ (by first | exact Nat.le_refl _ | (simp; omega) | (simp; done)) _ | with_reducible refine Below.on ?_ (by assumption)))⟩
end Go.Proofs.YtfkiccdjffhhhaaGreatDoor.Rt
