import Derived.Test.YtfafkohghgliaaaTuCmp
/- The program's order of values. -/
namespace Go.Proofs.Ytfafkohghgliaaa.Tu
open Go.RowKit Go.Sort Go.Proofs.Ytfafkohghgliaaa
set_option linter.unusedVariables false
set_option linter.unusedSectionVars false
variable [DecidableEq Vl]

set_option maxRecDepth 100000 in
set_option maxHeartbeats 8000000 in
theorem cmpV_call {x y : Vl} (hx : x.ok) (hy : y.ok) (w : World) : Calls Try.prog 14 #[x.val, y.val] w fun e w' => e = .returned (.int .i64 (cmpV x y)) ∧ Below w.heap.size w w' := by
  have SC := hid fun W => cmpS_is hx.b8 hy.b8 W
  clear hx hy
  obtain ⟨k, f, n, s⟩ := x
  obtain ⟨k', f', n', s'⟩ := y
  simp only at SC
  obtain ⟨wx, hwx⟩ : ∃ wx, wx = (w.alloc (.cells #[.int .i64 k, .bool f, .int .i64 n, .string (ofNats s)] 29)).alloc (.cells #[.int .i64 k', .bool f', .int .i64 n', .string (ofNats s')] 29) := ⟨_, rfl⟩
  have hbx : Below w.heap.size w wx := by rw [hwx]; exact Below.al (Below.al (Below.refl _ _) _) _
  have x0 : wx.cell? ⟨w.heap.size, 0, none⟩ = some (.int .i64 k) := by rw [hwx]; simp [go_sem]
  have x1 : wx.cell? ⟨w.heap.size, 1, none⟩ = some (.bool f) := by rw [hwx]; simp [go_sem]
  have x2 : wx.cell? ⟨w.heap.size, 2, none⟩ = some (.int .i64 n) := by rw [hwx]; simp [go_sem]
  have x3 : wx.cell? ⟨w.heap.size, 3, none⟩ = some (.string (ofNats s)) := by rw [hwx]; simp [go_sem]
  have y0 : wx.cell? ⟨w.heap.size + 1, 0, none⟩ = some (.int .i64 k') := by rw [hwx]; simp [go_sem]
  have y1 : wx.cell? ⟨w.heap.size + 1, 1, none⟩ = some (.bool f') := by rw [hwx]; simp [go_sem]
  have y2 : wx.cell? ⟨w.heap.size + 1, 2, none⟩ = some (.int .i64 n') := by rw [hwx]; simp [go_sem]
  have y3 : wx.cell? ⟨w.heap.size + 1, 3, none⟩ = some (.string (ofNats s')) := by rw [hwx]; simp [go_sem]
  obtain ⟨A, hA⟩ : ∃ A, cmp3 k k' = A := ⟨_, rfl⟩
  obtain ⟨B, hB⟩ : ∃ B, cmpF f f' = B := ⟨_, rfl⟩
  obtain ⟨C, hC⟩ : ∃ C, cmp3 n n' = C := ⟨_, rfl⟩
  obtain ⟨D, hD⟩ : ∃ D, cmpL s s' = D := ⟨_, rfl⟩
  obtain ⟨V, hV⟩ : ∃ V, or2 A (or2 B (or2 C D)) = V := ⟨_, rfl⟩
  have hE : cmpV ⟨k, f, n, s⟩ ⟨k', f', n', s'⟩ = V := by unfold cmpV; simp only; rw [hA, hB, hC, hD, hV]
  rw [hE]
  rw [hD] at SC
  have C0 : Hid (∀ W, Calls Try.prog 20 #[.int .i64 k, .int .i64 k'] W fun e w' => e = .returned (.int .i64 A) ∧ Below W.heap.size W w') := hid fun W => hA ▸ cmpK_is k k' W
  have C1 : Hid (∀ W, Calls Try.prog 21 #[.bool f, .bool f'] W fun e w' => e = .returned (.int .i64 B) ∧ Below W.heap.size W w') := hid fun W => hB ▸ cmpF_is f f' W
  have C2 : Hid (∀ W, Calls Try.prog 22 #[.int .i64 n, .int .i64 n'] W fun e w' => e = .returned (.int .i64 C) ∧ Below W.heap.size W w') := hid fun W => hC ▸ cmpN_is n n' W
  have HV := hid hV
  have HBX := hid hbx
  clear hA hB hC hD hV hE hbx
  show Calls Try.prog 14 #[vlv k f n (ofNats s), vlv k' f' n' (ofNats s')] w _
  obtain ⟨S, hS⟩ : ∃ S, S = ofNats s := ⟨_, rfl⟩
  obtain ⟨S', hS'⟩ : ∃ S', S' = ofNats s' := ⟨_, rfl⟩
  rw [← hS, ← hS'] at SC
  rw [← hS] at x3 hwx ⊢
  rw [← hS'] at y3 hwx ⊢
  clear hS hS'
  go_enter Try.func14, Try.ntmps14
  go_wp2_with fail
  rw [← hwx]
  clear hwx
  go_region_held3 (fun w' => w'.cell? ⟨w.heap.size, 0, none⟩ = some (.int .i64 k) ∧ w'.cell? ⟨w.heap.size, 1, none⟩ = some (.bool f) ∧ w'.cell? ⟨w.heap.size, 2, none⟩ = some (.int .i64 n) ∧ w'.cell? ⟨w.heap.size, 3, none⟩ = some (.string S) ∧ w'.cell? ⟨w.heap.size + 1, 0, none⟩ = some (.int .i64 k') ∧ w'.cell? ⟨w.heap.size + 1, 1, none⟩ = some (.bool f') ∧ w'.cell? ⟨w.heap.size + 1, 2, none⟩ = some (.int .i64 n') ∧ w'.cell? ⟨w.heap.size + 1, 3, none⟩ = some (.string S') ∧ Below wx.heap.size wx w')
    ((refine (fun (hB : Below wx.heap.size wx _) => ⟨cell_later hB x0, cell_later hB x1, cell_later hB x2, cell_later hB x3, cell_later hB y0, cell_later hB y1, cell_later hB y2, cell_later hB y3, hB⟩) ?_; (repeat (first | with_reducible exact Below.refl _ _ | with_reducible assumption | with_reducible refine Below.drew ?_ | with_reducible refine Below.al ?_ _ | with_reducible refine Below.setCell ?_ (by first | exact Nat.le_refl _ | (simp; omega) | (simp; done)) _ | with_reducible refine Below.on ?_ (by assumption)))))
    (first
      | (go_at_call 20; refine (C0.out _).mono ?_; rintro e w2 ⟨rfl, hb2⟩; have hB2 : Below wx.heap.size wx w2 := (by refine Below.on ?_ hb2; (repeat (first | with_reducible exact Below.refl _ _ | with_reducible assumption | with_reducible refine Below.drew ?_ | with_reducible refine Below.al ?_ _ | with_reducible refine Below.setCell ?_ (by first | exact Nat.le_refl _ | (simp; omega) | (simp; done)) _ | with_reducible refine Below.on ?_ (by assumption)))))
      | (go_at_call 21; refine (C1.out _).mono ?_; rintro e w3 ⟨rfl, hb3⟩; have hB3 : Below wx.heap.size wx w3 := (by refine Below.on ?_ hb3; (repeat (first | with_reducible exact Below.refl _ _ | with_reducible assumption | with_reducible refine Below.drew ?_ | with_reducible refine Below.al ?_ _ | with_reducible refine Below.setCell ?_ (by first | exact Nat.le_refl _ | (simp; omega) | (simp; done)) _ | with_reducible refine Below.on ?_ (by assumption)))))
      | (go_at_call 22; refine (C2.out _).mono ?_; rintro e w4 ⟨rfl, hb4⟩; have hB4 : Below wx.heap.size wx w4 := (by refine Below.on ?_ hb4; (repeat (first | with_reducible exact Below.refl _ _ | with_reducible assumption | with_reducible refine Below.drew ?_ | with_reducible refine Below.al ?_ _ | with_reducible refine Below.setCell ?_ (by first | exact Nat.le_refl _ | (simp; omega) | (simp; done)) _ | with_reducible refine Below.on ?_ (by assumption)))))
      | (go_at_call 23; refine (SC.out _).mono ?_; rintro e w5 ⟨rfl, hb5⟩; have hB5 : Below wx.heap.size wx w5 := (by refine Below.on ?_ hb5; (repeat (first | with_reducible exact Below.refl _ _ | with_reducible assumption | with_reducible refine Below.drew ?_ | with_reducible refine Below.al ?_ _ | with_reducible refine Below.setCell ?_ (by first | exact Nat.le_refl _ | (simp; omega) | (simp; done)) _ | with_reducible refine Below.on ?_ (by assumption)))))
      | (go_at_call 19; refine (or4_is HV.out (by simp [go_sem]) (by simp [go_sem]) (by simp [go_sem]) (by simp [go_sem])).mono ?_; rintro e w6 ⟨rfl, hb6⟩; have hB6 : Below wx.heap.size wx w6 := (by refine Below.on ?_ hb6; (repeat (first | with_reducible exact Below.refl _ _ | with_reducible assumption | with_reducible refine Below.drew ?_ | with_reducible refine Below.al ?_ _ | with_reducible refine Below.setCell ?_ (by first | exact Nat.le_refl _ | (simp; omega) | (simp; done)) _ | with_reducible refine Below.on ?_ (by assumption))))))
  all_goals (try go_wp2_with fail)
  all_goals go_ret
  all_goals exact ⟨rfl, Below.on HBX.out (by (repeat (first | with_reducible exact Below.refl _ _ | with_reducible assumption | with_reducible refine Below.drew ?_ | with_reducible refine Below.al ?_ _ | with_reducible refine Below.setCell ?_ (by first | exact Nat.le_refl _ | (simp; omega) | (simp; done)) _ | with_reducible refine Below.on ?_ (by assumption))))⟩
end Go.Proofs.Ytfafkohghgliaaa.Tu
