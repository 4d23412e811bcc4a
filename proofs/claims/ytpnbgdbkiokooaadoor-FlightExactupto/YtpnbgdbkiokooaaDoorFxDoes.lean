import Derived.Test.YtpnbgdbkiokooaaDoorFxSx
/- The law's does: a step at the program's flight and at the document's. -/
namespace Go.Proofs.YtpnbgdbkiokooaaDoor.Fl
open Go.RowKit Go.Sort Go.Proofs.YtpnbgdbkiokooaaDoor
set_option linter.unusedVariables false

/-- what the book must be -/
structure Bo (s : Bv) (m : Nat) : Prop where
  L : s.L.length = s.N.length
  XY : s.Y = s.X
  x : ∀ i, i < s.F.length → (nthX s.X i).length ≤ 1073741824
  M : ∀ n, n < s.N.length → nthM s.N n ≤ 1073741824
  le : s.N.length + s.F.length ≤ m
  lx : s.X.length = s.F.length
theorem Bo.push {s s' : Bv} {m : Nat} (h : Bo s m) {xs : List ByteArray} (hx : xs.length ≤ 1073741824) (hX : s'.X = s.X ++ [xs]) (hY : s'.Y = s.Y ++ [xs]) (hN : s'.N = s.N) (hL : s'.L = s.L) (hF : s'.F.length = s.F.length + 1) : Bo s' (m + 1) :=
  ⟨by rw [hL, hN]; exact h.L, by rw [hX, hY, h.XY], fun i hi => by
      rw [hX, nthX_app, h.lx]
      by_cases hlt : i < s.F.length
      · rw [if_pos hlt]; exact h.x i hlt
      · rw [if_neg hlt, if_pos (by omega)]; exact hx, by rw [hN]; exact h.M, by rw [hN, hF]; have := h.le; omega, by rw [hX, List.length_append, h.lx, hF]; rfl⟩
theorem Bo.mono {s : Bv} {m n : Nat} (h : Bo s m) (hm : m ≤ n) : Bo s n := ⟨h.L, h.XY, h.x, h.M, Nat.le_trans h.le hm, h.lx⟩
/-- the state between two steps -/
def Ss (W w : World) (p r : Nat → Nat) (X : Nat → List ByteArray) (b m : Nat) : Prop := ∃ c v u s, St W w c p r v u X X b s [] ∧ Bo s m
/-- what a step leaves -/
def Da (W w : World) (p r : Nat → Nat) (X : Nat → List ByteArray) (b m j : Nat) (l : List ByteArray) : Prop := ∃ ys, ys.length ≤ (X j).length + l.length + 1 ∧ Ss W w p r (upd X j ys) b (m + 2)
theorem upd_self {α : Type} (f : Nat → α) (j : Nat) : upd f j (f j) = f := by
  funext i
  unfold upd
  by_cases e : i = j
  · rw [if_pos e, e]
  · rw [if_neg e]
section
variable {W w w' : World} {p r : Nat → Nat} {X : Nat → List ByteArray} {b m : Nat} {s : Bv} {b0 : Nat} {t : Sp} {j : Nat}
theorem Sx.da {P R : Nat → List ByteArray} {ys : List ByteArray} (h : Sx W w' p r P R b s [] b0 t) (hP : P = upd X j ys) (hR : R = upd X j ys) (hB : Bo s (m + 2)) (hy : ys.length ≤ (X j).length + t.l.length + 1) : Da W w' p r X b m j t.l := by
  obtain ⟨c, v, u, h, _⟩ := h
  subst hP
  subst hR
  exact ⟨ys, hy, c, v, u, s, h, hB⟩
theorem Sx.start {c : Nat → Nat} {v u : Nat → Value} (h : St W w c p r v u X X b s []) (t : Sp) {wb : World} (hwb : wb = w.alloc (.cells #[.int .i64 t.k, .int .i64 t.o, .int .i64 t.i, t.v] 45)) : Sx W wb p r X X b s [] w.heap.size t := by
  have hb : Below w.heap.size w wb := by rw [hwb]; exact Below.al (Below.refl _ _) _
  have hq : wb.heap[w.heap.size]? = some (.cells #[.int .i64 t.k, .int .i64 t.o, .int .i64 t.i, t.v] 45 (0, 0)) := by rw [hwb]; exact World.alloc_heap_new _ _
  exact ⟨ext w c 12, v, u, h.later hb 12, cell_obj hq rfl, cell_obj hq rfl, cell_obj hq rfl, ext_new (Nat.le_refl _)⟩

set_option maxRecDepth 16000 in
set_option maxHeartbeats 8000000 in
theorem does_send (hPW : PowTab W) (h : Ss W w p r X b m) (hj : j < 2) (t : Sp) (hu : Rd W t.v t.l) (hx : (X j).length ≤ 536870912) (hm : m ≤ 536870912) (hl : t.l.length ≤ 536870912) (hk : t.k = 1) :
    Calls Tryd.prog 14 #[pt (p j), pt (r j), t.val, pt b] w fun e w' => e = .returned (.bool true) ∧ Hid (Da W w' p r X b m j t.l) := by
  obtain ⟨c, v, u, s, hst, hbo⟩ := h
  obtain ⟨wb, hwb⟩ : ∃ wb, wb = w.alloc (.cells #[.int .i64 t.k, .int .i64 t.o, .int .i64 t.i, t.v] 45) := ⟨_, rfl⟩
  have HS := hid (Sx.start hst t hwb)
  have HBO := hid hbo
  have HU := hid hu
  have HPW := hid hPW
  have HWB := hid hwb
  obtain ⟨b0, hb0⟩ : ∃ b0, b0 = w.heap.size := ⟨_, rfl⟩
  have HB0 := hid hb0
  rw [← hb0] at HS
  have hbx := HS.out.box
  obtain ⟨x0, x2, x3⟩ := hbx
  obtain ⟨al, kl, hv, _⟩ := hu
  have hF1 := hbo.le
  clear hst hbo hwb hb0 hPW
  have HR := hid (HS.out.rsend hj HU.out (by omega) (by omega))
  have HPS : Hid (∀ w1, Sx W w1 p r X (upd X j (X j ++ t.l)) b s [] b0 t → Calls Tryd.prog 7 #[pt (p j), t.v] w1 fun e w' => e = .returned (.bool true) ∧ Hid (Sx W w' p r (upd X j (X j ++ t.l)) (upd X j (X j ++ t.l)) b s [] b0 t)) := fun w1 h1 => h1.psend hj HPW.out hv HU.out (by omega) (by omega)
  have HX3 : Hid (∀ w1 P R s E, Sx W w1 p r P R b s E b0 t → w1.cell? ⟨b0, 3, none⟩ = some t.v) := fun w1 P R s E h1 => h1.box.2.2
  have HDA : Hid (∀ w1, Sx W w1 p r (upd X j (X j ++ t.l)) (upd X j (X j ++ t.l)) b s [] b0 t → Da W w1 p r X b m j t.l) := fun w1 h1 => h1.da rfl rfl (HBO.out.mono (by omega)) (by rw [List.length_append]; omega)
  obtain ⟨tk, tq, ti, tv, tl⟩ := t
  simp only at hv x0 x2 x3 HWB hl hk HR HPS HX3 HDA ⊢
  subst hv
  replace hk : tk = 1 := hk
  subst hk
  go_enter Tryd.func14, Tryd.ntmps14
  go_wp2_with fail
  rw [← HWB.out, ← HB0.out]
  refine HR.out.mono ?_
  rintro e w1 ⟨rfl, HS1⟩
  have y3 := HX3.out _ _ _ _ _ HS1.out
  go_wp2_with fail
  refine (HPS.out w1 HS1.out).mono ?_
  rintro e w2 ⟨rfl, HS2⟩
  go_wp2_with fail
  go_ret
  exact ⟨rfl, HDA.out _ HS2.out⟩

set_option maxRecDepth 16000 in
set_option maxHeartbeats 8000000 in
theorem does_len (hPW : PowTab W) (h : Ss W w p r X b m) (hj : j < 2) (t : Sp) (hu : Rd W t.v t.l) (hx : (X j).length ≤ 536870912) (hm : m ≤ 536870912) (hl : t.l.length ≤ 536870912) (hk : t.k = 2) :
    Calls Tryd.prog 14 #[pt (p j), pt (r j), t.val, pt b] w fun e w' => e = .returned (.bool true) ∧ Hid (Da W w' p r X b m j t.l) := by
  obtain ⟨c, v, u, s, hst, hbo⟩ := h
  obtain ⟨wb, hwb⟩ : ∃ wb, wb = w.alloc (.cells #[.int .i64 t.k, .int .i64 t.o, .int .i64 t.i, t.v] 45) := ⟨_, rfl⟩
  have HS := hid (Sx.start hst t hwb)
  have HBO := hid hbo
  have HU := hid hu
  have HPW := hid hPW
  have HWB := hid hwb
  obtain ⟨b0, hb0⟩ : ∃ b0, b0 = w.heap.size := ⟨_, rfl⟩
  have HB0 := hid hb0
  rw [← hb0] at HS
  have hbx := HS.out.box
  obtain ⟨x0, x2, x3⟩ := hbx
  obtain ⟨al, kl, hv, _⟩ := hu
  have hF1 := hbo.le
  clear hst hbo hwb hb0 hPW
  have HL1 := hid (HS.out.plen hj)
  have HL2 := hid (HS.out.rlen hj)
  have HDA : Hid (Da W wb p r X b m j t.l) := HS.out.da (upd_self X j).symm (upd_self X j).symm (HBO.out.mono (by omega)) (by omega)
  obtain ⟨tk, tq, ti, tv, tl⟩ := t
  simp only at hv x0 x2 x3 HWB hl hk HL1 HL2 HDA ⊢
  subst hv
  replace hk : tk = 2 := hk
  subst hk
  go_enter Tryd.func14, Tryd.ntmps14
  go_wp2_with fail
  rw [← HWB.out, ← HB0.out]
  refine HL1.out.mono ?_
  rintro e w1 ⟨rfl, rfl⟩
  go_wp2_with fail
  refine HL2.out.mono ?_
  rintro e w1 ⟨rfl, rfl⟩
  go_wp2_with fail
  go_ret
  exact ⟨rfl, HDA.out⟩

set_option maxRecDepth 16000 in
set_option maxHeartbeats 8000000 in
theorem does_look_A (hPW : PowTab W) (h : Ss W w p r X b m) (hj : j < 2) (t : Sp) (hu : Rd W t.v t.l) (hx : (X j).length ≤ 536870912) (hm : m ≤ 536870912) (hl : t.l.length ≤ 536870912) (hv0 : t.i < 0) (hk : t.k = 3) :
    Calls Tryd.prog 14 #[pt (p j), pt (r j), t.val, pt b] w fun e w' => e = .returned (.bool true) ∧ Hid (Da W w' p r X b m j t.l) := by
  obtain ⟨c, v, u, s, hst, hbo⟩ := h
  obtain ⟨wb, hwb⟩ : ∃ wb, wb = w.alloc (.cells #[.int .i64 t.k, .int .i64 t.o, .int .i64 t.i, t.v] 45) := ⟨_, rfl⟩
  have HS := hid (Sx.start hst t hwb)
  have HBO := hid hbo
  have HU := hid hu
  have HPW := hid hPW
  have HWB := hid hwb
  obtain ⟨b0, hb0⟩ : ∃ b0, b0 = w.heap.size := ⟨_, rfl⟩
  have HB0 := hid hb0
  rw [← hb0] at HS
  have hbx := HS.out.box
  obtain ⟨x0, x2, x3⟩ := hbx
  obtain ⟨al, kl, hv, _⟩ := hu
  have hF1 := hbo.le
  clear hst hbo hwb hb0 hPW
  have HL1 := hid (HS.out.plook_out hj t.i (by omega))
  have HL2 := hid (HS.out.rlook_out hj t.i (by omega))
  have HDA : Hid (Da W wb p r X b m j t.l) := HS.out.da (upd_self X j).symm (upd_self X j).symm (HBO.out.mono (by omega)) (by omega)
  obtain ⟨tk, tq, ti, tv, tl⟩ := t
  simp only at hv x0 x2 x3 HWB hl hk HL1 HL2 HDA ⊢
  subst hv
  replace hk : tk = 3 := hk
  subst hk
  go_enter Tryd.func14, Tryd.ntmps14
  go_wp2_with fail
  rw [← HWB.out, ← HB0.out]
  refine HL1.out.mono ?_
  rintro e w1 ⟨rfl, rfl⟩
  go_wp2_with fail
  refine HL2.out.mono ?_
  rintro e w1 ⟨rfl, rfl⟩
  go_wp2_with fail
  go_ret
  exact ⟨rfl, HDA.out⟩

set_option maxRecDepth 16000 in
set_option maxHeartbeats 8000000 in
theorem does_take_A (hPW : PowTab W) (h : Ss W w p r X b m) (hj : j < 2) (t : Sp) (hu : Rd W t.v t.l) (hx : (X j).length ≤ 536870912) (hm : m ≤ 536870912) (hl : t.l.length ≤ 536870912) (hv0 : t.i < 0) (hk : t.k = 4) :
    Calls Tryd.prog 14 #[pt (p j), pt (r j), t.val, pt b] w fun e w' => e = .returned (.bool true) ∧ Hid (Da W w' p r X b m j t.l) := by
  obtain ⟨c, v, u, s, hst, hbo⟩ := h
  obtain ⟨wb, hwb⟩ : ∃ wb, wb = w.alloc (.cells #[.int .i64 t.k, .int .i64 t.o, .int .i64 t.i, t.v] 45) := ⟨_, rfl⟩
  have HS := hid (Sx.start hst t hwb)
  have HBO := hid hbo
  have HU := hid hu
  have HPW := hid hPW
  have HWB := hid hwb
  obtain ⟨b0, hb0⟩ : ∃ b0, b0 = w.heap.size := ⟨_, rfl⟩
  have HB0 := hid hb0
  rw [← hb0] at HS
  have hbx := HS.out.box
  obtain ⟨x0, x2, x3⟩ := hbx
  obtain ⟨al, kl, hv, _⟩ := hu
  have hF1 := hbo.le
  clear hst hbo hwb hb0 hPW
  have HL1 := hid (HS.out.ptake_out hj t.i (by omega))
  have HL2 := hid (HS.out.rtake_out hj t.i (by omega))
  have HDA : Hid (Da W wb p r X b m j t.l) := HS.out.da (upd_self X j).symm (upd_self X j).symm (HBO.out.mono (by omega)) (by omega)
  obtain ⟨tk, tq, ti, tv, tl⟩ := t
  simp only at hv x0 x2 x3 HWB hl hk HL1 HL2 HDA ⊢
  subst hv
  replace hk : tk = 4 := hk
  subst hk
  go_enter Tryd.func14, Tryd.ntmps14
  go_wp2_with fail
  rw [← HWB.out, ← HB0.out]
  refine HL1.out.mono ?_
  rintro e w1 ⟨rfl, rfl⟩
  go_wp2_with fail
  refine HL2.out.mono ?_
  rintro e w1 ⟨rfl, rfl⟩
  go_wp2_with fail
  go_ret
  exact ⟨rfl, HDA.out⟩

set_option maxRecDepth 16000 in
set_option maxHeartbeats 8000000 in
theorem does_drop_A (hPW : PowTab W) (h : Ss W w p r X b m) (hj : j < 2) (t : Sp) (hu : Rd W t.v t.l) (hx : (X j).length ≤ 536870912) (hm : m ≤ 536870912) (hl : t.l.length ≤ 536870912) (hv0 : t.i < 0) (hk : t.k = 5) :
    Calls Tryd.prog 14 #[pt (p j), pt (r j), t.val, pt b] w fun e w' => e = .returned (.bool true) ∧ Hid (Da W w' p r X b m j t.l) := by
  obtain ⟨c, v, u, s, hst, hbo⟩ := h
  obtain ⟨wb, hwb⟩ : ∃ wb, wb = w.alloc (.cells #[.int .i64 t.k, .int .i64 t.o, .int .i64 t.i, t.v] 45) := ⟨_, rfl⟩
  have HS := hid (Sx.start hst t hwb)
  have HBO := hid hbo
  have HU := hid hu
  have HPW := hid hPW
  have HWB := hid hwb
  obtain ⟨b0, hb0⟩ : ∃ b0, b0 = w.heap.size := ⟨_, rfl⟩
  have HB0 := hid hb0
  rw [← hb0] at HS
  have hbx := HS.out.box
  obtain ⟨x0, x2, x3⟩ := hbx
  obtain ⟨al, kl, hv, _⟩ := hu
  have hF1 := hbo.le
  clear hst hbo hwb hb0 hPW
  have HL1 : Hid (∀ n, Calls Tryd.prog 25 #[pt (p j), .int .i64 t.i] (wb.drewN n) fun e w' => e = .returned (.int .i64 150) ∧ w' = wb.drewN n) := fun n => (HS.out.later (Below.drewN (Below.refl _ _) n)).pdrop_out hj t.i (by omega)
  have HL2 : Hid (∀ n, Calls Tryd.prog 26 #[pt (r j), .int .i64 t.i] (wb.drewN n) fun e w' => e = .returned (.int .i64 150) ∧ w' = wb.drewN n) := fun n => (HS.out.later (Below.drewN (Below.refl _ _) n)).rdrop_out hj t.i (by omega)
  have HDA : Hid (∀ n, Da W (wb.drewN n) p r X b m j t.l) := fun n => (HS.out.later (Below.drewN (Below.refl _ _) n)).da (upd_self X j).symm (upd_self X j).symm (HBO.out.mono (by omega)) (by omega)
  obtain ⟨tk, tq, ti, tv, tl⟩ := t
  simp only at hv x0 x2 x3 HWB hl hk HL1 HL2 HDA ⊢
  subst hv
  replace hk : tk = 5 := hk
  subst hk
  go_enter Tryd.func14, Tryd.ntmps14
  go_wp2_with fail
  rw [← HWB.out, ← HB0.out]
  go_quiet ((first | (go_at_call 25; exact Calls.quiet_of_same (HL1.out _)) | (go_at_call 26; exact Calls.quiet_of_same (HL2.out _))))
  go_wp2_with fail
  go_ret
  exact ⟨rfl, HDA.out _⟩

set_option maxRecDepth 16000 in
set_option maxHeartbeats 8000000 in
theorem does_copy_A (hPW : PowTab W) (h : Ss W w p r X b m) (hj : j < 2) (t : Sp) (hu : Rd W t.v t.l) (hx : (X j).length ≤ 536870912) (hm : m ≤ 536870912) (hl : t.l.length ≤ 536870912) (hv0 : t.i < 0) (hk : t.k = 6) :
    Calls Tryd.prog 14 #[pt (p j), pt (r j), t.val, pt b] w fun e w' => e = .returned (.bool true) ∧ Hid (Da W w' p r X b m j t.l) := by
  obtain ⟨c, v, u, s, hst, hbo⟩ := h
  obtain ⟨wb, hwb⟩ : ∃ wb, wb = w.alloc (.cells #[.int .i64 t.k, .int .i64 t.o, .int .i64 t.i, t.v] 45) := ⟨_, rfl⟩
  have HS := hid (Sx.start hst t hwb)
  have HBO := hid hbo
  have HU := hid hu
  have HPW := hid hPW
  have HWB := hid hwb
  obtain ⟨b0, hb0⟩ : ∃ b0, b0 = w.heap.size := ⟨_, rfl⟩
  have HB0 := hid hb0
  rw [← hb0] at HS
  have hbx := HS.out.box
  obtain ⟨x0, x2, x3⟩ := hbx
  obtain ⟨al, kl, hv, _⟩ := hu
  have hF1 := hbo.le
  clear hst hbo hwb hb0 hPW
  have HL1 : Hid (∀ n, Calls Tryd.prog 27 #[pt (p j), .int .i64 t.i] (wb.drewN n) fun e w' => e = .returned (.int .i64 150) ∧ w' = wb.drewN n) := fun n => (HS.out.later (Below.drewN (Below.refl _ _) n)).pcopy_out hj t.i (by omega)
  have HL2 : Hid (∀ n, Calls Tryd.prog 28 #[pt (r j), .int .i64 t.i] (wb.drewN n) fun e w' => e = .returned (.int .i64 150) ∧ w' = wb.drewN n) := fun n => (HS.out.later (Below.drewN (Below.refl _ _) n)).rcopy_out hj t.i (by omega)
  have HDA : Hid (∀ n, Da W (wb.drewN n) p r X b m j t.l) := fun n => (HS.out.later (Below.drewN (Below.refl _ _) n)).da (upd_self X j).symm (upd_self X j).symm (HBO.out.mono (by omega)) (by omega)
  obtain ⟨tk, tq, ti, tv, tl⟩ := t
  simp only at hv x0 x2 x3 HWB hl hk HL1 HL2 HDA ⊢
  subst hv
  replace hk : tk = 6 := hk
  subst hk
  go_enter Tryd.func14, Tryd.ntmps14
  go_wp2_with fail
  rw [← HWB.out, ← HB0.out]
  go_quiet ((first | (go_at_call 27; exact Calls.quiet_of_same (HL1.out _)) | (go_at_call 28; exact Calls.quiet_of_same (HL2.out _))))
  go_wp2_with fail
  go_ret
  exact ⟨rfl, HDA.out _⟩

set_option maxRecDepth 16000 in
set_option maxHeartbeats 8000000 in
theorem does_look_B (hPW : PowTab W) (h : Ss W w p r X b m) (hj : j < 2) (t : Sp) (hu : Rd W t.v t.l) (hx : (X j).length ≤ 536870912) (hm : m ≤ 536870912) (hl : t.l.length ≤ 536870912) (hv0 : 0 ≤ t.i ∧ t.i < ((X j).length : Int)) (hk : t.k = 3) :
    Calls Tryd.prog 14 #[pt (p j), pt (r j), t.val, pt b] w fun e w' => e = .returned (.bool true) ∧ Hid (Da W w' p r X b m j t.l) := by
  obtain ⟨c, v, u, s, hst, hbo⟩ := h
  obtain ⟨wb, hwb⟩ : ∃ wb, wb = w.alloc (.cells #[.int .i64 t.k, .int .i64 t.o, .int .i64 t.i, t.v] 45) := ⟨_, rfl⟩
  have HS := hid (Sx.start hst t hwb)
  have HBO := hid hbo
  have HU := hid hu
  have HPW := hid hPW
  have HWB := hid hwb
  obtain ⟨b0, hb0⟩ : ∃ b0, b0 = w.heap.size := ⟨_, rfl⟩
  have HB0 := hid hb0
  rw [← hb0] at HS
  have hbx := HS.out.box
  obtain ⟨x0, x2, x3⟩ := hbx
  obtain ⟨al, kl, hv, _⟩ := hu
  have hF1 := hbo.le
  clear hst hbo hwb hb0 hPW
  obtain ⟨i, hi⟩ : ∃ i : Nat, t.i = (i : Int) := ⟨t.i.toNat, by omega⟩
  have hil : i < (X j).length := by omega
  have HL1 := hid (HS.out.plook_in hj i hil)
  have HL2 := hid (HS.out.rlook_in hj i hil)
  generalize nthT (X j) i = tx at HL1 HL2
  have HDA : Hid (Da W wb p r X b m j t.l) := HS.out.da (upd_self X j).symm (upd_self X j).symm (HBO.out.mono (by omega)) (by omega)
  obtain ⟨tk, tq, ti, tv, tl⟩ := t
  simp only at hv x0 x2 x3 HWB hl hk HL1 HL2 HDA hi ⊢
  subst hv
  replace hk : tk = 3 := hk
  subst hk
  subst hi
  go_enter Tryd.func14, Tryd.ntmps14
  go_wp2_with fail
  rw [← HWB.out, ← HB0.out]
  refine HL1.out.mono ?_
  rintro e w1 ⟨rfl, rfl⟩
  go_wp2_with fail
  refine HL2.out.mono ?_
  rintro e w1 ⟨rfl, rfl⟩
  go_wp2_with fail
  go_ret
  exact ⟨rfl, HDA.out⟩

set_option maxRecDepth 16000 in
set_option maxHeartbeats 8000000 in
theorem does_take_B (hPW : PowTab W) (h : Ss W w p r X b m) (hj : j < 2) (t : Sp) (hu : Rd W t.v t.l) (hx : (X j).length ≤ 536870912) (hm : m ≤ 536870912) (hl : t.l.length ≤ 536870912) (hv0 : 0 ≤ t.i ∧ t.i < ((X j).length : Int)) (hk : t.k = 4) :
    Calls Tryd.prog 14 #[pt (p j), pt (r j), t.val, pt b] w fun e w' => e = .returned (.bool true) ∧ Hid (Da W w' p r X b m j t.l) := by
  obtain ⟨c, v, u, s, hst, hbo⟩ := h
  obtain ⟨wb, hwb⟩ : ∃ wb, wb = w.alloc (.cells #[.int .i64 t.k, .int .i64 t.o, .int .i64 t.i, t.v] 45) := ⟨_, rfl⟩
  have HS := hid (Sx.start hst t hwb)
  have HBO := hid hbo
  have HU := hid hu
  have HPW := hid hPW
  have HWB := hid hwb
  obtain ⟨b0, hb0⟩ : ∃ b0, b0 = w.heap.size := ⟨_, rfl⟩
  have HB0 := hid hb0
  rw [← hb0] at HS
  have hbx := HS.out.box
  obtain ⟨x0, x2, x3⟩ := hbx
  obtain ⟨al, kl, hv, _⟩ := hu
  have hF1 := hbo.le
  clear hst hbo hwb hb0 hPW
  obtain ⟨i, hi⟩ : ∃ i : Nat, t.i = (i : Int) := ⟨t.i.toNat, by omega⟩
  have hil : i < (X j).length := by omega
  have HL1 := hid (HS.out.ptake_in hj i hil (by omega))
  have HL2 : Hid (∀ w1, Sx W w1 p r (upd X j ((X j).eraseIdx i)) X b s [] b0 t → Calls Tryd.prog 24 #[pt (r j), .int .i64 (i : Int)] w1 fun e w' => e = .returned (lookV (nthT (X j) i) 0) ∧ Hid (Sx W w' p r (upd X j ((X j).eraseIdx i)) (upd X j ((X j).eraseIdx i)) b s [] b0 t)) := fun w1 h1 => h1.rtake_in hj i hil (by omega)
  have HX2 : Hid (∀ w1 P R s E, Sx W w1 p r P R b s E b0 t → w1.cell? ⟨b0, 2, none⟩ = some (.int .i64 t.i)) := fun w1 P R s E h1 => h1.box.2.1
  have HDA : Hid (∀ w1, Sx W w1 p r (upd X j ((X j).eraseIdx i)) (upd X j ((X j).eraseIdx i)) b s [] b0 t → Da W w1 p r X b m j t.l) := fun w1 h1 => h1.da rfl rfl (HBO.out.mono (by omega)) (by have := List.length_eraseIdx_le (X j) i; omega)
  generalize (X j).eraseIdx i = ys at HL1 HL2 HDA
  generalize nthT (X j) i = tx at HL1 HL2
  obtain ⟨tk, tq, ti, tv, tl⟩ := t
  simp only at hv x0 x2 x3 HWB hl hk HL1 HL2 HX2 HDA hi ⊢
  subst hv
  replace hk : tk = 4 := hk
  subst hk
  subst hi
  go_enter Tryd.func14, Tryd.ntmps14
  go_wp2_with fail
  rw [← HWB.out, ← HB0.out]
  refine HL1.out.mono ?_
  rintro e w1 ⟨rfl, HS1⟩
  have y2 := HX2.out _ _ _ _ _ HS1.out
  go_wp2_with fail
  refine (HL2.out w1 HS1.out).mono ?_
  rintro e w2 ⟨rfl, HS2⟩
  go_wp2_with fail
  go_ret
  exact ⟨rfl, HDA.out _ HS2.out⟩

set_option maxRecDepth 16000 in
set_option maxHeartbeats 8000000 in
theorem does_drop_B (hPW : PowTab W) (h : Ss W w p r X b m) (hj : j < 2) (t : Sp) (hu : Rd W t.v t.l) (hx : (X j).length ≤ 536870912) (hm : m ≤ 536870912) (hl : t.l.length ≤ 536870912) (hv0 : 0 ≤ t.i ∧ t.i < ((X j).length : Int)) (hk : t.k = 5) :
    Calls Tryd.prog 14 #[pt (p j), pt (r j), t.val, pt b] w fun e w' => e = .returned (.bool true) ∧ Hid (Da W w' p r X b m j t.l) := by
  obtain ⟨c, v, u, s, hst, hbo⟩ := h
  obtain ⟨wb, hwb⟩ : ∃ wb, wb = w.alloc (.cells #[.int .i64 t.k, .int .i64 t.o, .int .i64 t.i, t.v] 45) := ⟨_, rfl⟩
  have HS := hid (Sx.start hst t hwb)
  have HBO := hid hbo
  have HU := hid hu
  have HPW := hid hPW
  have HWB := hid hwb
  obtain ⟨b0, hb0⟩ : ∃ b0, b0 = w.heap.size := ⟨_, rfl⟩
  have HB0 := hid hb0
  rw [← hb0] at HS
  have hbx := HS.out.box
  obtain ⟨x0, x2, x3⟩ := hbx
  obtain ⟨al, kl, hv, _⟩ := hu
  have hF1 := hbo.le
  clear hst hbo hwb hb0 hPW
  obtain ⟨i, hi⟩ : ∃ i : Nat, t.i = (i : Int) := ⟨t.i.toNat, by omega⟩
  have hil : i < (X j).length := by omega
  have P1 : Hid (∀ w1, Sx W w1 p r X X b s [] b0 t → Calls Tryd.prog 25 #[pt (p j), .int .i64 (i : Int)] w1 fun e w' => e = .returned (.int .i64 0) ∧ Hid (Sx W w' p r (upd X j ((X j).eraseIdx i)) X b s [] b0 t)) := fun w1 h1 => h1.pdrop_in hj i hil (by omega)
  have P2 : Hid (∀ w1, Sx W w1 p r X (upd X j ((X j).eraseIdx i)) b s [] b0 t → Calls Tryd.prog 25 #[pt (p j), .int .i64 (i : Int)] w1 fun e w' => e = .returned (.int .i64 0) ∧ Hid (Sx W w' p r (upd X j ((X j).eraseIdx i)) (upd X j ((X j).eraseIdx i)) b s [] b0 t)) := fun w1 h1 => h1.pdrop_in hj i hil (by omega)
  have R1 : Hid (∀ w1, Sx W w1 p r X X b s [] b0 t → Calls Tryd.prog 26 #[pt (r j), .int .i64 (i : Int)] w1 fun e w' => e = .returned (.int .i64 0) ∧ Hid (Sx W w' p r X (upd X j ((X j).eraseIdx i)) b s [] b0 t)) := fun w1 h1 => h1.rdrop_in hj i hil (by omega)
  have R2 : Hid (∀ w1, Sx W w1 p r (upd X j ((X j).eraseIdx i)) X b s [] b0 t → Calls Tryd.prog 26 #[pt (r j), .int .i64 (i : Int)] w1 fun e w' => e = .returned (.int .i64 0) ∧ Hid (Sx W w' p r (upd X j ((X j).eraseIdx i)) (upd X j ((X j).eraseIdx i)) b s [] b0 t)) := fun w1 h1 => h1.rdrop_in hj i hil (by omega)
  have HX2 : Hid (∀ w1 P R s E, Sx W w1 p r P R b s E b0 t → w1.cell? ⟨b0, 2, none⟩ = some (.int .i64 t.i)) := fun w1 P R s E h1 => h1.box.2.1
  have HDA : Hid (∀ w1, Sx W w1 p r (upd X j ((X j).eraseIdx i)) (upd X j ((X j).eraseIdx i)) b s [] b0 t → Da W w1 p r X b m j t.l) := fun w1 h1 => h1.da rfl rfl (HBO.out.mono (by omega)) (by have := List.length_eraseIdx_le (X j) i; omega)
  have HSD : Hid (Sx W wb.drew p r X X b s [] b0 t) := HS.out.later (Below.drew (Below.refl _ _))
  generalize (X j).eraseIdx i = ys at P1 P2 R1 R2 HDA
  obtain ⟨tk, tq, ti, tv, tl⟩ := t
  simp only at hv x0 x2 x3 HWB hl hk P1 P2 R1 R2 HX2 HDA hi ⊢
  subst hv
  replace hk : tk = 5 := hk
  subst hk
  subst hi
  go_enter Tryd.func14, Tryd.ntmps14
  go_wp2_with fail
  rw [← HWB.out, ← HB0.out]
  go_region_with (first
    | (go_at_call 25; refine (P1.out _ HSD.out).mono ?_; rintro e w1 ⟨rfl, HA1⟩; have y2 := HX2.out _ _ _ _ _ HA1.out)
    | (go_at_call 26; refine (R2.out _ HA1.out).mono ?_; rintro e w2 ⟨rfl, HS2⟩; have z2 := HX2.out _ _ _ _ _ HS2.out)
    | (go_at_call 26; refine (R1.out _ HSD.out).mono ?_; rintro e w1 ⟨rfl, HB1⟩; have y2 := HX2.out _ _ _ _ _ HB1.out)
    | (go_at_call 25; refine (P2.out _ HB1.out).mono ?_; rintro e w2 ⟨rfl, HS2⟩; have z2 := HX2.out _ _ _ _ _ HS2.out))
  all_goals (try go_wp2_with fail)
  all_goals go_ret
  all_goals exact ⟨rfl, HDA.out _ HS2.out⟩

set_option maxRecDepth 16000 in
set_option maxHeartbeats 8000000 in
theorem does_copy_B (hPW : PowTab W) (h : Ss W w p r X b m) (hj : j < 2) (t : Sp) (hu : Rd W t.v t.l) (hx : (X j).length ≤ 536870912) (hm : m ≤ 536870912) (hl : t.l.length ≤ 536870912) (hv0 : 0 ≤ t.i ∧ t.i < ((X j).length : Int)) (hk : t.k = 6) :
    Calls Tryd.prog 14 #[pt (p j), pt (r j), t.val, pt b] w fun e w' => e = .returned (.bool true) ∧ Hid (Da W w' p r X b m j t.l) := by
  obtain ⟨c, v, u, s, hst, hbo⟩ := h
  obtain ⟨wb, hwb⟩ : ∃ wb, wb = w.alloc (.cells #[.int .i64 t.k, .int .i64 t.o, .int .i64 t.i, t.v] 45) := ⟨_, rfl⟩
  have HS := hid (Sx.start hst t hwb)
  have HBO := hid hbo
  have HU := hid hu
  have HPW := hid hPW
  have HWB := hid hwb
  obtain ⟨b0, hb0⟩ : ∃ b0, b0 = w.heap.size := ⟨_, rfl⟩
  have HB0 := hid hb0
  rw [← hb0] at HS
  have hbx := HS.out.box
  obtain ⟨x0, x2, x3⟩ := hbx
  obtain ⟨al, kl, hv, _⟩ := hu
  have hF1 := hbo.le
  clear hst hbo hwb hb0 hPW
  obtain ⟨i, hi⟩ : ∃ i : Nat, t.i = (i : Int) := ⟨t.i.toNat, by omega⟩
  have hil : i < (X j).length := by omega
  have P1 : Hid (∀ w1, Sx W w1 p r X X b s [] b0 t → Calls Tryd.prog 27 #[pt (p j), .int .i64 (i : Int)] w1 fun e w' => e = .returned (.int .i64 0) ∧ Hid (Sx W w' p r (upd X j (X j ++ [nthT (X j) i])) X b s [] b0 t)) := fun w1 h1 => h1.pcopy_in hj i hil (by omega)
  have P2 : Hid (∀ w1, Sx W w1 p r X (upd X j (X j ++ [nthT (X j) i])) b s [] b0 t → Calls Tryd.prog 27 #[pt (p j), .int .i64 (i : Int)] w1 fun e w' => e = .returned (.int .i64 0) ∧ Hid (Sx W w' p r (upd X j (X j ++ [nthT (X j) i])) (upd X j (X j ++ [nthT (X j) i])) b s [] b0 t)) := fun w1 h1 => h1.pcopy_in hj i hil (by omega)
  have R1 : Hid (∀ w1, Sx W w1 p r X X b s [] b0 t → Calls Tryd.prog 28 #[pt (r j), .int .i64 (i : Int)] w1 fun e w' => e = .returned (.int .i64 0) ∧ Hid (Sx W w' p r X (upd X j (X j ++ [nthT (X j) i])) b s [] b0 t)) := fun w1 h1 => h1.rcopy_in hj i hil (by omega)
  have R2 : Hid (∀ w1, Sx W w1 p r (upd X j (X j ++ [nthT (X j) i])) X b s [] b0 t → Calls Tryd.prog 28 #[pt (r j), .int .i64 (i : Int)] w1 fun e w' => e = .returned (.int .i64 0) ∧ Hid (Sx W w' p r (upd X j (X j ++ [nthT (X j) i])) (upd X j (X j ++ [nthT (X j) i])) b s [] b0 t)) := fun w1 h1 => h1.rcopy_in hj i hil (by omega)
  have HX2 : Hid (∀ w1 P R s E, Sx W w1 p r P R b s E b0 t → w1.cell? ⟨b0, 2, none⟩ = some (.int .i64 t.i)) := fun w1 P R s E h1 => h1.box.2.1
  have HDA : Hid (∀ w1, Sx W w1 p r (upd X j (X j ++ [nthT (X j) i])) (upd X j (X j ++ [nthT (X j) i])) b s [] b0 t → Da W w1 p r X b m j t.l) := fun w1 h1 => h1.da rfl rfl (HBO.out.mono (by omega)) (by simp; try omega)
  have HSD : Hid (Sx W wb.drew p r X X b s [] b0 t) := HS.out.later (Below.drew (Below.refl _ _))
  generalize X j ++ [nthT (X j) i] = ys at P1 P2 R1 R2 HDA
  obtain ⟨tk, tq, ti, tv, tl⟩ := t
  simp only at hv x0 x2 x3 HWB hl hk P1 P2 R1 R2 HX2 HDA hi ⊢
  subst hv
  replace hk : tk = 6 := hk
  subst hk
  subst hi
  go_enter Tryd.func14, Tryd.ntmps14
  go_wp2_with fail
  rw [← HWB.out, ← HB0.out]
  go_region_with (first
    | (go_at_call 27; refine (P1.out _ HSD.out).mono ?_; rintro e w1 ⟨rfl, HA1⟩; have y2 := HX2.out _ _ _ _ _ HA1.out)
    | (go_at_call 28; refine (R2.out _ HA1.out).mono ?_; rintro e w2 ⟨rfl, HS2⟩; have z2 := HX2.out _ _ _ _ _ HS2.out)
    | (go_at_call 28; refine (R1.out _ HSD.out).mono ?_; rintro e w1 ⟨rfl, HB1⟩; have y2 := HX2.out _ _ _ _ _ HB1.out)
    | (go_at_call 27; refine (P2.out _ HB1.out).mono ?_; rintro e w2 ⟨rfl, HS2⟩; have z2 := HX2.out _ _ _ _ _ HS2.out))
  all_goals (try go_wp2_with fail)
  all_goals go_ret
  all_goals exact ⟨rfl, HDA.out _ HS2.out⟩

set_option maxRecDepth 16000 in
set_option maxHeartbeats 8000000 in
theorem does_look_C (hPW : PowTab W) (h : Ss W w p r X b m) (hj : j < 2) (t : Sp) (hu : Rd W t.v t.l) (hx : (X j).length ≤ 536870912) (hm : m ≤ 536870912) (hl : t.l.length ≤ 536870912) (hv0 : ((X j).length : Int) ≤ t.i) (hk : t.k = 3) :
    Calls Tryd.prog 14 #[pt (p j), pt (r j), t.val, pt b] w fun e w' => e = .returned (.bool true) ∧ Hid (Da W w' p r X b m j t.l) := by
  obtain ⟨c, v, u, s, hst, hbo⟩ := h
  obtain ⟨wb, hwb⟩ : ∃ wb, wb = w.alloc (.cells #[.int .i64 t.k, .int .i64 t.o, .int .i64 t.i, t.v] 45) := ⟨_, rfl⟩
  have HS := hid (Sx.start hst t hwb)
  have HBO := hid hbo
  have HU := hid hu
  have HPW := hid hPW
  have HWB := hid hwb
  obtain ⟨b0, hb0⟩ : ∃ b0, b0 = w.heap.size := ⟨_, rfl⟩
  have HB0 := hid hb0
  rw [← hb0] at HS
  have hbx := HS.out.box
  obtain ⟨x0, x2, x3⟩ := hbx
  obtain ⟨al, kl, hv, _⟩ := hu
  have hF1 := hbo.le
  clear hst hbo hwb hb0 hPW
  have HL1 := hid (HS.out.plook_out hj t.i (by omega))
  have HL2 := hid (HS.out.rlook_out hj t.i (by omega))
  have HDA : Hid (Da W wb p r X b m j t.l) := HS.out.da (upd_self X j).symm (upd_self X j).symm (HBO.out.mono (by omega)) (by omega)
  obtain ⟨tk, tq, ti, tv, tl⟩ := t
  simp only at hv x0 x2 x3 HWB hl hk HL1 HL2 HDA ⊢
  subst hv
  replace hk : tk = 3 := hk
  subst hk
  go_enter Tryd.func14, Tryd.ntmps14
  go_wp2_with fail
  rw [← HWB.out, ← HB0.out]
  refine HL1.out.mono ?_
  rintro e w1 ⟨rfl, rfl⟩
  go_wp2_with fail
  refine HL2.out.mono ?_
  rintro e w1 ⟨rfl, rfl⟩
  go_wp2_with fail
  go_ret
  exact ⟨rfl, HDA.out⟩

set_option maxRecDepth 16000 in
set_option maxHeartbeats 8000000 in
theorem does_take_C (hPW : PowTab W) (h : Ss W w p r X b m) (hj : j < 2) (t : Sp) (hu : Rd W t.v t.l) (hx : (X j).length ≤ 536870912) (hm : m ≤ 536870912) (hl : t.l.length ≤ 536870912) (hv0 : ((X j).length : Int) ≤ t.i) (hk : t.k = 4) :
    Calls Tryd.prog 14 #[pt (p j), pt (r j), t.val, pt b] w fun e w' => e = .returned (.bool true) ∧ Hid (Da W w' p r X b m j t.l) := by
  obtain ⟨c, v, u, s, hst, hbo⟩ := h
  obtain ⟨wb, hwb⟩ : ∃ wb, wb = w.alloc (.cells #[.int .i64 t.k, .int .i64 t.o, .int .i64 t.i, t.v] 45) := ⟨_, rfl⟩
  have HS := hid (Sx.start hst t hwb)
  have HBO := hid hbo
  have HU := hid hu
  have HPW := hid hPW
  have HWB := hid hwb
  obtain ⟨b0, hb0⟩ : ∃ b0, b0 = w.heap.size := ⟨_, rfl⟩
  have HB0 := hid hb0
  rw [← hb0] at HS
  have hbx := HS.out.box
  obtain ⟨x0, x2, x3⟩ := hbx
  obtain ⟨al, kl, hv, _⟩ := hu
  have hF1 := hbo.le
  clear hst hbo hwb hb0 hPW
  have HL1 := hid (HS.out.ptake_out hj t.i (by omega))
  have HL2 := hid (HS.out.rtake_out hj t.i (by omega))
  have HDA : Hid (Da W wb p r X b m j t.l) := HS.out.da (upd_self X j).symm (upd_self X j).symm (HBO.out.mono (by omega)) (by omega)
  obtain ⟨tk, tq, ti, tv, tl⟩ := t
  simp only at hv x0 x2 x3 HWB hl hk HL1 HL2 HDA ⊢
  subst hv
  replace hk : tk = 4 := hk
  subst hk
  go_enter Tryd.func14, Tryd.ntmps14
  go_wp2_with fail
  rw [← HWB.out, ← HB0.out]
  refine HL1.out.mono ?_
  rintro e w1 ⟨rfl, rfl⟩
  go_wp2_with fail
  refine HL2.out.mono ?_
  rintro e w1 ⟨rfl, rfl⟩
  go_wp2_with fail
  go_ret
  exact ⟨rfl, HDA.out⟩

set_option maxRecDepth 16000 in
set_option maxHeartbeats 8000000 in
theorem does_drop_C (hPW : PowTab W) (h : Ss W w p r X b m) (hj : j < 2) (t : Sp) (hu : Rd W t.v t.l) (hx : (X j).length ≤ 536870912) (hm : m ≤ 536870912) (hl : t.l.length ≤ 536870912) (hv0 : ((X j).length : Int) ≤ t.i) (hk : t.k = 5) :
    Calls Tryd.prog 14 #[pt (p j), pt (r j), t.val, pt b] w fun e w' => e = .returned (.bool true) ∧ Hid (Da W w' p r X b m j t.l) := by
  obtain ⟨c, v, u, s, hst, hbo⟩ := h
  obtain ⟨wb, hwb⟩ : ∃ wb, wb = w.alloc (.cells #[.int .i64 t.k, .int .i64 t.o, .int .i64 t.i, t.v] 45) := ⟨_, rfl⟩
  have HS := hid (Sx.start hst t hwb)
  have HBO := hid hbo
  have HU := hid hu
  have HPW := hid hPW
  have HWB := hid hwb
  obtain ⟨b0, hb0⟩ : ∃ b0, b0 = w.heap.size := ⟨_, rfl⟩
  have HB0 := hid hb0
  rw [← hb0] at HS
  have hbx := HS.out.box
  obtain ⟨x0, x2, x3⟩ := hbx
  obtain ⟨al, kl, hv, _⟩ := hu
  have hF1 := hbo.le
  clear hst hbo hwb hb0 hPW
  have HL1 : Hid (∀ n, Calls Tryd.prog 25 #[pt (p j), .int .i64 t.i] (wb.drewN n) fun e w' => e = .returned (.int .i64 150) ∧ w' = wb.drewN n) := fun n => (HS.out.later (Below.drewN (Below.refl _ _) n)).pdrop_out hj t.i (by omega)
  have HL2 : Hid (∀ n, Calls Tryd.prog 26 #[pt (r j), .int .i64 t.i] (wb.drewN n) fun e w' => e = .returned (.int .i64 150) ∧ w' = wb.drewN n) := fun n => (HS.out.later (Below.drewN (Below.refl _ _) n)).rdrop_out hj t.i (by omega)
  have HDA : Hid (∀ n, Da W (wb.drewN n) p r X b m j t.l) := fun n => (HS.out.later (Below.drewN (Below.refl _ _) n)).da (upd_self X j).symm (upd_self X j).symm (HBO.out.mono (by omega)) (by omega)
  obtain ⟨tk, tq, ti, tv, tl⟩ := t
  simp only at hv x0 x2 x3 HWB hl hk HL1 HL2 HDA ⊢
  subst hv
  replace hk : tk = 5 := hk
  subst hk
  go_enter Tryd.func14, Tryd.ntmps14
  go_wp2_with fail
  rw [← HWB.out, ← HB0.out]
  go_quiet ((first | (go_at_call 25; exact Calls.quiet_of_same (HL1.out _)) | (go_at_call 26; exact Calls.quiet_of_same (HL2.out _))))
  go_wp2_with fail
  go_ret
  exact ⟨rfl, HDA.out _⟩

set_option maxRecDepth 16000 in
set_option maxHeartbeats 8000000 in
theorem does_copy_C (hPW : PowTab W) (h : Ss W w p r X b m) (hj : j < 2) (t : Sp) (hu : Rd W t.v t.l) (hx : (X j).length ≤ 536870912) (hm : m ≤ 536870912) (hl : t.l.length ≤ 536870912) (hv0 : ((X j).length : Int) ≤ t.i) (hk : t.k = 6) :
    Calls Tryd.prog 14 #[pt (p j), pt (r j), t.val, pt b] w fun e w' => e = .returned (.bool true) ∧ Hid (Da W w' p r X b m j t.l) := by
  obtain ⟨c, v, u, s, hst, hbo⟩ := h
  obtain ⟨wb, hwb⟩ : ∃ wb, wb = w.alloc (.cells #[.int .i64 t.k, .int .i64 t.o, .int .i64 t.i, t.v] 45) := ⟨_, rfl⟩
  have HS := hid (Sx.start hst t hwb)
  have HBO := hid hbo
  have HU := hid hu
  have HPW := hid hPW
  have HWB := hid hwb
  obtain ⟨b0, hb0⟩ : ∃ b0, b0 = w.heap.size := ⟨_, rfl⟩
  have HB0 := hid hb0
  rw [← hb0] at HS
  have hbx := HS.out.box
  obtain ⟨x0, x2, x3⟩ := hbx
  obtain ⟨al, kl, hv, _⟩ := hu
  have hF1 := hbo.le
  clear hst hbo hwb hb0 hPW
  have HL1 : Hid (∀ n, Calls Tryd.prog 27 #[pt (p j), .int .i64 t.i] (wb.drewN n) fun e w' => e = .returned (.int .i64 150) ∧ w' = wb.drewN n) := fun n => (HS.out.later (Below.drewN (Below.refl _ _) n)).pcopy_out hj t.i (by omega)
  have HL2 : Hid (∀ n, Calls Tryd.prog 28 #[pt (r j), .int .i64 t.i] (wb.drewN n) fun e w' => e = .returned (.int .i64 150) ∧ w' = wb.drewN n) := fun n => (HS.out.later (Below.drewN (Below.refl _ _) n)).rcopy_out hj t.i (by omega)
  have HDA : Hid (∀ n, Da W (wb.drewN n) p r X b m j t.l) := fun n => (HS.out.later (Below.drewN (Below.refl _ _) n)).da (upd_self X j).symm (upd_self X j).symm (HBO.out.mono (by omega)) (by omega)
  obtain ⟨tk, tq, ti, tv, tl⟩ := t
  simp only at hv x0 x2 x3 HWB hl hk HL1 HL2 HDA ⊢
  subst hv
  replace hk : tk = 6 := hk
  subst hk
  go_enter Tryd.func14, Tryd.ntmps14
  go_wp2_with fail
  rw [← HWB.out, ← HB0.out]
  go_quiet ((first | (go_at_call 27; exact Calls.quiet_of_same (HL1.out _)) | (go_at_call 28; exact Calls.quiet_of_same (HL2.out _))))
  go_wp2_with fail
  go_ret
  exact ⟨rfl, HDA.out _⟩

set_option maxRecDepth 16000 in
set_option maxHeartbeats 8000000 in
theorem does_drain (hPW : PowTab W) (h : Ss W w p r X b m) (hj : j < 2) (t : Sp) (hu : Rd W t.v t.l) (hx : (X j).length ≤ 536870912) (hm : m ≤ 536870912) (hl : t.l.length ≤ 536870912) (hk : t.k = 7) :
    Calls Tryd.prog 14 #[pt (p j), pt (r j), t.val, pt b] w fun e w' => e = .returned (.bool true) ∧ Hid (Da W w' p r X b m j t.l) := by
  obtain ⟨c, v, u, s, hst, hbo⟩ := h
  obtain ⟨wb, hwb⟩ : ∃ wb, wb = w.alloc (.cells #[.int .i64 t.k, .int .i64 t.o, .int .i64 t.i, t.v] 45) := ⟨_, rfl⟩
  have HS := hid (Sx.start hst t hwb)
  have HBO := hid hbo
  have HU := hid hu
  have HPW := hid hPW
  have HWB := hid hwb
  obtain ⟨b0, hb0⟩ : ∃ b0, b0 = w.heap.size := ⟨_, rfl⟩
  have HB0 := hid hb0
  rw [← hb0] at HS
  have hbx := HS.out.box
  obtain ⟨x0, x2, x3⟩ := hbx
  obtain ⟨al, kl, hv, _⟩ := hu
  have hF1 := hbo.le
  clear hst hbo hwb hb0 hPW
  have HL1 := hid (HS.out.pdrain hj t.i (by omega) 15 (by omega))
  have HL2 : Hid (∀ w1 E, Sx W w1 p r (upd X j []) X b s E b0 t → Calls Tryd.prog 33 #[pt (r j), .int .i64 t.i] w1 fun e w' => ∃ a k, e = .returned (.slice a (X j).length k) ∧ Hid (Rd w' (.slice a (X j).length k) (rot (X j) t.i)) ∧ Hid (Sx W w' p r (upd X j []) (upd X j []) b s E b0 t)) := fun w1 E h1 => h1.rdrain hj t.i (by omega)
  have HSM : Hid (∀ w3 a1 n1 k1 a2 n2 k2 xs, Rd w3 (.slice a1 n1 k1) xs → Rd w3 (.slice a2 n2 k2) xs → xs.length ≤ 1073741824 → Calls Tryd.prog 31 #[.slice a1 n1 k1, .slice a2 n2 k2] w3 fun e w' => e = .returned (.bool true) ∧ Below w3.heap.size w3 w') := fun w3 a1 n1 k1 a2 n2 k2 xs h1 h2 h3 => by
    refine (same_at h1 h2 (by omega)).mono ?_
    rintro e w' ⟨rfl, q, rfl⟩
    exact ⟨rfl, Below.drewN (Below.refl _ _) _⟩
  have HKP : Hid (∀ w3 z, Sx W w3 p r (upd X j []) (upd X j []) b s [(15, z, rot (X j) t.i)] b0 t → Calls Tryd.prog 32 #[pt b, z] w3 fun e w' => e = .returned (.tuple #[]) ∧ Hid (Da W w' p r X b m j t.l)) := fun w3 z h3 => by
    refine (h3.keep (fun e he => by cases he) (by omega) (by rw [rot_len]; omega) (by omega)).mono ?_
    rintro e w' ⟨rfl, s', h4, hX, hY, hN, hL, hF⟩
    exact ⟨rfl, h4.da rfl rfl ((HBO.out.push (by rw [rot_len]; omega) hX hY hN hL hF).mono (by omega)) (by simp)⟩
  have HX2 : Hid (∀ w1 P R s E, Sx W w1 p r P R b s E b0 t → w1.cell? ⟨b0, 0, none⟩ = some (.int .i64 t.k) ∧ w1.cell? ⟨b0, 2, none⟩ = some (.int .i64 t.i)) := fun w1 P R s E h1 => ⟨h1.box.1, h1.box.2.1⟩
  have hrl : (rot (X j) t.i).length ≤ 1073741824 := by rw [rot_len]; omega
  generalize rot (X j) t.i = ys at HL1 HL2 HKP hrl
  generalize (X j).length = xn at HL1 HL2
  obtain ⟨tk, tq, ti, tv, tl⟩ := t
  simp only at hv x0 x2 x3 HWB hl hk HL1 HL2 HSM HKP HX2 ⊢
  subst hv
  replace hk : tk = 7 := hk
  subst hk
  go_enter Tryd.func14, Tryd.ntmps14
  go_wp2_with fail
  rw [← HWB.out, ← HB0.out]
  refine HL1.out.mono ?_
  rintro e w1 ⟨a1, k1, rfl, HS1⟩
  obtain ⟨y0, y2⟩ := HX2.out _ _ _ _ _ HS1.out
  go_wp2_with fail
  refine (HL2.out w1 _ HS1.out).mono ?_
  rintro e w2 ⟨a2, k2, rfl, HR2, HS2⟩
  go_wp2_with fail
  refine (HSM.out w2 _ _ _ _ _ _ _ (HS2.out.rd (List.mem_singleton.2 rfl)) HR2.out hrl).mono ?_
  rintro e w3 ⟨rfl, hb3⟩
  have HS3 := hid (HS2.out.later hb3)
  clear hb3
  go_wp2_with fail
  refine (HKP.out w3 _ HS3.out).mono ?_
  rintro e w4 ⟨rfl, HD⟩
  go_wp2_with fail
  go_ret
  exact ⟨rfl, HD.out⟩

set_option maxRecDepth 16000 in
set_option maxHeartbeats 8000000 in
theorem does_all (hPW : PowTab W) (h : Ss W w p r X b m) (hj : j < 2) (t : Sp) (hu : Rd W t.v t.l) (hx : (X j).length ≤ 536870912) (hm : m ≤ 536870912) (hl : t.l.length ≤ 536870912) (hk : t.k = 8) :
    Calls Tryd.prog 14 #[pt (p j), pt (r j), t.val, pt b] w fun e w' => e = .returned (.bool true) ∧ Hid (Da W w' p r X b m j t.l) := by
  obtain ⟨c, v, u, s, hst, hbo⟩ := h
  obtain ⟨wb, hwb⟩ : ∃ wb, wb = w.alloc (.cells #[.int .i64 t.k, .int .i64 t.o, .int .i64 t.i, t.v] 45) := ⟨_, rfl⟩
  have HS := hid (Sx.start hst t hwb)
  have HBO := hid hbo
  have HU := hid hu
  have HPW := hid hPW
  have HWB := hid hwb
  obtain ⟨b0, hb0⟩ : ∃ b0, b0 = w.heap.size := ⟨_, rfl⟩
  have HB0 := hid hb0
  rw [← hb0] at HS
  have hbx := HS.out.box
  obtain ⟨x0, x2, x3⟩ := hbx
  obtain ⟨al, kl, hv, _⟩ := hu
  have hF1 := hbo.le
  clear hst hbo hwb hb0 hPW
  have HL1 := hid (HS.out.pall hj (by omega) 15 (by omega))
  have HL2 : Hid (∀ w1 E, Sx W w1 p r X X b s E b0 t → Calls Tryd.prog 30 #[pt (r j)] w1 fun e w' => ∃ a k, e = .returned (.slice a (X j).length k) ∧ Hid (Sx W w' p r X X b s ((17, .slice a (X j).length k, X j) :: E) b0 t)) := fun w1 E h1 => h1.rall hj (by omega) 17 (by omega)
  have HL3 : Hid (∀ w1 E, Sx W w1 p r X X b s E b0 t → Calls Tryd.prog 29 #[pt (p j)] w1 fun e w' => ∃ a k, e = .returned (.slice a (X j).length k) ∧ Hid (Sx W w' p r X X b s ((16, .slice a (X j).length k, X j) :: E) b0 t)) := fun w1 E h1 => h1.pall hj (by omega) 16 (by omega)
  have HSM : Hid (∀ w3 a1 n1 k1 a2 n2 k2 xs, Rd w3 (.slice a1 n1 k1) xs → Rd w3 (.slice a2 n2 k2) xs → xs.length ≤ 1073741824 → Calls Tryd.prog 31 #[.slice a1 n1 k1, .slice a2 n2 k2] w3 fun e w' => e = .returned (.bool true) ∧ Below w3.heap.size w3 w') := fun w3 a1 n1 k1 a2 n2 k2 xs h1 h2 h3 => by
    refine (same_at h1 h2 (by omega)).mono ?_
    rintro e w' ⟨rfl, q, rfl⟩
    exact ⟨rfl, Below.drewN (Below.refl _ _) _⟩
  have HK1 : Hid (∀ w3 z1 z2 z3, Sx W w3 p r X X b s [(16, z1, X j), (17, z2, X j), (15, z3, X j)] b0 t → Calls Tryd.prog 32 #[pt b, z1] w3 fun e w' => e = .returned (.tuple #[]) ∧ Hid (∃ s', Sx W w' p r X X b s' [(17, z2, X j), (15, z3, X j)] b0 t ∧ Bo s' (m + 1))) := fun w3 z1 z2 z3 h3 => by
    refine (h3.keep (fun e he => by
      rcases List.mem_cons.1 he with rfl | he
      · show (17 : Nat) ≠ 16; decide
      · rw [List.mem_singleton.1 he]; show (15 : Nat) ≠ 16; decide) (by omega) (by omega) (by omega)).mono ?_
    rintro e w' ⟨rfl, s', h4, hX, hY, hN, hL, hF⟩
    exact ⟨rfl, s', h4, HBO.out.push (by omega) hX hY hN hL hF⟩
  have HK2 : Hid (∀ w3 z2 z3 s', Sx W w3 p r X X b s' [(17, z2, X j), (15, z3, X j)] b0 t ∧ Bo s' (m + 1) → Calls Tryd.prog 32 #[pt b, z3] w3 fun e w' => e = .returned (.tuple #[]) ∧ Hid (Da W w' p r X b m j t.l)) := fun w3 z2 z3 s' h3 => by
    obtain ⟨h3, hB3⟩ := h3
    have hle := hB3.le
    have h3' : Sx W w3 p r X X b s' [(15, z3, X j)] b0 t := by
      obtain ⟨c, v, u, h5, h6⟩ := h3
      exact ⟨c, v, u, ⟨h5.fl, h5.cf, h5.rf, h5.cr, h5.bk, fun e he => h5.ex e (List.mem_cons_of_mem _ he), h5.bl⟩, h6⟩
    refine (h3'.keep (fun e he => by cases he) (by omega) (by omega) (by omega)).mono ?_
    rintro e w' ⟨rfl, s2, h4, hX, hY, hN, hL, hF⟩
    exact ⟨rfl, h4.da (upd_self X j).symm (upd_self X j).symm (hB3.push (by omega) hX hY hN hL hF) (by omega)⟩
  have HX2 : Hid (∀ w1 P R s E, Sx W w1 p r P R b s E b0 t → w1.cell? ⟨b0, 0, none⟩ = some (.int .i64 t.k)) := fun w1 P R s E h1 => h1.box.1
  have hrl : (X j).length ≤ 1073741824 := by omega
  generalize hxj : X j = ys at HL1 HL2 HL3 HK1 HK2 hrl
  generalize ys.length = xn at HL1 HL2 HL3
  obtain ⟨tk, tq, ti, tv, tl⟩ := t
  simp only at hv x0 x2 x3 HWB hl hk HL1 HL2 HL3 HSM HK1 HK2 HX2 ⊢
  subst hv
  replace hk : tk = 8 := hk
  subst hk
  go_enter Tryd.func14, Tryd.ntmps14
  go_wp2_with fail
  rw [← HWB.out, ← HB0.out]
  refine HL1.out.mono ?_
  rintro e w1 ⟨a1, k1, rfl, HS1⟩
  go_wp2_with fail
  refine (HL2.out w1 _ HS1.out).mono ?_
  rintro e w2 ⟨a2, k2, rfl, HS2⟩
  go_wp2_with fail
  refine (HL3.out w2 _ HS2.out).mono ?_
  rintro e w3 ⟨a3, k3, rfl, HS3⟩
  go_wp2_with fail
  refine (HSM.out w3 _ _ _ _ _ _ _ (HS3.out.rd (List.mem_cons_self)) (HS3.out.rd (List.mem_cons_of_mem _ List.mem_cons_self)) hrl).mono ?_
  rintro e w4 ⟨rfl, hb4⟩
  have HS4 := hid (HS3.out.later hb4)
  clear hb4
  go_wp2_with fail
  refine (HK1.out w4 _ _ _ HS4.out).mono ?_
  rintro e w5 ⟨rfl, HS5⟩
  obtain ⟨s5, HS5⟩ := HS5.out
  have HS5 := hid HS5
  go_wp2_with fail
  refine (HSM.out w5 _ _ _ _ _ _ _ (HS5.out.1.rd (List.mem_cons_of_mem _ List.mem_cons_self)) (HS5.out.1.rd List.mem_cons_self) hrl).mono ?_
  rintro e w6 ⟨rfl, hb6⟩
  have HS6 := hid (HS5.out.1.later hb6)
  have HB6 := hid HS5.out.2
  clear hb6
  go_wp2_with fail
  refine (HK2.out w6 _ _ _ ⟨HS6.out, HB6.out⟩).mono ?_
  rintro e w7 ⟨rfl, HD⟩
  go_wp2_with fail
  go_ret
  exact ⟨rfl, HD.out⟩

set_option maxRecDepth 16000 in
set_option maxHeartbeats 8000000 in
theorem does_none (hPW : PowTab W) (h : Ss W w p r X b m) (hj : j < 2) (t : Sp) (hu : Rd W t.v t.l) (hx : (X j).length ≤ 536870912) (hm : m ≤ 536870912) (hl : t.l.length ≤ 536870912) (hk : t.k ≠ 1 ∧ t.k ≠ 2 ∧ t.k ≠ 3 ∧ t.k ≠ 4 ∧ t.k ≠ 5 ∧ t.k ≠ 6 ∧ t.k ≠ 7 ∧ t.k ≠ 8) :
    Calls Tryd.prog 14 #[pt (p j), pt (r j), t.val, pt b] w fun e w' => e = .returned (.bool true) ∧ Hid (Da W w' p r X b m j t.l) := by
  obtain ⟨c, v, u, s, hst, hbo⟩ := h
  obtain ⟨wb, hwb⟩ : ∃ wb, wb = w.alloc (.cells #[.int .i64 t.k, .int .i64 t.o, .int .i64 t.i, t.v] 45) := ⟨_, rfl⟩
  have HS := hid (Sx.start hst t hwb)
  have HBO := hid hbo
  have HU := hid hu
  have HPW := hid hPW
  have HWB := hid hwb
  obtain ⟨b0, hb0⟩ : ∃ b0, b0 = w.heap.size := ⟨_, rfl⟩
  have HB0 := hid hb0
  rw [← hb0] at HS
  have hbx := HS.out.box
  obtain ⟨x0, x2, x3⟩ := hbx
  obtain ⟨al, kl, hv, _⟩ := hu
  have hF1 := hbo.le
  clear hst hbo hwb hb0 hPW
  have HDA : Hid (Da W wb p r X b m j t.l) := HS.out.da (upd_self X j).symm (upd_self X j).symm (HBO.out.mono (by omega)) (by omega)
  obtain ⟨tk, tq, ti, tv, tl⟩ := t
  simp only at hv x0 x2 x3 HWB hl hk HDA ⊢
  subst hv
  obtain ⟨n1, n2, n3, n4, n5, n6, n7, n8⟩ := hk
  have q1 : (tk == 1) = false := beq_eq_false_iff_ne.2 n1
  have q2 : (tk == 2) = false := beq_eq_false_iff_ne.2 n2
  have q3 : (tk == 3) = false := beq_eq_false_iff_ne.2 n3
  have q4 : (tk == 4) = false := beq_eq_false_iff_ne.2 n4
  have q5 : (tk == 5) = false := beq_eq_false_iff_ne.2 n5
  have q6 : (tk == 6) = false := beq_eq_false_iff_ne.2 n6
  have q7 : (tk == 7) = false := beq_eq_false_iff_ne.2 n7
  have q8 : (tk == 8) = false := beq_eq_false_iff_ne.2 n8
  go_enter Tryd.func14, Tryd.ntmps14
  go_wp2_with fail
  go_ret
  refine ⟨rfl, ?_⟩
  rw [← HWB.out]
  exact HDA.out
theorem does_is (hPW : PowTab W) (h : Ss W w p r X b m) (hj : j < 2) (t : Sp) (hu : Rd W t.v t.l) (hx : (X j).length ≤ 536870912) (hm : m ≤ 536870912) (hl : t.l.length ≤ 536870912) :
    Calls Tryd.prog 14 #[pt (p j), pt (r j), t.val, pt b] w fun e w' => e = .returned (.bool true) ∧ Hid (Da W w' p r X b m j t.l) := by
  by_cases k1 : t.k = 1
  · exact does_send hPW h hj t hu hx hm hl k1
  by_cases k2 : t.k = 2
  · exact does_len hPW h hj t hu hx hm hl k2
  by_cases k7 : t.k = 7
  · exact does_drain hPW h hj t hu hx hm hl k7
  by_cases k8 : t.k = 8
  · exact does_all hPW h hj t hu hx hm hl k8
  by_cases k3 : t.k = 3
  · by_cases hA : t.i < 0
    · exact does_look_A hPW h hj t hu hx hm hl hA k3
    by_cases hB : t.i < ((X j).length : Int)
    · exact does_look_B hPW h hj t hu hx hm hl ⟨by omega, hB⟩ k3
    · exact does_look_C hPW h hj t hu hx hm hl (by omega) k3
  by_cases k4 : t.k = 4
  · by_cases hA : t.i < 0
    · exact does_take_A hPW h hj t hu hx hm hl hA k4
    by_cases hB : t.i < ((X j).length : Int)
    · exact does_take_B hPW h hj t hu hx hm hl ⟨by omega, hB⟩ k4
    · exact does_take_C hPW h hj t hu hx hm hl (by omega) k4
  by_cases k5 : t.k = 5
  · by_cases hA : t.i < 0
    · exact does_drop_A hPW h hj t hu hx hm hl hA k5
    by_cases hB : t.i < ((X j).length : Int)
    · exact does_drop_B hPW h hj t hu hx hm hl ⟨by omega, hB⟩ k5
    · exact does_drop_C hPW h hj t hu hx hm hl (by omega) k5
  by_cases k6 : t.k = 6
  · by_cases hA : t.i < 0
    · exact does_copy_A hPW h hj t hu hx hm hl hA k6
    by_cases hB : t.i < ((X j).length : Int)
    · exact does_copy_B hPW h hj t hu hx hm hl ⟨by omega, hB⟩ k6
    · exact does_copy_C hPW h hj t hu hx hm hl (by omega) k6
  exact does_none hPW h hj t hu hx hm hl ⟨k1, k2, k3, k4, k5, k6, k7, k8⟩
end
end Go.Proofs.YtpnbgdbkiokooaaDoor.Fl
