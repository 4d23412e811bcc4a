import Derived.Test.YtfdbffadajepfaaGreatB33
import Derived.Laws.EntriesVeiled
/- Apply, at a reservation. -/
namespace Go.Proofs.YtfdbffadajepfaaGreat.Ys
open Go.RowKit Go.Sort
set_option linter.unusedVariables false

/-- what a record leaves -/
def Aft2 (F : Nat → Prop) (w : World) (p : Nat) (m1 m2 m : Option Nat) (s' : Ps) (w' : World) : Prop := ∃ F' m1' m2' m' V' I', St F' w' p m1' m2' m' V' I' s' ∧ (∀ b, F' b ∨ Bm p m1' m2' m' b → (F b ∨ Bm p m1 m2 m b) ∨ w.heap.size ≤ b) ∧ Onl (fun b => F b ∨ Bm p m1 m2 m b) w w'
theorem St.all {F : Nat → Prop} {w : World} {p : Nat} {m1 m2 m : Option Nat} {V : List Lk.Hv} {I : Lk.It} {s : Ps} (T : St F w p m1 m2 m V I s) {b : Nat} (h : F b ∨ Bm p m1 m2 m b) : b < w.heap.size := h.elim (fun k => by obtain ⟨y, hy, _⟩ := T.st; exact hy.lt k) fun k => T.bm k
set_option maxHeartbeats 400000 in
theorem apply_bad {F : Nat → Prop} {w : World} {p : Nat} {m1 m2 m : Option Nat} {V : List Lk.Hv} {I : Lk.It} {s : Ps} (T : St F w p m1 m2 m V I s) (r : Rg) (hr : r.ok w) (he : r.err ≠ 0) :
    Calls Tryz.prog 10 #[sp p, r.val] w fun e w' => e = .returned (.int .i64 70) ∧ Below w.heap.size w w' := by
  obtain ⟨wx, hwx⟩ : ∃ wx, wx = w.alloc (.cells r.cells 48) := ⟨_, rfl⟩
  have hbx : Below w.heap.size w wx := by rw [hwx]; exact Below.al (Below.refl _ _) _
  have VA := hid (walvalid_is wx r (hr.later hbx))
  have he' : (r.err != 0) = true := by simpa using he
  have HBX := hid hbx
  generalize r.err = er at *
  clear T hr he hbx
  go_enter Tryz.func10, Tryz.ntmps10
  go_wp2_with fail
  rw [← hwx]
  clear hwx
  refine VA.out.mono ?_
  rintro e w2 ⟨rfl, hb2⟩
  have HB2 := hid (Below.on HBX.out hb2)
  clear hb2 VA
  go_wp2_with fail
  go_ret
  exact ⟨rfl, HB2.out⟩

set_option maxHeartbeats 1000000 in
theorem apply_1 {F : Nat → Prop} {w : World} {p : Nat} {m1 m2 m : Option Nat} {V : List Lk.Hv} {I : Lk.It} {s : Ps} (T : St F w p m1 m2 m V I s) (r : Rg) (hr : r.ok w) (he : r.err = 0) (hk : r.k = 1) :
    Calls Tryz.prog 10 #[sp p, r.val] w fun e w' => e = .returned (.int .i64 (resE s r)) ∧ Aft2 F w p m1 m2 m (resS s r) w' := by
  obtain ⟨wx, hwx⟩ : ∃ wx, wx = w.alloc (.cells r.cells 48) := ⟨_, rfl⟩
  have hbx : Below w.heap.size w wx := by rw [hwx]; exact Below.al (Below.refl _ _) _
  have BX : BoxG wx w.heap.size r := by rw [hwx]; exact boxG w r _
  have VA := hid (walvalid_is wx r (hr.later hbx))
  rw [he] at VA
  have HX := hid BX
  have HT := hid (T.later hbx)
  have HBX := hid hbx
  have HK := hid hk
  have HNI : Hid (¬ (fun b => F b ∨ Bm p m1 m2 m b) w.heap.size) := hid fun h => by have := T.all h; omega
  have RU : Hid (∀ W, Below wx.heap.size wx W → Calls Tryz.prog 26 #[.pointer (some ⟨p, 0, none⟩), .agg #[.int .i64 1, .int .u64 r.x, .int .u32 r.c, .int .u32 r.s, .int .u32 r.h, .int .i64 r.oc, .int .u64 r.w, .int .u32 r.l, .int .u32 r.n, .slice r.ra r.rs.length r.rc, .slice r.wa r.ws.length r.wc, .string r.im]] W fun e w' => e = .returned (.int .i64 (resE s r)) ∧ Hid ((Aft2 F w p m1 m2 m (resS s r) w') ∧ Onl (fun b => F b ∨ Bm p m1 m2 m b) W w')) := hid fun W hb => by
    have hBW := Below.on hbx hb
    have := reserve_is (HT.out.later hb) r
    rw [show r.val = .agg #[.int .i64 1, .int .u64 r.x, .int .u32 r.c, .int .u32 r.s, .int .u32 r.h, .int .i64 r.oc, .int .u64 r.w, .int .u32 r.l, .int .u32 r.n, .slice r.ra r.rs.length r.rc, .slice r.wa r.ws.length r.wc, .string r.im] from by simp [hk]] at this
    refine this.mono ?_
    rintro e w' ⟨he, h1, h2⟩
    have h9 := h2.mono (G := fun b => F b ∨ Bm p m1 m2 m b) fun b h => .inr (.inl h)
    exact ⟨he, hid ⟨⟨F, m1, m2, m, V, I, h1, fun b h => .inl h, (Onl.of_below hBW).trans h9⟩, h9⟩⟩
  clear T hr he hbx BX hk
  go_enter Tryz.func10, Tryz.ntmps10
  go_wp2_with fail
  rw [← hwx]
  clear hwx
  refine VA.out.mono ?_
  rintro e w2 ⟨rfl, hb2⟩
  obtain ⟨w3, hw3⟩ : ∃ w3, w3 = w2.alloc (.cells #[.nilFunc, .func (.func 26) #[] #[], .func (.func 27) #[] #[], .func (.func 28) #[] #[], .func (.func 29) #[] #[], .func (.func 30) #[] #[]] 85) := ⟨_, rfl⟩
  have hb3 : Below wx.heap.size wx w3 := by rw [hw3]; exact Below.al hb2 _
  have t1 : w3.cell? ⟨w2.heap.size, 1, none⟩ = some (.func (.func 26) #[] #[]) := by rw [hw3]; exact Vs.cell_of_obj (World.alloc_heap_new w2 _) rfl
  have hnt : ¬ (fun b => F b ∨ Bm p m1 m2 m b) w2.heap.size := fun h => by have := HT.out.all h; have := hb2.size; omega
  have hni := HNI.out
  have BG := HX.out.later hb3
  have d0 : w3.cell? ⟨w.heap.size, 0, none⟩ = some (.int .i64 1) := by rw [BG.c0, HK.out]
  have d1 := BG.c1
  have d2 := BG.c2
  have d3 := BG.c3
  have d4 := BG.c4
  have d5 := BG.c5
  have d6 := BG.c6
  have d7 := BG.c7
  have d8 := BG.c8
  have d9 := BG.c9
  have d10 := BG.c10
  have d11 := BG.c11
  have HB3 := hid hb3
  clear hb2 VA BG
  go_wp2_with fail
  rw [← hw3]
  clear hw3
  go_region_held3 (fun w' => w'.cell? ⟨w.heap.size, 0, none⟩ = some (.int .i64 1) ∧ w'.cell? ⟨w.heap.size, 1, none⟩ = some (.int .u64 r.x) ∧ w'.cell? ⟨w.heap.size, 2, none⟩ = some (.int .u32 r.c) ∧ w'.cell? ⟨w.heap.size, 3, none⟩ = some (.int .u32 r.s) ∧ w'.cell? ⟨w.heap.size, 4, none⟩ = some (.int .u32 r.h) ∧ w'.cell? ⟨w.heap.size, 5, none⟩ = some (.int .i64 r.oc) ∧ w'.cell? ⟨w.heap.size, 6, none⟩ = some (.int .u64 r.w) ∧ w'.cell? ⟨w.heap.size, 7, none⟩ = some (.int .u32 r.l) ∧ w'.cell? ⟨w.heap.size, 8, none⟩ = some (.int .u32 r.n) ∧ w'.cell? ⟨w.heap.size, 9, none⟩ = some (.slice r.ra r.rs.length r.rc) ∧ w'.cell? ⟨w.heap.size, 10, none⟩ = some (.slice r.wa r.ws.length r.wc) ∧ w'.cell? ⟨w.heap.size, 11, none⟩ = some (.string r.im) ∧ w'.cell? ⟨w2.heap.size, 1, none⟩ = some (.func (.func 26) #[] #[]) ∧ Onl (fun b => F b ∨ Bm p m1 m2 m b) w3 w')
    ((refine (fun (hO : Onl (fun b => F b ∨ Bm p m1 m2 m b) w3 _) => ⟨hO.cell hni d0, hO.cell hni d1, hO.cell hni d2, hO.cell hni d3, hO.cell hni d4, hO.cell hni d5, hO.cell hni d6, hO.cell hni d7, hO.cell hni d8, hO.cell hni d9, hO.cell hni d10, hO.cell hni d11, hO.cell hnt t1, hO⟩) ?_; (repeat (first | with_reducible exact Onl.refl _ _ | with_reducible assumption | with_reducible refine Onl.drew ?_ | with_reducible refine Onl.al ?_ _))))
    (first | (go_at_call 26; refine (RU.out _ (by refine Below.on HB3.out ?_; (repeat (first | with_reducible exact Below.refl _ _ | with_reducible assumption | with_reducible refine Below.drew ?_ | with_reducible refine Below.al ?_ _ | with_reducible refine Below.setCell ?_ (by first | exact Nat.le_refl _ | (simp; omega) | (simp; done)) _ | with_reducible refine Below.on ?_ (by assumption))))).mono ?_; rintro e w4 ⟨rfl, HP⟩; have hO2 : Onl (fun b => F b ∨ Bm p m1 m2 m b) w3 w4 := (by refine Onl.trans ?_ HP.out.2; (repeat (first | with_reducible exact Onl.refl _ _ | with_reducible assumption | with_reducible refine Onl.drew ?_ | with_reducible refine Onl.al ?_ _)))))
  all_goals (try go_wp2_with fail)
  all_goals go_ret
  all_goals exact ⟨rfl, HP.out.1⟩
set_option maxHeartbeats 1000000 in
theorem apply_4 {F : Nat → Prop} {w : World} {p : Nat} {m1 m2 m : Option Nat} {V : List Lk.Hv} {I : Lk.It} {s : Ps} (T : St F w p m1 m2 m V I s) (r : Rg) (hr : r.ok w) (he : r.err = 0) (hk : r.k = 4) (hn : Vs.countM s.M ≤ 268435456) :
    Calls Tryz.prog 10 #[sp p, r.val] w fun e w' => e = .returned (.int .i64 (mrkE s r)) ∧ Aft2 F w p m1 m2 m (mrkS s r) w' := by
  obtain ⟨wx, hwx⟩ : ∃ wx, wx = w.alloc (.cells r.cells 48) := ⟨_, rfl⟩
  have hbx : Below w.heap.size w wx := by rw [hwx]; exact Below.al (Below.refl _ _) _
  have BX : BoxG wx w.heap.size r := by rw [hwx]; exact boxG w r _
  have VA := hid (walvalid_is wx r (hr.later hbx))
  rw [he] at VA
  have HX := hid BX
  have HT := hid (T.later hbx)
  have HBX := hid hbx
  have HK := hid hk
  have HNI : Hid (¬ (fun b => F b ∨ Bm p m1 m2 m b) w.heap.size) := hid fun h => by have := T.all h; omega
  have RU : Hid (∀ W, Below wx.heap.size wx W → Calls Tryz.prog 29 #[.pointer (some ⟨p, 0, none⟩), .agg #[.int .i64 4, .int .u64 r.x, .int .u32 r.c, .int .u32 r.s, .int .u32 r.h, .int .i64 r.oc, .int .u64 r.w, .int .u32 r.l, .int .u32 r.n, .slice r.ra r.rs.length r.rc, .slice r.wa r.ws.length r.wc, .string r.im]] W fun e w' => e = .returned (.int .i64 (mrkE s r)) ∧ Hid ((Aft2 F w p m1 m2 m (mrkS s r) w') ∧ Onl (fun b => F b ∨ Bm p m1 m2 m b) W w')) := hid fun W hb => by
    have hBW := Below.on hbx hb
    have := mark_is (HT.out.later hb) r hn
    rw [show r.val = .agg #[.int .i64 4, .int .u64 r.x, .int .u32 r.c, .int .u32 r.s, .int .u32 r.h, .int .i64 r.oc, .int .u64 r.w, .int .u32 r.l, .int .u32 r.n, .slice r.ra r.rs.length r.rc, .slice r.wa r.ws.length r.wc, .string r.im] from by simp [hk]] at this
    refine this.mono ?_
    rintro e w' ⟨he, F', h1, h2, h3⟩
    have h9 := h3.mono (G := fun b => F b ∨ Bm p m1 m2 m b) fun b h => .inl h
    exact ⟨he, hid ⟨⟨F', m1, m2, m, V, I, h1, fun b h => h.elim (fun k => (h2 b k).elim (fun k => .inl (.inl k)) fun k => .inr (Nat.le_trans hBW.size k)) fun k => .inl (.inr k), (Onl.of_below hBW).trans h9⟩, h9⟩⟩
  clear T hr he hbx BX hk
  go_enter Tryz.func10, Tryz.ntmps10
  go_wp2_with fail
  rw [← hwx]
  clear hwx
  refine VA.out.mono ?_
  rintro e w2 ⟨rfl, hb2⟩
  obtain ⟨w3, hw3⟩ : ∃ w3, w3 = w2.alloc (.cells #[.nilFunc, .func (.func 26) #[] #[], .func (.func 27) #[] #[], .func (.func 28) #[] #[], .func (.func 29) #[] #[], .func (.func 30) #[] #[]] 85) := ⟨_, rfl⟩
  have hb3 : Below wx.heap.size wx w3 := by rw [hw3]; exact Below.al hb2 _
  have t1 : w3.cell? ⟨w2.heap.size, 4, none⟩ = some (.func (.func 29) #[] #[]) := by rw [hw3]; exact Vs.cell_of_obj (World.alloc_heap_new w2 _) rfl
  have hnt : ¬ (fun b => F b ∨ Bm p m1 m2 m b) w2.heap.size := fun h => by have := HT.out.all h; have := hb2.size; omega
  have hni := HNI.out
  have BG := HX.out.later hb3
  have d0 : w3.cell? ⟨w.heap.size, 0, none⟩ = some (.int .i64 4) := by rw [BG.c0, HK.out]
  have d1 := BG.c1
  have d2 := BG.c2
  have d3 := BG.c3
  have d4 := BG.c4
  have d5 := BG.c5
  have d6 := BG.c6
  have d7 := BG.c7
  have d8 := BG.c8
  have d9 := BG.c9
  have d10 := BG.c10
  have d11 := BG.c11
  have HB3 := hid hb3
  clear hb2 VA BG
  go_wp2_with fail
  rw [← hw3]
  clear hw3
  go_region_held3 (fun w' => w'.cell? ⟨w.heap.size, 0, none⟩ = some (.int .i64 4) ∧ w'.cell? ⟨w.heap.size, 1, none⟩ = some (.int .u64 r.x) ∧ w'.cell? ⟨w.heap.size, 2, none⟩ = some (.int .u32 r.c) ∧ w'.cell? ⟨w.heap.size, 3, none⟩ = some (.int .u32 r.s) ∧ w'.cell? ⟨w.heap.size, 4, none⟩ = some (.int .u32 r.h) ∧ w'.cell? ⟨w.heap.size, 5, none⟩ = some (.int .i64 r.oc) ∧ w'.cell? ⟨w.heap.size, 6, none⟩ = some (.int .u64 r.w) ∧ w'.cell? ⟨w.heap.size, 7, none⟩ = some (.int .u32 r.l) ∧ w'.cell? ⟨w.heap.size, 8, none⟩ = some (.int .u32 r.n) ∧ w'.cell? ⟨w.heap.size, 9, none⟩ = some (.slice r.ra r.rs.length r.rc) ∧ w'.cell? ⟨w.heap.size, 10, none⟩ = some (.slice r.wa r.ws.length r.wc) ∧ w'.cell? ⟨w.heap.size, 11, none⟩ = some (.string r.im) ∧ w'.cell? ⟨w2.heap.size, 4, none⟩ = some (.func (.func 29) #[] #[]) ∧ Onl (fun b => F b ∨ Bm p m1 m2 m b) w3 w')
    ((refine (fun (hO : Onl (fun b => F b ∨ Bm p m1 m2 m b) w3 _) => ⟨hO.cell hni d0, hO.cell hni d1, hO.cell hni d2, hO.cell hni d3, hO.cell hni d4, hO.cell hni d5, hO.cell hni d6, hO.cell hni d7, hO.cell hni d8, hO.cell hni d9, hO.cell hni d10, hO.cell hni d11, hO.cell hnt t1, hO⟩) ?_; (repeat (first | with_reducible exact Onl.refl _ _ | with_reducible assumption | with_reducible refine Onl.drew ?_ | with_reducible refine Onl.al ?_ _))))
    (first | (go_at_call 29; refine (RU.out _ (by refine Below.on HB3.out ?_; (repeat (first | with_reducible exact Below.refl _ _ | with_reducible assumption | with_reducible refine Below.drew ?_ | with_reducible refine Below.al ?_ _ | with_reducible refine Below.setCell ?_ (by first | exact Nat.le_refl _ | (simp; omega) | (simp; done)) _ | with_reducible refine Below.on ?_ (by assumption))))).mono ?_; rintro e w4 ⟨rfl, HP⟩; have hO2 : Onl (fun b => F b ∨ Bm p m1 m2 m b) w3 w4 := (by refine Onl.trans ?_ HP.out.2; (repeat (first | with_reducible exact Onl.refl _ _ | with_reducible assumption | with_reducible refine Onl.drew ?_ | with_reducible refine Onl.al ?_ _)))))
  all_goals (try go_wp2_with fail)
  all_goals go_ret
  all_goals exact ⟨rfl, HP.out.1⟩
set_option maxHeartbeats 1000000 in
theorem apply_2 {F : Nat → Prop} {w : World} {p : Nat} {m1 m2 m : Option Nat} {V : List Lk.Hv} {I : Lk.It} {s : Ps} (T : St F w p m1 m2 m V I s) (r : Rg) (hr : r.ok w) (he : r.err = 0) (hk : r.k = 2) (hn : Vs.countM s.M ≤ 268435456) (hv : (hvR r).ok w) (hat : OkS (at' r)) (hj : acB s (at' r) = true → jbB (at' r) = true) (hkk : ∀ x ∈ r.ws, KeyOk x) :
    Calls Tryz.prog 10 #[sp p, r.val] w fun e w' => e = .returned (.int .i64 (prpE s r)) ∧ Aft2 F w p m1 m2 m (prpS s r) w' := by
  obtain ⟨wx, hwx⟩ : ∃ wx, wx = w.alloc (.cells r.cells 48) := ⟨_, rfl⟩
  have hbx : Below w.heap.size w wx := by rw [hwx]; exact Below.al (Below.refl _ _) _
  have BX : BoxG wx w.heap.size r := by rw [hwx]; exact boxG w r _
  have VA := hid (walvalid_is wx r (hr.later hbx))
  rw [he] at VA
  have HX := hid BX
  have HT := hid (T.later hbx)
  have HBX := hid hbx
  have HK := hid hk
  have HNI : Hid (¬ (fun b => F b ∨ Bm p m1 m2 m b) w.heap.size) := hid fun h => by have := T.all h; omega
  have RU : Hid (∀ W, Below wx.heap.size wx W → Calls Tryz.prog 27 #[.pointer (some ⟨p, 0, none⟩), .agg #[.int .i64 2, .int .u64 r.x, .int .u32 r.c, .int .u32 r.s, .int .u32 r.h, .int .i64 r.oc, .int .u64 r.w, .int .u32 r.l, .int .u32 r.n, .slice r.ra r.rs.length r.rc, .slice r.wa r.ws.length r.wc, .string r.im]] W fun e w' => e = .returned (.int .i64 (prpE s r)) ∧ Hid ((Aft2 F w p m1 m2 m (prpS s r) w') ∧ Onl (fun b => F b ∨ Bm p m1 m2 m b) W w')) := hid fun W hb => by
    have hBW := Below.on hbx hb
    have := prepare_is (HT.out.later hb) hn r (hv.later hBW) hat hj hkk
    rw [show r.val = .agg #[.int .i64 2, .int .u64 r.x, .int .u32 r.c, .int .u32 r.s, .int .u32 r.h, .int .i64 r.oc, .int .u64 r.w, .int .u32 r.l, .int .u32 r.n, .slice r.ra r.rs.length r.rc, .slice r.wa r.ws.length r.wc, .string r.im] from by simp [hk]] at this
    refine this.mono ?_
    rintro e w' ⟨he, m1', m2', V', I', h1, h2, h3⟩
    have h9 := h3.mono (G := fun b => F b ∨ Bm p m1 m2 m b) fun b h => .inr (Bm.t h)
    exact ⟨he, hid ⟨⟨F, m1', m2', m, V', I', h1, fun b h => h.elim (fun k => .inl (.inl k)) fun k => (show Lk.Its p m1' m2' b ∨ m = some b from k.elim (fun x => .inl (.inl x)) fun x => x.elim (fun y => .inl (.inr (.inl y))) fun y => y.elim (fun z => .inl (.inr (.inr z))) fun z => .inr z).elim (fun x => (h2 b x).elim (fun y => .inl (.inr (Bm.t y))) fun y => .inr (Nat.le_trans hBW.size y)) fun x => .inl (.inr (.inr (.inr (.inr x)))), (Onl.of_below hBW).trans h9⟩, h9⟩⟩
  clear T hr he hbx BX hk
  go_enter Tryz.func10, Tryz.ntmps10
  go_wp2_with fail
  rw [← hwx]
  clear hwx
  refine VA.out.mono ?_
  rintro e w2 ⟨rfl, hb2⟩
  obtain ⟨w3, hw3⟩ : ∃ w3, w3 = w2.alloc (.cells #[.nilFunc, .func (.func 26) #[] #[], .func (.func 27) #[] #[], .func (.func 28) #[] #[], .func (.func 29) #[] #[], .func (.func 30) #[] #[]] 85) := ⟨_, rfl⟩
  have hb3 : Below wx.heap.size wx w3 := by rw [hw3]; exact Below.al hb2 _
  have t1 : w3.cell? ⟨w2.heap.size, 2, none⟩ = some (.func (.func 27) #[] #[]) := by rw [hw3]; exact Vs.cell_of_obj (World.alloc_heap_new w2 _) rfl
  have hnt : ¬ (fun b => F b ∨ Bm p m1 m2 m b) w2.heap.size := fun h => by have := HT.out.all h; have := hb2.size; omega
  have hni := HNI.out
  have BG := HX.out.later hb3
  have d0 : w3.cell? ⟨w.heap.size, 0, none⟩ = some (.int .i64 2) := by rw [BG.c0, HK.out]
  have d1 := BG.c1
  have d2 := BG.c2
  have d3 := BG.c3
  have d4 := BG.c4
  have d5 := BG.c5
  have d6 := BG.c6
  have d7 := BG.c7
  have d8 := BG.c8
  have d9 := BG.c9
  have d10 := BG.c10
  have d11 := BG.c11
  have HB3 := hid hb3
  clear hb2 VA BG
  go_wp2_with fail
  rw [← hw3]
  clear hw3
  go_region_held3 (fun w' => w'.cell? ⟨w.heap.size, 0, none⟩ = some (.int .i64 2) ∧ w'.cell? ⟨w.heap.size, 1, none⟩ = some (.int .u64 r.x) ∧ w'.cell? ⟨w.heap.size, 2, none⟩ = some (.int .u32 r.c) ∧ w'.cell? ⟨w.heap.size, 3, none⟩ = some (.int .u32 r.s) ∧ w'.cell? ⟨w.heap.size, 4, none⟩ = some (.int .u32 r.h) ∧ w'.cell? ⟨w.heap.size, 5, none⟩ = some (.int .i64 r.oc) ∧ w'.cell? ⟨w.heap.size, 6, none⟩ = some (.int .u64 r.w) ∧ w'.cell? ⟨w.heap.size, 7, none⟩ = some (.int .u32 r.l) ∧ w'.cell? ⟨w.heap.size, 8, none⟩ = some (.int .u32 r.n) ∧ w'.cell? ⟨w.heap.size, 9, none⟩ = some (.slice r.ra r.rs.length r.rc) ∧ w'.cell? ⟨w.heap.size, 10, none⟩ = some (.slice r.wa r.ws.length r.wc) ∧ w'.cell? ⟨w.heap.size, 11, none⟩ = some (.string r.im) ∧ w'.cell? ⟨w2.heap.size, 2, none⟩ = some (.func (.func 27) #[] #[]) ∧ Onl (fun b => F b ∨ Bm p m1 m2 m b) w3 w')
    ((refine (fun (hO : Onl (fun b => F b ∨ Bm p m1 m2 m b) w3 _) => ⟨hO.cell hni d0, hO.cell hni d1, hO.cell hni d2, hO.cell hni d3, hO.cell hni d4, hO.cell hni d5, hO.cell hni d6, hO.cell hni d7, hO.cell hni d8, hO.cell hni d9, hO.cell hni d10, hO.cell hni d11, hO.cell hnt t1, hO⟩) ?_; (repeat (first | with_reducible exact Onl.refl _ _ | with_reducible assumption | with_reducible refine Onl.drew ?_ | with_reducible refine Onl.al ?_ _))))
    (first | (go_at_call 27; refine (RU.out _ (by refine Below.on HB3.out ?_; (repeat (first | with_reducible exact Below.refl _ _ | with_reducible assumption | with_reducible refine Below.drew ?_ | with_reducible refine Below.al ?_ _ | with_reducible refine Below.setCell ?_ (by first | exact Nat.le_refl _ | (simp; omega) | (simp; done)) _ | with_reducible refine Below.on ?_ (by assumption))))).mono ?_; rintro e w4 ⟨rfl, HP⟩; have hO2 : Onl (fun b => F b ∨ Bm p m1 m2 m b) w3 w4 := (by refine Onl.trans ?_ HP.out.2; (repeat (first | with_reducible exact Onl.refl _ _ | with_reducible assumption | with_reducible refine Onl.drew ?_ | with_reducible refine Onl.al ?_ _)))))
  all_goals (try go_wp2_with fail)
  all_goals go_ret
  all_goals exact ⟨rfl, HP.out.1⟩
set_option maxHeartbeats 1000000 in
theorem apply_3 {F : Nat → Prop} {w : World} {p : Nat} {m1 m2 m : Option Nat} {V : List Lk.Hv} {I : Lk.It} {s : Ps} (T : St F w p m1 m2 m V I s) (r : Rg) (hr : r.ok w) (he : r.err = 0) (hk : r.k = 3) (hn : (Vs.countM s.M + 17) * 64 ≤ 140737488355328) :
    Calls Tryz.prog 10 #[sp p, r.val] w fun e w' => e = .returned (.int .i64 (dcdE s r)) ∧ Aft2 F w p m1 m2 m (dcdS s r) w' := by
  obtain ⟨wx, hwx⟩ : ∃ wx, wx = w.alloc (.cells r.cells 48) := ⟨_, rfl⟩
  have hbx : Below w.heap.size w wx := by rw [hwx]; exact Below.al (Below.refl _ _) _
  have BX : BoxG wx w.heap.size r := by rw [hwx]; exact boxG w r _
  have VA := hid (walvalid_is wx r (hr.later hbx))
  rw [he] at VA
  have HX := hid BX
  have HT := hid (T.later hbx)
  have HBX := hid hbx
  have HK := hid hk
  have HNI : Hid (¬ (fun b => F b ∨ Bm p m1 m2 m b) w.heap.size) := hid fun h => by have := T.all h; omega
  have RU : Hid (∀ W, Below wx.heap.size wx W → Calls Tryz.prog 28 #[.pointer (some ⟨p, 0, none⟩), .agg #[.int .i64 3, .int .u64 r.x, .int .u32 r.c, .int .u32 r.s, .int .u32 r.h, .int .i64 r.oc, .int .u64 r.w, .int .u32 r.l, .int .u32 r.n, .slice r.ra r.rs.length r.rc, .slice r.wa r.ws.length r.wc, .string r.im]] W fun e w' => e = .returned (.int .i64 (dcdE s r)) ∧ Hid ((Aft2 F w p m1 m2 m (dcdS s r) w') ∧ Onl (fun b => F b ∨ Bm p m1 m2 m b) W w')) := hid fun W hb => by
    have hBW := Below.on hbx hb
    have := decide_is (HT.out.later hb) r hn
    rw [show r.val = .agg #[.int .i64 3, .int .u64 r.x, .int .u32 r.c, .int .u32 r.s, .int .u32 r.h, .int .i64 r.oc, .int .u64 r.w, .int .u32 r.l, .int .u32 r.n, .slice r.ra r.rs.length r.rc, .slice r.wa r.ws.length r.wc, .string r.im] from by simp [hk]] at this
    refine this.mono ?_
    rintro e w' ⟨he, F', m', V', I', h1, h2, h3, h4⟩
    have h9 := h4
    exact ⟨he, hid ⟨⟨F', m1, m2, m', V', I', h1, fun b h => h.elim (fun k => (h2 b k).elim (fun k => .inl (.inl k)) fun k => .inr (Nat.le_trans hBW.size k)) fun k => k.elim (fun x => .inl (.inr (.inl x))) fun x => x.elim (fun y => .inl (.inr (.inr (.inl y)))) fun y => y.elim (fun z => .inl (.inr (.inr (.inr (.inl z))))) fun z => h3.elim (fun e => .inl (.inr (.inr (.inr (.inr (e ▸ z)))))) fun ⟨c, e, kc⟩ => .inr (by rw [e] at z; injection z with z; subst z; exact Nat.le_trans hBW.size kc), (Onl.of_below hBW).trans h9⟩, h9⟩⟩
  clear T hr he hbx BX hk
  go_enter Tryz.func10, Tryz.ntmps10
  go_wp2_with fail
  rw [← hwx]
  clear hwx
  refine VA.out.mono ?_
  rintro e w2 ⟨rfl, hb2⟩
  obtain ⟨w3, hw3⟩ : ∃ w3, w3 = w2.alloc (.cells #[.nilFunc, .func (.func 26) #[] #[], .func (.func 27) #[] #[], .func (.func 28) #[] #[], .func (.func 29) #[] #[], .func (.func 30) #[] #[]] 85) := ⟨_, rfl⟩
  have hb3 : Below wx.heap.size wx w3 := by rw [hw3]; exact Below.al hb2 _
  have t1 : w3.cell? ⟨w2.heap.size, 3, none⟩ = some (.func (.func 28) #[] #[]) := by rw [hw3]; exact Vs.cell_of_obj (World.alloc_heap_new w2 _) rfl
  have hnt : ¬ (fun b => F b ∨ Bm p m1 m2 m b) w2.heap.size := fun h => by have := HT.out.all h; have := hb2.size; omega
  have hni := HNI.out
  have BG := HX.out.later hb3
  have d0 : w3.cell? ⟨w.heap.size, 0, none⟩ = some (.int .i64 3) := by rw [BG.c0, HK.out]
  have d1 := BG.c1
  have d2 := BG.c2
  have d3 := BG.c3
  have d4 := BG.c4
  have d5 := BG.c5
  have d6 := BG.c6
  have d7 := BG.c7
  have d8 := BG.c8
  have d9 := BG.c9
  have d10 := BG.c10
  have d11 := BG.c11
  have HB3 := hid hb3
  clear hb2 VA BG
  go_wp2_with fail
  rw [← hw3]
  clear hw3
  go_region_held3 (fun w' => w'.cell? ⟨w.heap.size, 0, none⟩ = some (.int .i64 3) ∧ w'.cell? ⟨w.heap.size, 1, none⟩ = some (.int .u64 r.x) ∧ w'.cell? ⟨w.heap.size, 2, none⟩ = some (.int .u32 r.c) ∧ w'.cell? ⟨w.heap.size, 3, none⟩ = some (.int .u32 r.s) ∧ w'.cell? ⟨w.heap.size, 4, none⟩ = some (.int .u32 r.h) ∧ w'.cell? ⟨w.heap.size, 5, none⟩ = some (.int .i64 r.oc) ∧ w'.cell? ⟨w.heap.size, 6, none⟩ = some (.int .u64 r.w) ∧ w'.cell? ⟨w.heap.size, 7, none⟩ = some (.int .u32 r.l) ∧ w'.cell? ⟨w.heap.size, 8, none⟩ = some (.int .u32 r.n) ∧ w'.cell? ⟨w.heap.size, 9, none⟩ = some (.slice r.ra r.rs.length r.rc) ∧ w'.cell? ⟨w.heap.size, 10, none⟩ = some (.slice r.wa r.ws.length r.wc) ∧ w'.cell? ⟨w.heap.size, 11, none⟩ = some (.string r.im) ∧ w'.cell? ⟨w2.heap.size, 3, none⟩ = some (.func (.func 28) #[] #[]) ∧ Onl (fun b => F b ∨ Bm p m1 m2 m b) w3 w')
    ((refine (fun (hO : Onl (fun b => F b ∨ Bm p m1 m2 m b) w3 _) => ⟨hO.cell hni d0, hO.cell hni d1, hO.cell hni d2, hO.cell hni d3, hO.cell hni d4, hO.cell hni d5, hO.cell hni d6, hO.cell hni d7, hO.cell hni d8, hO.cell hni d9, hO.cell hni d10, hO.cell hni d11, hO.cell hnt t1, hO⟩) ?_; (repeat (first | with_reducible exact Onl.refl _ _ | with_reducible assumption | with_reducible refine Onl.drew ?_ | with_reducible refine Onl.al ?_ _))))
    (first | (go_at_call 28; refine (RU.out _ (by refine Below.on HB3.out ?_; (repeat (first | with_reducible exact Below.refl _ _ | with_reducible assumption | with_reducible refine Below.drew ?_ | with_reducible refine Below.al ?_ _ | with_reducible refine Below.setCell ?_ (by first | exact Nat.le_refl _ | (simp; omega) | (simp; done)) _ | with_reducible refine Below.on ?_ (by assumption))))).mono ?_; rintro e w4 ⟨rfl, HP⟩; have hO2 : Onl (fun b => F b ∨ Bm p m1 m2 m b) w3 w4 := (by refine Onl.trans ?_ HP.out.2; (repeat (first | with_reducible exact Onl.refl _ _ | with_reducible assumption | with_reducible refine Onl.drew ?_ | with_reducible refine Onl.al ?_ _)))))
  all_goals (try go_wp2_with fail)
  all_goals go_ret
  all_goals exact ⟨rfl, HP.out.1⟩
end Go.Proofs.YtfdbffadajepfaaGreat.Ys
