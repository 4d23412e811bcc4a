import Derived.Test.YtneojeidpfjpbaaGreatDoorB22
set_option linter.unusedVariables false
set_option maxHeartbeats 2000000
namespace Go.Proofs.YtneojeidpfjpbaaGreatDoor.Ys
open Go.RowKit Go.Sort
abbrev atH (h : Lk.Hd) : Vs.Sp := ⟨h.w, h.l, h.n⟩
def hldG (s : Ps) (h : Lk.Hd) : Bool := (Lg.outM s.E h.id).isSome || !decide (h.w < s.ceil)
def hldB (s : Ps) (h : Lk.Hd) : Bool := !hldG s h && Lk.holdC s.H h == 0
def hldS (s : Ps) (h : Lk.Hd) : Ps := if hldG s h then s else { s with H := Lk.holdM s.H h }
theorem hold_is {F : Nat → Prop} {w : World} {p : Nat} {m1 m2 m : Option Nat} {V : List Lk.Hv} {I : Lk.It} {s : Ps} (T : St F w p m1 m2 m V I s) {v : Lk.Hv} (hv : v.ok w) :
  Calls Tryz.prog 55 #[cp p, .agg #[.int .u32 v.h.id.1, .int .u32 v.h.id.2, .int .u32 v.h.home, .int .u64 v.h.w, .int .u32 v.h.l, .int .u32 v.h.n, .slice v.ra v.h.rs.length v.rc, .slice v.wa v.h.ws.length v.wc]] w fun e w' => e = .returned (.bool (hldB s v.h)) ∧ ∃ m1' m2' V' I', St F w' p m1' m2' m V' I' (hldS s v.h) ∧ (∀ b, Lk.Its p m1' m2' b → Lk.Its p m1 m2 b ∨ w.heap.size ≤ b) ∧ Onl (Lk.Its p m1 m2) w w' := by
 obtain ⟨wx, hwx⟩ : ∃ wx, wx = w.alloc (.cells #[.int .u32 v.h.id.1, .int .u32 v.h.id.2, .int .u32 v.h.home, .int .u64 v.h.w, .int .u32 v.h.l, .int .u32 v.h.n, .slice v.ra v.h.rs.length v.rc, .slice v.wa v.h.ws.length v.wc] 52) := ⟨_, rfl⟩; have hbx : Below w.heap.size w wx := by rw [hwx]; exact Below.al (Below.refl _ _) _
 have z0 : wx.cell? ⟨w.heap.size, 0, none⟩ = some (.int .u32 v.h.id.1) := by rw [hwx]; simp [go_sem]
 have z1 : wx.cell? ⟨w.heap.size, 1, none⟩ = some (.int .u32 v.h.id.2) := by rw [hwx]; simp [go_sem]
 have z2 : wx.cell? ⟨w.heap.size, 2, none⟩ = some (.int .u32 v.h.home) := by rw [hwx]; simp [go_sem]
 have z3 : wx.cell? ⟨w.heap.size, 3, none⟩ = some (.int .u64 v.h.w) := by rw [hwx]; simp [go_sem]
 have z4 : wx.cell? ⟨w.heap.size, 4, none⟩ = some (.int .u32 v.h.l) := by rw [hwx]; simp [go_sem]
 have z5 : wx.cell? ⟨w.heap.size, 5, none⟩ = some (.int .u32 v.h.n) := by rw [hwx]; simp [go_sem]
 have z6 : wx.cell? ⟨w.heap.size, 6, none⟩ = some (.slice v.ra v.h.rs.length v.rc) := by rw [hwx]; simp [go_sem]
 have z7 : wx.cell? ⟨w.heap.size, 7, none⟩ = some (.slice v.wa v.h.ws.length v.wc) := by rw [hwx]; simp [go_sem]
 have HT := hid (T.later hbx); have HBX := hid hbx; have HV := hid hv; have HNI : Hid (¬ Lk.Its p m1 m2 w.heap.size) := hid fun h => by have := T.bm (Bm.t h); omega
 have DC : Hid (∀ W, Below wx.heap.size wx W → Calls Tryz.prog 56 #[.pointer (some ⟨p, 1, none⟩), .agg #[.int .u32 v.h.id.1, .int .u32 v.h.id.2]] W fun e w' => e = .returned (.bool (Lg.outM s.E v.h.id).isSome) ∧ Below W.heap.size W w') := hid fun W hb => decided_is (HT.out.later hb) v.h.id
 obtain ⟨R, hR⟩ : ∃ R, decide (v.h.w < s.ceil) = R := ⟨_, rfl⟩; have RS : Hid (∀ W, Below wx.heap.size wx W → Calls Tryz.prog 93 #[.pointer (some ⟨p, 1, none⟩), .agg #[.int .u64 v.h.w, .int .u32 v.h.l, .int .u32 v.h.n]] W fun e w' => e = .returned (.bool R) ∧ Below W.heap.size W w') := hid fun W hb => reserved_is (HT.out.later hb) (atH v.h) hR
 obtain ⟨D, hD⟩ : ∃ D, (Lg.outM s.E v.h.id).isSome = D := ⟨_, rfl⟩; rw [hD] at DC; obtain ⟨G, hG⟩ : ∃ G, hldG s v.h = G := ⟨_, rfl⟩; have hG' := hG; rw [hldG, hD, hR] at hG'; have HB : Hid (hldB s v.h = (!G && Lk.holdC s.H v.h == 0)) := hid (by rw [hldB, hG]); have HS : Hid (hldS s v.h = if G then s else { s with H := Lk.holdM s.H v.h }) := hid (by rw [hldS, hG]); clear T hbx hv hG hD hR; go_enter Tryz.func55, Tryz.ntmps55
 go_wp2_with fail
 rw [← hwx]; clear hwx; refine (DC.out _ (Below.refl _ _)).mono ?_; rintro e w2 ⟨rfl, hb2⟩; replace z0 := cell_later hb2 z0; replace z1 := cell_later hb2 z1; replace z2 := cell_later hb2 z2; replace z3 := cell_later hb2 z3; replace z4 := cell_later hb2 z4; replace z5 := cell_later hb2 z5; replace z6 := cell_later hb2 z6; replace z7 := cell_later hb2 z7; have HB2 := hid hb2; clear DC hb2; cases D
 ·go_wp2_with fail
  refine (RS.out _ HB2.out).mono ?_; rintro e w3 ⟨rfl, hb3⟩; replace z0 := cell_later hb3 z0; replace z1 := cell_later hb3 z1; replace z2 := cell_later hb3 z2; replace z3 := cell_later hb3 z3; replace z4 := cell_later hb3 z4; replace z5 := cell_later hb3 z5; replace z6 := cell_later hb3 z6; replace z7 := cell_later hb3 z7; have HB3 : Hid (Below wx.heap.size wx w3) := hid (Below.on HB2.out hb3); clear RS hb3; cases R
  ·obtain rfl : true = G := hG'; go_wp2_with fail
   go_ret
   exact ⟨by rw [HB.out]; rfl, m1, m2, V, I, by rw [HS.out]; exact HT.out.later HB3.out, fun b hb => .inl hb, Onl.of_below (Below.on HBX.out HB3.out)⟩
  ·obtain rfl : false = G := hG'; have TK : Hid (∀ W, Below w3.heap.size w3 W → Calls Tryz.prog 94 #[.pointer (some ⟨p, 2, none⟩), .agg #[.int .u32 v.h.id.1, .int .u32 v.h.id.2, .int .u32 v.h.home, .int .u64 v.h.w, .int .u32 v.h.l, .int .u32 v.h.n, .slice v.ra v.h.rs.length v.rc, .slice v.wa v.h.ws.length v.wc]] W fun e w' => e = .returned (.int .i64 (Lk.holdC s.H v.h)) ∧ Hid (∃ m1' m2' V' I', St F w' p m1' m2' m V' I' { s with H := Lk.holdM s.H v.h } ∧ (∀ b, Lk.Its p m1' m2' b → Lk.Its p m1 m2 b ∨ w.heap.size ≤ b) ∧ Onl (Lk.Its p m1 m2) w w' ∧ Onl (Lk.Its p m1 m2) w3 w')) := hid fun W hb => by
    have hBW : Below w.heap.size w W := Below.on HBX.out (Below.on HB3.out hb); refine (take_is (HT.out.later (Below.on HB3.out hb)) (HV.out.later hBW)).mono ?_; rintro e w' ⟨he, HP⟩; obtain ⟨m1', m2', V', I', h1, h2, h3⟩ := HP.out; exact ⟨he, hid ⟨m1', m2', V', I', h1, fun b hb' => (h2 b hb').imp id fun k => Nat.le_trans hBW.size k, (Onl.of_below hBW).trans h3, (Onl.of_below hb).trans h3⟩⟩
   obtain ⟨C, hC⟩ : ∃ C, Lk.holdC s.H v.h = C := ⟨_, rfl⟩; rw [hC] at TK HB; have hni := HNI.out; clear hC; go_wp2_with fail
   go_region_held3 (fun w' => w'.cell? ⟨w.heap.size, 0, none⟩ = some (.int .u32 v.h.id.1) ∧ w'.cell? ⟨w.heap.size, 1, none⟩ = some (.int .u32 v.h.id.2) ∧ w'.cell? ⟨w.heap.size, 2, none⟩ = some (.int .u32 v.h.home) ∧ w'.cell? ⟨w.heap.size, 3, none⟩ = some (.int .u64 v.h.w) ∧ w'.cell? ⟨w.heap.size, 4, none⟩ = some (.int .u32 v.h.l) ∧ w'.cell? ⟨w.heap.size, 5, none⟩ = some (.int .u32 v.h.n) ∧ w'.cell? ⟨w.heap.size, 6, none⟩ = some (.slice v.ra v.h.rs.length v.rc) ∧ w'.cell? ⟨w.heap.size, 7, none⟩ = some (.slice v.wa v.h.ws.length v.wc) ∧ Onl (Lk.Its p m1 m2) w3 w')
    ((refine (fun (hO : Onl (Lk.Its p m1 m2) w3 _) => ⟨hO.cell hni z0, hO.cell hni z1, hO.cell hni z2, hO.cell hni z3, hO.cell hni z4, hO.cell hni z5, hO.cell hni z6, hO.cell hni z7, hO⟩) ?_; (repeat (first | with_reducible exact Onl.refl _ _ | with_reducible assumption | with_reducible refine Onl.drew ?_ | with_reducible refine Onl.al ?_ _))))
    (first | (go_at_call 94; refine (TK.out _ (by (repeat (first | with_reducible exact Below.refl _ _ | with_reducible assumption | with_reducible refine Below.drew ?_ | with_reducible refine Below.al ?_ _ | with_reducible refine Below.setCell ?_ (by first | exact Nat.le_refl _ | (simp; omega) | (simp; done)) _ | with_reducible refine Below.on ?_ (by assumption))))).mono ?_; rintro e w4 ⟨rfl, HP⟩; have hO2 : Onl (Lk.Its p m1 m2) w3 w4 := (by obtain ⟨_, _, _, _, _, _, _, h⟩ := HP.out; exact h)))
   all_goals (try go_wp2_with fail)
   all_goals go_ret
   all_goals (obtain ⟨m1', m2', V', I', h1, h2, h3, _⟩ := HP.out; exact ⟨by rw [HB.out]; simp, m1', m2', V', I', by rw [HS.out]; exact h1, h2, h3⟩)
 ·obtain rfl : true = G := hG'; go_wp2_with fail
  go_ret
  exact ⟨by rw [HB.out]; rfl, m1, m2, V, I, by rw [HS.out]; exact HT.out.later HB2.out, fun b hb => .inl hb, Onl.of_below (Below.on HBX.out HB2.out)⟩
structure OkS (t : Vs.Sp) : Prop where
 a : 0 ≤ t.a ∧ t.a ≤ 18446744073709551615
 b : 0 ≤ t.b ∧ t.b ≤ 4294967295
 c : 0 ≤ t.c ∧ t.c ≤ 4294967295
def jb (t : Vs.Sp) : Vs.Sp := if 0 < t.c then ⟨t.a, t.b, t.c - 1⟩ else if 0 < t.b then ⟨t.a, t.b - 1, 4294967295⟩ else if 0 < t.a then ⟨t.a - 1, 4294967295, 4294967295⟩ else ⟨0, 0, 0⟩
def jbB (t : Vs.Sp) : Bool := decide (0 < t.c) || decide (0 < t.b) || decide (0 < t.a)
theorem just_is (w : World) (t : Vs.Sp) (ht : OkS t) : Calls Tryz.prog 87 #[Vs.sv t] w fun e w' => e = .returned (.tuple #[Vs.sv (jb t), .bool (jbB t)]) ∧ Below w.heap.size w w' := by
 obtain ⟨a, b, c⟩ := t; obtain ⟨⟨ha, ha'⟩, ⟨hb, hb'⟩, hc, hc'⟩ := ht; simp only at ha ha' hb hb' hc hc'; by_cases h1 : 0 < c
 ·have d1 : decide (c > 0) = true := by simpa using h1
  rw [show jb ⟨a, b, c⟩ = ⟨a, b, c - 1⟩ from by simp [jb, h1], show jbB ⟨a, b, c⟩ = true from by simp [jbB, h1]]; go_enter Tryz.func87, Tryz.ntmps87
  go_wp2_with fail
  refine bodyPost_ret (v := .tuple #[Vs.sv ⟨a, b, c - 1⟩, .bool true]) (by simp [results, Tryz.results87, go_sem]) rfl ⟨rfl, ?_⟩
  (repeat (first | with_reducible exact Below.refl _ _ | with_reducible assumption | with_reducible refine Below.drew ?_ | with_reducible refine Below.al ?_ _ | with_reducible refine Below.setCell ?_ (by first | exact Nat.le_refl _ | (simp; omega) | (simp; done)) _ | with_reducible refine Below.on ?_ (by assumption)))
 ·have d1 : decide (c > 0) = false := by simpa using h1
  by_cases h2 : 0 < b
  ·have d2 : decide (b > 0) = true := by simpa using h2
   rw [show jb ⟨a, b, c⟩ = ⟨a, b - 1, 4294967295⟩ from by simp [jb, h1, h2], show jbB ⟨a, b, c⟩ = true from by simp [jbB, h1, h2]]; go_enter Tryz.func87, Tryz.ntmps87
   go_wp2_with fail
   refine bodyPost_ret (v := .tuple #[Vs.sv ⟨a, b - 1, 4294967295⟩, .bool true]) (by simp [results, Tryz.results87, go_sem]) rfl ⟨rfl, ?_⟩
   (repeat (first | with_reducible exact Below.refl _ _ | with_reducible assumption | with_reducible refine Below.drew ?_ | with_reducible refine Below.al ?_ _ | with_reducible refine Below.setCell ?_ (by first | exact Nat.le_refl _ | (simp; omega) | (simp; done)) _ | with_reducible refine Below.on ?_ (by assumption)))
  ·have d2 : decide (b > 0) = false := by simpa using h2
   by_cases h3 : 0 < a
   ·have d3 : decide (a > 0) = true := by simpa using h3
    rw [show jb ⟨a, b, c⟩ = ⟨a - 1, 4294967295, 4294967295⟩ from by simp [jb, h1, h2, h3], show jbB ⟨a, b, c⟩ = true from by simp [jbB, h1, h2, h3]]; go_enter Tryz.func87, Tryz.ntmps87
    go_wp2_with fail
    refine bodyPost_ret (v := .tuple #[Vs.sv ⟨a - 1, 4294967295, 4294967295⟩, .bool true]) (by simp [results, Tryz.results87, go_sem]) rfl ⟨rfl, ?_⟩
    (repeat (first | with_reducible exact Below.refl _ _ | with_reducible assumption | with_reducible refine Below.drew ?_ | with_reducible refine Below.al ?_ _ | with_reducible refine Below.setCell ?_ (by first | exact Nat.le_refl _ | (simp; omega) | (simp; done)) _ | with_reducible refine Below.on ?_ (by assumption)))
   ·have d3 : decide (a > 0) = false := by simpa using h3
    rw [show jb ⟨a, b, c⟩ = ⟨0, 0, 0⟩ from by simp [jb, h1, h2, h3], show jbB ⟨a, b, c⟩ = false from by simp [jbB, h1, h2, h3]]; go_enter Tryz.func87, Tryz.ntmps87
    go_wp2_with fail
    refine bodyPost_ret (v := .tuple #[Vs.sv ⟨0, 0, 0⟩, .bool false]) (by simp [results, Tryz.results87, go_sem]) rfl ⟨rfl, ?_⟩
    (repeat (first | with_reducible exact Below.refl _ _ | with_reducible assumption | with_reducible refine Below.drew ?_ | with_reducible refine Below.al ?_ _ | with_reducible refine Below.setCell ?_ (by first | exact Nat.le_refl _ | (simp; omega) | (simp; done)) _ | with_reducible refine Below.on ?_ (by assumption)))
end Go.Proofs.YtneojeidpfjpbaaGreatDoor.Ys
namespace Go.Proofs.YtneojeidpfjpbaaGreatDoor.Vs
open Go.RowKit Go.Sort Go.Shelf
attribute [local go_sem] Oper.semAt_some
def lastS (cs : Chain) : Sp := (nthV cs (cs.length - 1)).s
def abB (M : Mst) (lo hi : ByteArray) (t : Sp) : Bool := (rangeX M lo hi).any fun e => t.lt (lastS e.2)
def abL (E : List En) (t : Sp) : Bool := E.any fun e => t.lt (lastS e.2.vs)
theorem abL_snoc (l : List En) (e : En) (t : Sp) : abL (l ++ [e]) t = (abL l t || t.lt (lastS e.2.vs)) := by simp [abL]
theorem abL_prefix {l m : List En} (h : l <+: m) {t : Sp} (hl : abL l t = true) : abL m t = true := by
 obtain ⟨r, rfl⟩ := h; unfold abL at hl ⊢; rw [List.any_append, hl]; rfl
theorem abL_is (m : List En) (lo hi : ByteArray) (t : Sp) : abL (rangeX m lo hi) t = abB (abs m) lo hi t := by
 unfold abL abB; rw [← abs_range]; unfold abs; rw [List.any_map]; rfl
def AbI (wS : World) (b6 : Nat) (t : Sp) {E : List En} (pre : List (Of E)) (W : World) : Prop :=
 (Boxed W b6 4 (.bool false) ∧ abL (pre.map (fun x => x.1)) t = false) ∧ Below wS.heap.size wS W
def AbX (wS : World) (b6 : Nat) (t : Sp) {E : List En} (c : Code) (pre : List (Of E)) (W : World) : Prop :=
 ((c = .ret ∧ abL (pre.map (fun x => x.1)) t = true) ∧ Boxed W b6 4 (.bool true)) ∧ Below wS.heap.size wS W
theorem abI_own {wS : World} {b6 Q : Nat} {t : Sp} {E : List En} (hq : wS.heap.size ≤ Q) : OwnFrom Q (AbI wS b6 t (E := E)) :=
 OwnFrom.and (OwnFrom.and (Own.from (boxed_own _ _ (fun _ => _)) _) (ownFrom_pure _ _)) (ownFrom_below (Nat.le_refl _) hq)
theorem abX_own {wS : World} {b6 Q : Nat} {t : Sp} {E : List En} (c : Code) (hq : wS.heap.size ≤ Q) : OwnFrom Q (AbX wS b6 t (E := E) c) :=
 OwnFrom.and (OwnFrom.and (ownFrom_pure _ _) (Own.from (boxed_own _ _ (fun _ => _)) _)) (ownFrom_below (Nat.le_refl _) hq)
set_option maxRecDepth 100000 in
theorem above_is {F : Nat → Prop} {w : World} {p o : Nat} {ty : TypeId} {M : Mst} {mk : Sp} (h : StoG F w p o ty M mk) (lo hi : ByteArray) (t : Sp) (hn : countM M ≤ 268435456) :
  Calls Tryz.prog 91 #[.pointer (some ⟨p, o, none⟩), .agg #[.string lo, .string hi], sv t] w fun e w' => e = .returned (.bool (abB M lo hi t)) ∧ Below w.heap.size w w' := by
 obtain ⟨m, h, rfl⟩ := h; refine (callsIn_wide (n := 5)).1 ?_; obtain ⟨wS, hwS⟩ : ∃ wS, wS = (w.alloc (.cells #[.string lo, .string hi] 25)).alloc (.cells #[.int .u64 t.a, .int .u32 t.b, .int .u32 t.c] 28) := ⟨_, rfl⟩; have hbS : Below w.heap.size w wS := by rw [hwS]; exact Below.al (Below.al (Below.refl _ _) _) _
 have hsz : wS.heap.size = w.heap.size + 1 + 1 := by rw [hwS]; simp
 have kS : wS.heap[w.heap.size]? = some (.cells #[.string lo, .string hi] 25 (0, 0)) := by
  rw [hwS]; exact (Below.heap_alloc _ _ _ (by simp)).trans (World.alloc_heap_new w _)
 have kT : wS.heap[w.heap.size + 1]? = some (.cells #[.int .u64 t.a, .int .u32 t.b, .int .u32 t.c] 28 (0, 0)) := by
  rw [hwS]; have := World.alloc_heap_new (w.alloc (.cells #[.string lo, .string hi] 25)) (.cells #[.int .u64 t.a, .int .u32 t.b, .int .u32 t.c] 28)
  rw [World.size_alloc] at this; exact this
 obtain ⟨wa, hwa⟩ : ∃ wa, wa = wS.alloc (.cells #[.bool false] 4) := ⟨_, rfl⟩; have hba : Below wS.heap.size wS wa := by rw [hwa]; exact Below.al (Below.refl _ _) _
 have b6 : Boxed wa wS.heap.size 4 (.bool false) := by rw [hwa]; exact Boxed.new wS _ _
 have ha := h.later (Below.on hbS hba); have s0 : wa.cell? ⟨w.heap.size, 0, none⟩ = some (.string lo) := cell_later hba (cell_of_obj kS rfl); have s1 : wa.cell? ⟨w.heap.size, 1, none⟩ = some (.string hi) := cell_later hba (cell_of_obj kS rfl); rw [hsz] at b6; have RG : Hid (∀ W, Below wa.heap.size wa W → Calls Tryz.prog 99 #[.pointer (some ⟨p, o, none⟩), .agg #[.string lo, .string hi]] W fun e w' => ∃ R B, e = .returned (itv 133 R B) ∧ Hid (It w' R B m lo hi) ∧ Below W.heap.size W w') := fun W hb =>
   (range_is ((ha.later hb).xi) lo hi).mono fun e w' ⟨R, B, he, hit, hb', _, _⟩ => ⟨R, B, he, hit, hb'⟩
 have H := hid (show _ ∧ _ ∧ _ ∧ _ ∧ _ from ⟨h, hbS, hba, b6, kT⟩); have HSZ := hid hsz; have HN := hid hn; clear h ha hbS hba hsz kS kT b6 hn; refine callsIn_of_wp_marks Tryz.func91 rfl trivial ?_ rfl; simp only [Tryz.ntmps91, List.size_toArray, List.length_cons, List.length_nil, Nat.reduceAdd, Nat.reduceSub, Array.replicate_succ, Array.replicate_zero, List.push_toArray, List.append_toArray, List.nil_append, List.cons_append]; refine wpIn_wide.2 ?_; go_wp2_with fail
 rw [← hwS, ← hwa]; clear hwS hwa; go_region_held3 (fun w' => w'.cell? ⟨w.heap.size, 0, none⟩ = some (.string lo) ∧ w'.cell? ⟨w.heap.size, 1, none⟩ = some (.string hi) ∧ Below wa.heap.size wa w')
   ((refine (fun (hB : Below wa.heap.size wa _) => ⟨cell_later hB s0, cell_later hB s1, hB⟩) ?_; (repeat (first | exact Below.refl _ _ | assumption | refine Below.drew ?_ | refine Below.al ?_ _ | refine Below.setCell ?_ (by first | exact Nat.le_refl _ | (simp; omega) | (simp; done)) _ | refine Below.on ?_ (by assumption)))))
   (first | (go_at_call 99; refine (RG.out _ ?_).mono ?_; ((repeat (first | exact Below.refl _ _ | assumption | refine Below.drew ?_ | refine Below.al ?_ _ | refine Below.setCell ?_ (by first | exact Nat.le_refl _ | (simp; omega) | (simp; done)) _ | refine Below.on ?_ (by assumption)))); rintro e w2 ⟨R, Bs, rfl, hit, hb2⟩))
 have hb02 : Below wa.heap.size wa w2 := by (repeat (first | exact Below.refl _ _ | assumption | refine Below.drew ?_ | refine Below.al ?_ _ | refine Below.setCell ?_ (by first | exact Nat.le_refl _ | (simp; omega) | (simp; done)) _ | refine Below.on ?_ (by assumption)))
 clear RG s0 s1; obtain ⟨h, hbS, hba, b6, kT⟩ := H.out; have b6' : Boxed w2 (w.heap.size + 1 + 1) 4 (.bool false) := (hb02.block _ b6.lt).trans b6; have hBS : Below wS.heap.size wS w2 := Below.on hba hb02; have hl6 := b6'.lt; have hszS := HSZ.out; obtain ⟨E, hE⟩ : ∃ E, rangeX m lo hi = E := ⟨_, rfl⟩; have hstops := range_stops (5 - 1) hit.out; rw [hE] at hstops; have hEm : ∀ e ∈ E, e ∈ m := fun e he => by rw [← hE] at he; exact (List.mem_filter.1 he).1
 have HKT := hid kT; have HRW : Hid (∀ W, Below wS.heap.size wS W → ∀ z : Of E, Row W z.1.1 z.1.2 ∧ (∃ k, z.1.2.n = k + 1 ∧ (nthV z.1.2.vs k).s = lastS z.1.2.vs) ∧ z.1.2.n ≤ 268435456) := fun W hb z => by
   have hz : z.1 ∈ m := hEm _ z.2; have hr := h.row _ hz; have hmm : (z.1.1, z.1.2.vs) ∈ abs m := List.mem_map.2 ⟨_, hz, rfl⟩; have h0 := List.length_pos_iff.2 (h.good.chain _ hmm).1; have h2 := hr.len; refine ⟨hr.later (Below.on hbS hb), ⟨z.1.2.n - 1, by simp only at h0; omega, by unfold lastS; rw [h2]⟩, ?_⟩; have h1 := count_mem hmm; have h3 := HN.out; simp only at h1; omega
 have HAB : Hid (abB (abs m) lo hi t = abL E t) := by show _ = _; rw [← hE, abL_is]
 have HBW := hid hbS; clear hE hit h hbS hba b6 kT hb02 H hEm; go_wp2_with fail
 refine (wpIn_wide (n := 5)).1 ?_; apply wpIn_rangeFunc_ownG rfl (by decide) (gf := 133) (lb := #[.pointer (some ⟨R, 0, none⟩), .pointer (some ⟨Bs, 0, none⟩)]) rfl trivial (enters_of Tryz.func133 (by kernel_rfl) rfl)
   hstops kp_t kp_b (Below.refl _ _) (fun _ => rfl)
   (AbI wS (w.heap.size + 1 + 1) t) (AbX wS (w.heap.size + 1 + 1) t) (abI_own hBS.size) (fun c => abX_own c hBS.size)
   ⟨⟨b6', rfl⟩, hBS⟩
 case hassign =>
  intro y z W K hK; gi_wp2
  exact hK
 case hbody =>
  rintro y pre z W ⟨⟨hb6, hab⟩, hBw⟩ hlt; obtain ⟨hrw, ⟨k, hk, hls⟩, hzn⟩ := HRW.out W hBw z; have LA := hid (fun W' (hb : Below W.heap.size W W') => last_is (hrw.later hb) hk (by omega)); have hmapz : (pre ++ [z]).map (fun x => x.1) = pre.map (fun x => x.1) ++ [z.1] := by simp
  have hkt := (hBw.block (w.heap.size + 1) (by have := HSZ.out; omega)).trans HKT.out; have t0 : W.cell? ⟨w.heap.size + 1, 0, none⟩ = some (.int .u64 t.a) := cell_of_obj hkt rfl; have t1 : W.cell? ⟨w.heap.size + 1, 1, none⟩ = some (.int .u32 t.b) := cell_of_obj hkt rfl; have t2 : W.cell? ⟨w.heap.size + 1, 2, none⟩ = some (.int .u32 t.c) := cell_of_obj hkt rfl; obtain ⟨s, hs⟩ : ∃ s, s = (nthV z.1.2.vs k).s := ⟨_, rfl⟩; rw [← hs] at LA hls; obtain ⟨u, hu⟩ : ∃ u, t.lt s = u := ⟨_, rfl⟩; have HAU : Hid (abL ((pre ++ [z]).map (fun x => x.1)) t = u) := by show _ = _; rw [hmapz, abL_snoc, hab, ← hls, hu]; rfl
  have LE := hid (fun W => less_is (show lessB t.a t.b t.c s.a s.b s.c = u from hu) W); have HP := hid (show _ ∧ _ from ⟨hb6, hBw⟩); clear hrw hzn hls hmapz hkt hb6 hBw hab hs hu hk; cases u with
  | true =>
   gi_wp2_with fail
   gi_region_with (first
    | ((try refine ⟨trivial, ?_⟩); gi_at_call 127; refine (CallsIn.inRound y (callsIn_wide.2 (LA.out _ ?_))).mono ?_; ((repeat (first | exact Below.refl _ _ | assumption | refine Below.drew ?_ | refine Below.al ?_ _ | refine Below.setCell ?_ (by first | exact Nat.le_refl _ | (simp; omega) | (simp; done)) _ | refine Below.on ?_ (by assumption)))); rintro e w3 ⟨rfl, hb3⟩; have t0 := cell_later hb3 t0; have t1 := cell_later hb3 t1; have t2 := cell_later hb3 t2)
    | ((try refine ⟨trivial, ?_⟩); gi_at_call 59; refine (CallsIn.inRound y (callsIn_wide.2 (LE.out _))).mono ?_; rintro e w4 ⟨rfl, hb4⟩))
   all_goals
    have hb34 : Below W.heap.size W w4 := by (repeat (first | exact Below.refl _ _ | assumption | refine Below.drew ?_ | refine Below.al ?_ _ | refine Below.setCell ?_ (by first | exact Nat.le_refl _ | (simp; omega) | (simp; done)) _ | refine Below.on ?_ (by assumption)))
    have b64 : Boxed w4 (w.heap.size + 1 + 1) 4 (.bool false) := (hb34.block _ HP.out.1.lt).trans HP.out.1; have b64c := b64.cell; have b64f := b64.frozen; clear t0 t1 t2; gi_wp2_with fail
    refine ⟨(below_keepsFrom _ hb34).trans ((KeepsOthers.setCell _ _ _).from _), ⟨⟨rfl, HAU.out⟩, b64.set _⟩, Below.setCell (Below.on HP.out.2 hb34) (by have := HSZ.out; show _ ≤ w.heap.size + 1 + 1; omega) _⟩
  | false =>
   gi_wp2_with fail
   gi_region_with (first
    | ((try refine ⟨trivial, ?_⟩); gi_at_call 127; refine (CallsIn.inRound y (callsIn_wide.2 (LA.out _ ?_))).mono ?_; ((repeat (first | exact Below.refl _ _ | assumption | refine Below.drew ?_ | refine Below.al ?_ _ | refine Below.setCell ?_ (by first | exact Nat.le_refl _ | (simp; omega) | (simp; done)) _ | refine Below.on ?_ (by assumption)))); rintro e w3 ⟨rfl, hb3⟩; have t0 := cell_later hb3 t0; have t1 := cell_later hb3 t1; have t2 := cell_later hb3 t2)
    | ((try refine ⟨trivial, ?_⟩); gi_at_call 59; refine (CallsIn.inRound y (callsIn_wide.2 (LE.out _))).mono ?_; rintro e w4 ⟨rfl, hb4⟩))
   all_goals
    have hb34 : Below W.heap.size W w4 := by (repeat (first | exact Below.refl _ _ | assumption | refine Below.drew ?_ | refine Below.al ?_ _ | refine Below.setCell ?_ (by first | exact Nat.le_refl _ | (simp; omega) | (simp; done)) _ | refine Below.on ?_ (by assumption)))
    clear t0 t1 t2; gi_wp2_with fail
    refine ⟨below_keepsFrom _ hb34, Kp.of_below hb34, ⟨(hb34.block _ HP.out.1.lt).trans HP.out.1, HAU.out⟩, Below.on HP.out.2 hb34⟩
 case hdone =>
  rintro D ys W hD hys ⟨⟨hb6, hab⟩, hBw⟩ hK; rw [hys] at hab; have HE0 : Hid (abB (abs m) lo hi t = false) := by show _ = _; rw [HAB.out, hab]
  have d6 := hb6.cell; have f6 := hb6.frozen
  have hK' := (KeepsOthers.setCell W ⟨w.heap.size + 1 + 1, 0, none⟩ (.bool false)).same D _ hK rfl; have x6 := (boxed_put (hb6.set (.bool false)) hK' rfl (.deferred none)).cell; have HBK : Hid (Below w.heap.size w W) := Below.on HBW.out hBw; clear hb6 hBw hab; go_wp2_with fail
  refine ⟨by simp, .inl ⟨_, _, rfl, run_takeDeferred hK', ?_⟩⟩; refine ⟨.bool false, ?_, by rw [HE0.out], ?_⟩
  ·simp [results, Tryz.f91, go_sem, x6]
  ·exact (Below.setCell HBK.out (by show w.heap.size ≤ w.heap.size + 1 + 1; omega) _).trans (belowK_b (w := w) (Nat.le_refl _) _ D _ _ (by have := HBW.out.size; have := hBS.size; omega) hK' rfl rfl)
 case hstop =>
  rintro D c pre W hD hpre ⟨⟨⟨rfl, h5⟩, hb6⟩, hBw⟩ hK; have x6 := (boxed_put hb6 hK rfl (.deferred none)).cell; have HE0 : Hid (abB (abs m) lo hi t = true) := by show _ = _; rw [HAB.out]; exact abL_prefix hpre h5
  have HBK : Hid (Below w.heap.size w W) := Below.on HBW.out hBw; gi_wp2
  refine ⟨by simp, .inl ⟨_, _, rfl, run_takeDeferred hK, ?_⟩⟩; refine ⟨.bool true, ?_, by rw [HE0.out], ?_⟩
  ·simp [results, Tryz.f91, go_sem, x6]
  ·exact HBK.out.trans (belowK_b (w := w) (Nat.le_refl _) W D _ _ (by have := HBW.out.size; have := hBS.size; omega) hK rfl rfl)
end Go.Proofs.YtneojeidpfjpbaaGreatDoor.Vs
namespace Go.Proofs.YtneojeidpfjpbaaGreatDoor.Ys
open Go.RowKit Go.Sort Go.Shelf
abbrev nul : ByteArray := ⟨#[0]⟩
theorem point_is (w : World) {k : ByteArray} (hk : k.size + 1 ≤ 9223372036854775807) : Calls Tryz.prog 92 #[.string k] w fun e w' => e = .returned (.agg #[.string k, .string (k ++ nul)]) ∧ Below w.heap.size w w' := by
 have hk' : ¬ 9223372036854775807 < k.size + 1 := by omega
 go_enter Tryz.func92, Tryz.ntmps92
 go_wp2_with fail
 refine bodyPost_ret (v := .agg #[.string k, .string (k ++ nul)]) (by simp [results, Tryz.results92, go_sem]) rfl ⟨rfl, ?_⟩
 (repeat (first | with_reducible exact Below.refl _ _ | with_reducible assumption | with_reducible refine Below.drew ?_ | with_reducible refine Below.al ?_ _ | with_reducible refine Below.setCell ?_ (by first | exact Nat.le_refl _ | (simp; omega) | (simp; done)) _ | with_reducible refine Below.on ?_ (by assumption)))
def ovB (s : Ps) (t : Vs.Sp) (x : Wr) : Bool := Vs.abB s.M x.key (x.key ++ nul) t
theorem pred_over {F : Nat → Prop} {w : World} {p : Nat} {m1 m2 m : Option Nat} {V : List Lk.Hv} {I : Lk.It} {s : Ps} (T : St F w p m1 m2 m V I s) (hn : Vs.countM s.M ≤ 268435456) (t : Vs.Sp) {B C : Nat} (hB : w.cell? ⟨B, 0, none⟩ = some (.pointer (some ⟨p, 1, none⟩)))
  (hC0 : w.cell? ⟨C, 0, none⟩ = some (.int .u64 t.a)) (hC1 : w.cell? ⟨C, 1, none⟩ = some (.int .u32 t.b)) (hC2 : w.cell? ⟨C, 2, none⟩ = some (.int .u32 t.c)) (W : World) (x : Wr) (hb : Below w.heap.size w W) (hk : x.key.size + 1 ≤ 9223372036854775807) :
  Calls Tryz.prog 90 #[.agg #[.string x.key, .bool x.del, .string x.val], .pointer (some ⟨B, 0, none⟩), .pointer (some ⟨C, 0, none⟩)] W fun e w' => e = .returned (.bool (ovB s t x)) ∧ Below w.heap.size w w' := by
 obtain ⟨wx, hwx⟩ : ∃ wx, wx = W.alloc (.cells #[.string x.key, .bool x.del, .string x.val] 103) := ⟨_, rfl⟩; have hbx : Below w.heap.size w wx := by rw [hwx]; exact Below.al hb _
 have x0 : wx.cell? ⟨W.heap.size, 0, none⟩ = some (.string x.key) := by rw [hwx]; simp [go_sem]
 have b0 := cell_later hbx hB; have c0 := cell_later hbx hC0; have c1 := cell_later hbx hC1; have c2 := cell_later hbx hC2
 have k0 := cell_regrown x0; have k1 := cell_regrown b0; have k2 := cell_regrown c0; have k3 := cell_regrown c1; have k4 := cell_regrown c2
 have PT : Hid (∀ W', Calls Tryz.prog 92 #[.string x.key] W' fun e w' => e = .returned (.agg #[.string x.key, .string (x.key ++ nul)]) ∧ Below W'.heap.size W' w') := hid fun W' => point_is W' hk
 have AB : Hid (∀ W', Below wx.heap.size wx W' → Calls Tryz.prog 91 #[.pointer (some ⟨p, 5, none⟩), .agg #[.string x.key, .string (x.key ++ nul)], .agg #[.int .u64 t.a, .int .u32 t.b, .int .u32 t.c]] W' fun e w' => e = .returned (.bool (ovB s t x)) ∧ Below W'.heap.size W' w') := hid fun W' hb' => Vs.above_is (T.later (Below.on hbx hb')).st x.key (x.key ++ nul) t hn
 obtain ⟨u, hu⟩ : ∃ u, ovB s t x = u := ⟨_, rfl⟩; rw [hu] at AB ⊢; have HBX := hid hbx; clear T hn hB hC0 hC1 hC2 hbx hb hk hu; go_enter Tryz.func90, Tryz.ntmps90
 go_wp2_with fail
 rw [← hwx]; clear hwx; refine wp_region_quiet_below (by kernel_rfl) (by kernel_rfl) ?_; repeat (go_big_quiet_step (first | (go_at_call 92; exact Calls.regrown_of (PT.out _)) | (go_at_call 91; exact Calls.regrown_of (AB.out _ (below_regrown _ _ _)))))
 refine wpQuiet_nil ?_; intro wq hq; replace hq := below_of_regrown hq; go_wp2_with fail
 go_ret
 exact ⟨rfl, Below.on HBX.out hq⟩
abbrev KeyOk (x : Wr) : Prop := x.key.size + 1 ≤ 9223372036854775807
theorem cont_over {F : Nat → Prop} {w : World} {p : Nat} {m1 m2 m : Option Nat} {V : List Lk.Hv} {I : Lk.It} {s : Ps} (T : St F w p m1 m2 m V I s) (hn : Vs.countM s.M ≤ 268435456) (t : Vs.Sp) {B C : Nat} (hB : w.cell? ⟨B, 0, none⟩ = some (.pointer (some ⟨p, 1, none⟩)))
  (hC0 : w.cell? ⟨C, 0, none⟩ = some (.int .u64 t.a)) (hC1 : w.cell? ⟨C, 1, none⟩ = some (.int .u32 t.b)) (hC2 : w.cell? ⟨C, 2, none⟩ = some (.int .u32 t.c)) {a : Option Addr} {c : Nat} {ws : List Wr} (hw : RowW w a ws) (hl : ws.length ≤ 9223372036854775807) (hk : ∀ x ∈ ws, KeyOk x) :
  Calls Tryz.prog 89 #[.slice a ws.length c, .func (.func 90) #[] #[.pointer (some ⟨B, 0, none⟩), .pointer (some ⟨C, 0, none⟩)]] w fun e w' => e = .returned (.bool (ws.any (ovB s t))) ∧ Below w.heap.size w w' := by
 by_cases h0 : ws.length = 0
 ·rw [h0, List.eq_nil_of_length_eq_zero h0]; exact Lk.contW_nil a c _ _
 ·letI : Inhabited Wr := ⟨⟨⟨#[]⟩, false, ⟨#[]⟩⟩⟩
  letI : Inhabited { x : Wr // KeyOk x } := ⟨⟨⟨⟨#[]⟩, false, ⟨#[]⟩⟩, by decide⟩⟩
  have eg : ∀ args w, (callFunc 90 args).run Tryz.prog w = .ok (.enter 90 args) w := enters_of Tryz.func90 (by kernel_rfl) rfl; obtain ⟨b, off, rfl, hlt, hc⟩ := Lk.rowW_cells hw (by omega); obtain ⟨ys, hys⟩ : ∃ ys : List { x : Wr // KeyOk x }, ys.map Subtype.val = ws := ⟨ws.attachWith KeyOk hk, by simp⟩; have hyl : ys.length = ws.length := by rw [← hys, List.length_map]
  have hcon := AnyQ.slices_ContainsFunc Tryz.contW 3 Tryz.isAgg103 Tryz.sizeOf103 (fun x : { x : Wr // KeyOk x } => Lk.encW x.1) (fun _ => rfl) (fun x => ovB s t x.1) 90 #[.pointer (some ⟨B, 0, none⟩), .pointer (some ⟨C, 0, none⟩)] eg b off ws.length c ys w
   (fun W x hb => pred_over T hn t hB hC0 hC1 hC2 W x.1 hb x.2) (by omega) hl hlt (fun j hj i v hi => hc j (by omega) i v (by
    rw [← hi]; have hjy : j < ys.length := by omega
    rw [getElem!_pos ys j hjy, getElem!_pos ws j (by omega)]; simp only [← hys, List.getElem_map]))
  change Calls Tryz.prog 89 _ _ _ at hcon
  rw [List.take_of_length_le (by omega), show ys.any (fun x => ovB s t x.1) = ws.any (ovB s t) from by rw [← hys, List.any_map]; rfl] at hcon; exact hcon
theorem overtaken_is {F : Nat → Prop} {w : World} {p : Nat} {m1 m2 m : Option Nat} {V : List Lk.Hv} {I : Lk.It} {s : Ps} (T : St F w p m1 m2 m V I s) (hn : Vs.countM s.M ≤ 268435456) {v : Lk.Hv} (hv : v.ok w) (hat : OkS (atH v.h)) (hj : jbB (atH v.h) = true) (hk : ∀ x ∈ v.h.ws, KeyOk x) :
  Calls Tryz.prog 54 #[cp p, .agg #[.int .u32 v.h.id.1, .int .u32 v.h.id.2, .int .u32 v.h.home, .int .u64 v.h.w, .int .u32 v.h.l, .int .u32 v.h.n, .slice v.ra v.h.rs.length v.rc, .slice v.wa v.h.ws.length v.wc]] w fun e w' => e = .returned (.bool (v.h.ws.any (ovB s (jb (atH v.h))))) ∧ Below w.heap.size w w' := by
 obtain ⟨wx, hwx⟩ : ∃ wx, wx = (w.alloc (.cells #[.pointer (some ⟨p, 1, none⟩)] 150)).alloc (.cells #[.int .u32 v.h.id.1, .int .u32 v.h.id.2, .int .u32 v.h.home, .int .u64 v.h.w, .int .u32 v.h.l, .int .u32 v.h.n, .slice v.ra v.h.rs.length v.rc, .slice v.wa v.h.ws.length v.wc] 52) := ⟨_, rfl⟩; have hbx : Below w.heap.size w wx := by rw [hwx]; exact Below.al (Below.al (Below.refl _ _) _) _
 have b0 : wx.cell? ⟨w.heap.size, 0, none⟩ = some (.pointer (some ⟨p, 1, none⟩)) := by rw [hwx]; simp [go_sem]
 have z3 : wx.cell? ⟨w.heap.size + 1, 3, none⟩ = some (.int .u64 v.h.w) := by rw [hwx]; simp [go_sem]
 have z4 : wx.cell? ⟨w.heap.size + 1, 4, none⟩ = some (.int .u32 v.h.l) := by rw [hwx]; simp [go_sem]
 have z5 : wx.cell? ⟨w.heap.size + 1, 5, none⟩ = some (.int .u32 v.h.n) := by rw [hwx]; simp [go_sem]
 have z7 : wx.cell? ⟨w.heap.size + 1, 7, none⟩ = some (.slice v.wa v.h.ws.length v.wc) := by rw [hwx]; simp [go_sem]
 obtain ⟨ja, jl, jn, hjb⟩ : ∃ a b c, jb (atH v.h) = ⟨a, b, c⟩ := ⟨_, _, _, rfl⟩; have JU : Hid (∀ W, Calls Tryz.prog 87 #[.agg #[.int .u64 v.h.w, .int .u32 v.h.l, .int .u32 v.h.n]] W fun e w' => e = .returned (.tuple #[.agg #[.int .u64 ja, .int .u32 jl, .int .u32 jn], .bool true]) ∧ Below W.heap.size W w') := hid fun W => by
  have := just_is W (atH v.h) hat; rw [hj, hjb] at this; exact this
 obtain ⟨u, hu⟩ : ∃ u, v.h.ws.any (ovB s (jb (atH v.h))) = u := ⟨_, rfl⟩; have CT : Hid (∀ W C, Below wx.heap.size wx W → W.cell? ⟨C, 0, none⟩ = some (.int .u64 ja) → W.cell? ⟨C, 1, none⟩ = some (.int .u32 jl) → W.cell? ⟨C, 2, none⟩ = some (.int .u32 jn) → Calls Tryz.prog 89 #[.slice v.wa v.h.ws.length v.wc, .func (.func 90) #[] #[.pointer (some ⟨w.heap.size, 0, none⟩), .pointer (some ⟨C, 0, none⟩)]] W fun e w' => e = .returned (.bool u) ∧ Below W.heap.size W w') := hid fun W C hb h0 h1 h2 => by
  rw [← hu, hjb]; exact cont_over (T.later (Below.on hbx hb)) hn ⟨ja, jl, jn⟩ (cell_later hb b0) h0 h1 h2 ((hv.later (Below.on hbx hb)).w) (by have := hv.wl; omega) hk
 rw [hu]; have HBX := hid hbx; clear T hn hv hat hj hk hbx hjb hu; go_enter Tryz.func54, Tryz.ntmps54
 go_wp2_with fail
 rw [← hwx]; clear hwx; refine (JU.out _).mono ?_; rintro e w2 ⟨rfl, hb2⟩; replace z7 := cell_later hb2 z7; have HB2 := hid hb2; have z7a : (w2.alloc (.cells #[.int .u64 ja, .int .u32 jl, .int .u32 jn] 28)).cell? ⟨w.heap.size + 1, 7, none⟩ = some (.slice v.wa v.h.ws.length v.wc) := cell_later (Below.al (Below.refl _ _) _) z7; clear z3 z4 z5 JU hb2; go_wp2_with fail
 obtain ⟨w4, hw4⟩ : ∃ w4, w4 = w2.alloc (.cells #[.int .u64 ja, .int .u32 jl, .int .u32 jn] 28) := ⟨_, rfl⟩; obtain ⟨y0, y1, y2⟩ := newS w2 ⟨ja, jl, jn⟩ 28; have hb4 : Below wx.heap.size wx w4 := by rw [hw4]; exact Below.al HB2.out _
 simp only at y0 y1 y2; rw [← hw4] at y0 y1 y2 ⊢; clear hw4; refine (CT.out w4 w2.heap.size hb4 y0 y1 y2).mono ?_; rintro e w3 ⟨rfl, hb3⟩; have HB3 : Hid (Below w.heap.size w w3) := hid (Below.on HBX.out (Below.on hb4 hb3)); clear hb3 CT; go_wp2_with fail
 go_ret
 exact ⟨rfl, HB3.out⟩
end Go.Proofs.YtneojeidpfjpbaaGreatDoor.Ys
