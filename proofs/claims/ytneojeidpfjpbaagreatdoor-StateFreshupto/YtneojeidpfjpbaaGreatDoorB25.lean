import Derived.Test.YtneojeidpfjpbaaGreatDoorB24
import Derived.Laws.EntriesVeiled
set_option linter.unusedVariables false
set_option maxHeartbeats 1000000
namespace Go.Proofs.YtneojeidpfjpbaaGreatDoor.Ys
open Go.RowKit Go.Sort
structure Cm where
 t : Vs.Sp
 ws : List Wr
theorem sp_eq {a b : Vs.Sp} (h : a.lt b = false) (k : b.lt a = false) : a = b := by
 obtain ⟨a1, a2, a3⟩ := a; obtain ⟨b1, b2, b3⟩ := b; unfold Vs.Sp.lt at h k; rw [lessB_iff_false] at h k; simp only at h k; have e1 : a1 = b1 := by omega
 have e2 : a2 = b2 := by omega
 have e3 : a3 = b3 := by omega
 subst e1 e2 e3; rfl
def putP (m : Vs.Prs) (x : Wr) : Vs.Prs := if x.del then Vs.delX m x.key else Vs.setX m x.key x.val
def layP (m : Vs.Prs) (ws : List Wr) : Vs.Prs := ws.foldl putP m
def layC (m : Vs.Prs) (C : List Cm) : Vs.Prs := C.foldl (fun m c => layP m c.ws) m
def ser (C : List Cm) (t : Vs.Sp) : Vs.Prs := layC [] (C.filter fun c => !t.lt c.t)
theorem putP_rising {m : Vs.Prs} (h : Vs.Rising m) (x : Wr) : Vs.Rising (putP m x) := by
 unfold putP; split
 ·exact Vs.delX_rising h _
 ·exact Vs.setX_rising h _ _
theorem layP_rising : ∀ (ws : List Wr) {m : Vs.Prs}, Vs.Rising m → Vs.Rising (layP m ws)
 | [], _, h => h
 | x :: ws, m, h => layP_rising ws (putP_rising h x)
theorem layC_rising : ∀ (C : List Cm) {m : Vs.Prs}, Vs.Rising m → Vs.Rising (layC m C)
 | [], _, h => h
 | c :: C, m, h => layC_rising C (layP_rising c.ws h)
theorem putP_mem {m : Vs.Prs} (h : Vs.Rising m) (x : Wr) (e : ByteArray × ByteArray) : e ∈ putP m x ↔ (x.del = false ∧ e = (x.key, x.val)) ∨ (e ∈ m ∧ e.1 ≠ x.key) := by
 unfold putP; cases hd : x.del with
 | true => rw [if_pos rfl, Vs.delX_mem]; simp
 | false => rw [if_neg (by decide), Vs.setX_mem h]; simp
theorem put_comm {m : Vs.Prs} (h : Vs.Rising m) {x y : Wr} (hk : x.key ≠ y.key) : putP (putP m x) y = putP (putP m y) x := by
 refine Vs.rising_ext (putP_rising (putP_rising h x) y) (putP_rising (putP_rising h y) x) fun e => ?_
 rw [putP_mem (putP_rising h x), putP_mem h, putP_mem (putP_rising h y), putP_mem h]; constructor
 ·rintro (⟨h1, rfl⟩ | ⟨⟨h1, rfl⟩ | ⟨h1, h2⟩, h3⟩)
  ·exact .inr ⟨.inl ⟨h1, rfl⟩, fun e => hk e.symm⟩
  ·exact .inl ⟨h1, rfl⟩
  ·exact .inr ⟨.inr ⟨h1, h3⟩, h2⟩
 ·rintro (⟨h1, rfl⟩ | ⟨⟨h1, rfl⟩ | ⟨h1, h2⟩, h3⟩)
  ·exact .inr ⟨.inl ⟨h1, rfl⟩, hk⟩
  ·exact .inl ⟨h1, rfl⟩
  ·exact .inr ⟨.inr ⟨h1, h3⟩, h2⟩
theorem lay_put {x : Wr} : ∀ (ws : List Wr) {m : Vs.Prs}, Vs.Rising m → (∀ y ∈ ws, x.key ≠ y.key) → layP (putP m x) ws = putP (layP m ws) x
 | [], _, _, _ => rfl
 | y :: ws, m, h, hk => by
  show layP (putP (putP m x) y) ws = putP (layP (putP m y) ws) x
  rw [put_comm h (hk y (by simp))]; exact lay_put ws (putP_rising h y) fun z hz => hk z (by simp [hz])
theorem lay_comm {ws : List Wr} : ∀ (vs : List Wr) {m : Vs.Prs}, Vs.Rising m → (∀ x ∈ vs, ∀ y ∈ ws, x.key ≠ y.key) → layP (layP m ws) vs = layP (layP m vs) ws
 | [], _, _, _ => rfl
 | v :: vs, m, h, hk => by
  show layP (putP (layP m ws) v) vs = layP (layP (putP m v) vs) ws
  rw [← lay_put ws h (hk v (by simp))]; exact lay_comm vs (putP_rising h v) fun x hx => hk x (by simp [hx])
theorem layC_comm {ws : List Wr} : ∀ (D : List Cm) {m : Vs.Prs}, Vs.Rising m → (∀ d ∈ D, ∀ x ∈ d.ws, ∀ y ∈ ws, x.key ≠ y.key) → layC (layP m ws) D = layP (layC m D) ws
 | [], _, _, _ => rfl
 | d :: D, m, h, hk => by
  show layC (layP (layP m ws) d.ws) D = layP (layC (layP m d.ws) D) ws
  rw [lay_comm d.ws h (hk d (by simp))]; exact layC_comm D (layP_rising d.ws h) fun e he => hk e (by simp [he])
theorem layC_app (m : Vs.Prs) (C D : List Cm) : layC m (C ++ D) = layC (layC m C) D := List.foldl_append ..
def Ord (C : List Cm) : Prop := C.Pairwise fun a b => b.t.lt a.t = false
def laidC (C : List Cm) (c : Cm) : List Cm := C.filter (fun b => !c.t.lt b.t) ++ c :: C.filter (fun b => c.t.lt b.t)
theorem ord_split {a : Vs.Sp} : ∀ {C : List Cm}, Ord C → C.filter (fun b => !a.lt b.t) ++ C.filter (fun b => a.lt b.t) = C
 | [], _ => rfl
 | c :: C, h => by
  have h' := List.pairwise_cons.1 h; cases hc : a.lt c.t with
  | false => simp only [List.filter_cons, hc, Bool.not_false, if_true, Bool.false_eq_true, if_false, List.cons_append]; rw [ord_split h'.2]
  | true =>
   have hall : ∀ b ∈ C, a.lt b.t = true := fun b hb => Vs.Sp.lt_le hc (h'.1 b hb)
   have e1 : (c :: C).filter (fun b => !a.lt b.t) = [] := List.filter_eq_nil_iff.2 fun b hb => by
    rcases List.mem_cons.1 hb with rfl | hb
    ·simp [hc]
    ·simp [hall b hb]
   have e2 : (c :: C).filter (fun b => a.lt b.t) = c :: C := List.filter_eq_self.2 fun b hb => by
    rcases List.mem_cons.1 hb with rfl | hb
    ·exact hc
    ·exact hall b hb
   rw [e1, e2]; rfl
theorem laid_mem {C : List Cm} {c b : Cm} : b ∈ laidC C c ↔ b = c ∨ b ∈ C := by
 unfold laidC; rw [List.mem_append, List.mem_cons, List.mem_filter, List.mem_filter]; cases hb : c.t.lt b.t with
 | true => simp
 | false => simp; exact Or.comm
theorem laid_len {C : List Cm} (h : Ord C) (c : Cm) : (laidC C c).length = C.length + 1 := by
 have := congrArg List.length (ord_split (a := c.t) h); rw [List.length_append] at this; unfold laidC; rw [List.length_append, List.length_cons]; omega
theorem laid_ord {C : List Cm} (h : Ord C) (c : Cm) : Ord (laidC C c) := by
 unfold laidC Ord; refine List.pairwise_append.2 ⟨h.filter _, List.pairwise_cons.2 ⟨fun d hd => Vs.Sp.lt_asymm (List.mem_filter.1 hd).2, h.filter _⟩, fun a ha b hb => ?_⟩; have ha' : c.t.lt a.t = false := by simpa using (List.mem_filter.1 ha).2
 rcases List.mem_cons.1 hb with rfl | hb
 ·exact ha'
 ·have hb' := (List.mem_filter.1 hb).2; cases hx : b.t.lt a.t with
  | false => rfl
  | true => have := Vs.Sp.trans hb' hx; rw [ha'] at this; cases this
theorem ser_low {C : List Cm} {c : Cm} {t : Vs.Sp} (h : t.lt c.t = true) : ser (laidC C c) t = ser C t := by
 unfold ser laidC; rw [List.filter_append, List.filter_cons, if_neg (by simp [h]), List.filter_filter, List.filter_filter]; have e1 : C.filter (fun b => (!t.lt b.t) && !c.t.lt b.t) = C.filter (fun b => !t.lt b.t) := List.filter_congr fun b _ => by
  cases hb : t.lt b.t with
  | true => rfl
  | false =>
   have : c.t.lt b.t = false := by
    cases hx : c.t.lt b.t with
    | false => rfl
    | true => have := Vs.Sp.trans h hx; rw [hb] at this; cases this
   rw [this]; rfl
 have e2 : C.filter (fun b => (!t.lt b.t) && c.t.lt b.t) = [] := List.filter_eq_nil_iff.2 fun b _ => by
  cases hx : c.t.lt b.t with
  | false => simp
  | true => simp [Vs.Sp.trans h hx]
 rw [e1, e2, List.append_nil]
theorem ser_high {C : List Cm} (ho : Ord C) {c : Cm} {t : Vs.Sp} (h : t.lt c.t = false) (hd : ∀ d ∈ C, c.t.lt d.t = true → ∀ x ∈ d.ws, ∀ y ∈ c.ws, x.key ≠ y.key) : ser (laidC C c) t = layP (ser C t) c.ws := by
 have e : C.filter (fun b => !t.lt b.t) = (C.filter (fun b => !c.t.lt b.t)).filter (fun b => !t.lt b.t) ++ (C.filter (fun b => c.t.lt b.t)).filter (fun b => !t.lt b.t) := by
  rw [← List.filter_append, ord_split ho]
 unfold ser; rw [e]; unfold laidC; rw [List.filter_append, List.filter_cons, if_pos (by simp [h]), layC_app, layC_app]; show layC (layP _ c.ws) _ = _
 refine layC_comm _ (layC_rising _ List.Pairwise.nil) fun d hd' => ?_
 have h2 := List.mem_filter.1 (List.mem_filter.1 hd').1; exact hd d h2.1 h2.2
theorem inst_rising {M : Vs.Mst} (h : Vs.Rising M) (ws : List Wr) (t : Vs.Sp) : Vs.Rising (Vs.instM M ws t) := (Vs.instM_count h ws t).2
theorem read_above {M : Vs.Mst} (h : Vs.Rising M) {a t : Vs.Sp} (ha : t.lt a = true) (ws : List Wr) : Vs.readAll (Vs.instM M ws a) t = Vs.readAll M t := by
 induction ws using snoc_ind with
 | nil => rfl
 | snoc ws x ih => rw [Vs.instM_snoc, Vs.readAll_add_high (inst_rising h ws a) ha, ih]
theorem read_from {M : Vs.Mst} (h : Vs.Rising M) {a t : Vs.Sp} (ha : t.lt a = false) (ws : List Wr) : Vs.readAll (Vs.instM M ws a) t = layP (Vs.readAll M t) ws := by
 induction ws using snoc_ind with
 | nil => rfl
 | snoc ws x ih =>
  rw [Vs.instM_snoc, Vs.readAll_add_low (inst_rising h ws a) ha, ih]; unfold layP; rw [List.foldl_append]; rfl
theorem inst_dump {M : Vs.Mst} (h : Vs.Rising M) (a : Vs.Sp) (ws : List Wr) (e : Vs.Kv) : e ∈ Vs.dumpM (Vs.instM M ws a) → (∃ x ∈ ws, e = (x.key, Vs.Wr.ver x a)) ∨ e ∈ Vs.dumpM M := by
 induction ws using snoc_ind with
 | nil => exact .inr
 | snoc ws x ih =>
  rw [Vs.instM_snoc, Vs.add_dump_mem (inst_rising h ws a)]; rintro (rfl | h1)
  ·exact .inl ⟨x, by simp, rfl⟩
  ·rcases ih h1 with ⟨y, hy, h2⟩ | h2
   ·exact .inl ⟨y, by simp [hy], h2⟩
   ·exact .inr h2
theorem prune_dump {M : Vs.Mst} {t : Vs.Sp} {k : ByteArray} {v : Vs.Ver} (h : (k, v) ∈ Vs.dumpM (Vs.pruneM M t)) : (k, v) ∈ Vs.dumpM M := by
 obtain ⟨cs, hc, hv⟩ := Vs.dump_mem.1 h; obtain ⟨x, hx, hxe⟩ := List.mem_filterMap.1 hc; split at hxe
 ·cases hxe
 ·injection hxe with hxe
  injection hxe with e1 e2
  subst e1 e2; exact Vs.dump_mem.2 ⟨x.2, hx, List.mem_of_mem_drop hv⟩
def Aft2 (F : Nat → Prop) (w : World) (p : Nat) (m1 m2 m : Option Nat) (s' : Ps) (w' : World) : Prop := ∃ F' m1' m2' m' V' I', St F' w' p m1' m2' m' V' I' s' ∧ (∀ b, F' b ∨ Bm p m1' m2' m' b → (F b ∨ Bm p m1 m2 m b) ∨ w.heap.size ≤ b) ∧ Onl (fun b => F b ∨ Bm p m1 m2 m b) w w'
theorem St.all {F : Nat → Prop} {w : World} {p : Nat} {m1 m2 m : Option Nat} {V : List Lk.Hv} {I : Lk.It} {s : Ps} (T : St F w p m1 m2 m V I s) {b : Nat} (h : F b ∨ Bm p m1 m2 m b) : b < w.heap.size := h.elim (fun k => by obtain ⟨y, hy, _⟩ := T.st; exact hy.lt k) fun k => T.bm k
theorem apply_bad {F : Nat → Prop} {w : World} {p : Nat} {m1 m2 m : Option Nat} {V : List Lk.Hv} {I : Lk.It} {s : Ps} (T : St F w p m1 m2 m V I s) (r : Rg) (hr : r.ok w) (he : r.err ≠ 0) :
  Calls Tryz.prog 6 #[sp p, r.val] w fun e w' => e = .returned (.int .i64 70) ∧ Below w.heap.size w w' := by
 obtain ⟨wx, hwx⟩ : ∃ wx, wx = w.alloc (.cells r.cells 43) := ⟨_, rfl⟩; have hbx : Below w.heap.size w wx := by rw [hwx]; exact Below.al (Below.refl _ _) _
 have VA := hid (walvalid_is wx r (hr.later hbx)); have he' : (r.err != 0) = true := by simpa using he
 have HBX := hid hbx; generalize r.err = er at *
 clear T hr he hbx; go_enter Tryz.func6, Tryz.ntmps6
 go_wp2_with fail
 rw [← hwx]; clear hwx; refine VA.out.mono ?_; rintro e w2 ⟨rfl, hb2⟩; have HB2 := hid (Below.on HBX.out hb2); clear hb2 VA; go_wp2_with fail
 go_ret
 exact ⟨rfl, HB2.out⟩
theorem apply_1 {F : Nat → Prop} {w : World} {p : Nat} {m1 m2 m : Option Nat} {V : List Lk.Hv} {I : Lk.It} {s : Ps} (T : St F w p m1 m2 m V I s) (r : Rg) (hr : r.ok w) (he : r.err = 0) (hk : r.k = 1) :
  Calls Tryz.prog 6 #[sp p, r.val] w fun e w' => e = .returned (.int .i64 (resE s r)) ∧ Aft2 F w p m1 m2 m (resS s r) w' := by
 obtain ⟨wx, hwx⟩ : ∃ wx, wx = w.alloc (.cells r.cells 43) := ⟨_, rfl⟩; have hbx : Below w.heap.size w wx := by rw [hwx]; exact Below.al (Below.refl _ _) _
 have BX : BoxG wx w.heap.size r := by rw [hwx]; exact boxG w r _
 have VA := hid (walvalid_is wx r (hr.later hbx)); rw [he] at VA; have HX := hid BX; have HT := hid (T.later hbx); have HBX := hid hbx; have HK := hid hk; have HNI : Hid (¬ (fun b => F b ∨ Bm p m1 m2 m b) w.heap.size) := hid fun h => by have := T.all h; omega
 have RU : Hid (∀ W, Below wx.heap.size wx W → Calls Tryz.prog 19 #[.pointer (some ⟨p, 0, none⟩), .agg #[.int .i64 1, .int .u64 r.x, .int .u32 r.c, .int .u32 r.s, .int .u32 r.h, .int .i64 r.oc, .int .u64 r.w, .int .u32 r.l, .int .u32 r.n, .slice r.ra r.rs.length r.rc, .slice r.wa r.ws.length r.wc, .string r.im]] W fun e w' => e = .returned (.int .i64 (resE s r)) ∧ Hid ((Aft2 F w p m1 m2 m (resS s r) w') ∧ Onl (fun b => F b ∨ Bm p m1 m2 m b) W w')) := hid fun W hb => by
  have hBW := Below.on hbx hb; have := reserve_is (HT.out.later hb) r; rw [show r.val = .agg #[.int .i64 1, .int .u64 r.x, .int .u32 r.c, .int .u32 r.s, .int .u32 r.h, .int .i64 r.oc, .int .u64 r.w, .int .u32 r.l, .int .u32 r.n, .slice r.ra r.rs.length r.rc, .slice r.wa r.ws.length r.wc, .string r.im] from by simp [hk]] at this; refine this.mono ?_; rintro e w' ⟨he, h1, h2⟩; have h9 := h2.mono (G := fun b => F b ∨ Bm p m1 m2 m b) fun b h => .inr (.inl h)
  exact ⟨he, hid ⟨⟨F, m1, m2, m, V, I, h1, fun b h => .inl h, (Onl.of_below hBW).trans h9⟩, h9⟩⟩
 clear T hr he hbx BX hk; go_enter Tryz.func6, Tryz.ntmps6
 go_wp2_with fail
 rw [← hwx]; clear hwx; refine VA.out.mono ?_; rintro e w2 ⟨rfl, hb2⟩; obtain ⟨w3, hw3⟩ : ∃ w3, w3 = w2.alloc (.cells #[.nilFunc, .func (.func 19) #[] #[], .func (.func 20) #[] #[], .func (.func 21) #[] #[], .func (.func 22) #[] #[], .func (.func 23) #[] #[]] 60) := ⟨_, rfl⟩; have hb3 : Below wx.heap.size wx w3 := by rw [hw3]; exact Below.al hb2 _
 have t1 : w3.cell? ⟨w2.heap.size, 1, none⟩ = some (.func (.func 19) #[] #[]) := by rw [hw3]; exact Vs.cell_of_obj (World.alloc_heap_new w2 _) rfl
 have hnt : ¬ (fun b => F b ∨ Bm p m1 m2 m b) w2.heap.size := fun h => by have := HT.out.all h; have := hb2.size; omega
 have hni := HNI.out; have BG := HX.out.later hb3; have d0 : w3.cell? ⟨w.heap.size, 0, none⟩ = some (.int .i64 1) := by rw [BG.c0, HK.out]
 have d1 := BG.c1; have d2 := BG.c2; have d3 := BG.c3; have d4 := BG.c4; have d5 := BG.c5; have d6 := BG.c6; have d7 := BG.c7; have d8 := BG.c8; have d9 := BG.c9; have d10 := BG.c10; have d11 := BG.c11; have HB3 := hid hb3; clear hb2 VA BG; go_wp2_with fail
 rw [← hw3]; clear hw3; go_region_held3 (fun w' => w'.cell? ⟨w.heap.size, 0, none⟩ = some (.int .i64 1) ∧ w'.cell? ⟨w.heap.size, 1, none⟩ = some (.int .u64 r.x) ∧ w'.cell? ⟨w.heap.size, 2, none⟩ = some (.int .u32 r.c) ∧ w'.cell? ⟨w.heap.size, 3, none⟩ = some (.int .u32 r.s) ∧ w'.cell? ⟨w.heap.size, 4, none⟩ = some (.int .u32 r.h) ∧ w'.cell? ⟨w.heap.size, 5, none⟩ = some (.int .i64 r.oc) ∧ w'.cell? ⟨w.heap.size, 6, none⟩ = some (.int .u64 r.w) ∧ w'.cell? ⟨w.heap.size, 7, none⟩ = some (.int .u32 r.l) ∧ w'.cell? ⟨w.heap.size, 8, none⟩ = some (.int .u32 r.n) ∧ w'.cell? ⟨w.heap.size, 9, none⟩ = some (.slice r.ra r.rs.length r.rc) ∧ w'.cell? ⟨w.heap.size, 10, none⟩ = some (.slice r.wa r.ws.length r.wc) ∧ w'.cell? ⟨w.heap.size, 11, none⟩ = some (.string r.im) ∧ w'.cell? ⟨w2.heap.size, 1, none⟩ = some (.func (.func 19) #[] #[]) ∧ Onl (fun b => F b ∨ Bm p m1 m2 m b) w3 w')
  ((refine (fun (hO : Onl (fun b => F b ∨ Bm p m1 m2 m b) w3 _) => ⟨hO.cell hni d0, hO.cell hni d1, hO.cell hni d2, hO.cell hni d3, hO.cell hni d4, hO.cell hni d5, hO.cell hni d6, hO.cell hni d7, hO.cell hni d8, hO.cell hni d9, hO.cell hni d10, hO.cell hni d11, hO.cell hnt t1, hO⟩) ?_; (repeat (first | with_reducible exact Onl.refl _ _ | with_reducible assumption | with_reducible refine Onl.drew ?_ | with_reducible refine Onl.al ?_ _))))
  (first | (go_at_call 19; refine (RU.out _ (by refine Below.on HB3.out ?_; (repeat (first | with_reducible exact Below.refl _ _ | with_reducible assumption | with_reducible refine Below.drew ?_ | with_reducible refine Below.al ?_ _ | with_reducible refine Below.setCell ?_ (by first | exact Nat.le_refl _ | (simp; omega) | (simp; done)) _ | with_reducible refine Below.on ?_ (by assumption))))).mono ?_; rintro e w4 ⟨rfl, HP⟩; have hO2 : Onl (fun b => F b ∨ Bm p m1 m2 m b) w3 w4 := (by refine Onl.trans ?_ HP.out.2; (repeat (first | with_reducible exact Onl.refl _ _ | with_reducible assumption | with_reducible refine Onl.drew ?_ | with_reducible refine Onl.al ?_ _)))))
 all_goals (try go_wp2_with fail)
 all_goals go_ret
 all_goals exact ⟨rfl, HP.out.1⟩
theorem apply_4 {F : Nat → Prop} {w : World} {p : Nat} {m1 m2 m : Option Nat} {V : List Lk.Hv} {I : Lk.It} {s : Ps} (T : St F w p m1 m2 m V I s) (r : Rg) (hr : r.ok w) (he : r.err = 0) (hk : r.k = 4) (hn : Vs.countM s.M ≤ 268435456) :
  Calls Tryz.prog 6 #[sp p, r.val] w fun e w' => e = .returned (.int .i64 (mrkE s r)) ∧ Aft2 F w p m1 m2 m (mrkS s r) w' := by
 obtain ⟨wx, hwx⟩ : ∃ wx, wx = w.alloc (.cells r.cells 43) := ⟨_, rfl⟩; have hbx : Below w.heap.size w wx := by rw [hwx]; exact Below.al (Below.refl _ _) _
 have BX : BoxG wx w.heap.size r := by rw [hwx]; exact boxG w r _
 have VA := hid (walvalid_is wx r (hr.later hbx)); rw [he] at VA; have HX := hid BX; have HT := hid (T.later hbx); have HBX := hid hbx; have HK := hid hk; have HNI : Hid (¬ (fun b => F b ∨ Bm p m1 m2 m b) w.heap.size) := hid fun h => by have := T.all h; omega
 have RU : Hid (∀ W, Below wx.heap.size wx W → Calls Tryz.prog 22 #[.pointer (some ⟨p, 0, none⟩), .agg #[.int .i64 4, .int .u64 r.x, .int .u32 r.c, .int .u32 r.s, .int .u32 r.h, .int .i64 r.oc, .int .u64 r.w, .int .u32 r.l, .int .u32 r.n, .slice r.ra r.rs.length r.rc, .slice r.wa r.ws.length r.wc, .string r.im]] W fun e w' => e = .returned (.int .i64 (mrkE s r)) ∧ Hid ((Aft2 F w p m1 m2 m (mrkS s r) w') ∧ Onl (fun b => F b ∨ Bm p m1 m2 m b) W w')) := hid fun W hb => by
  have hBW := Below.on hbx hb; have := mark_is (HT.out.later hb) r hn; rw [show r.val = .agg #[.int .i64 4, .int .u64 r.x, .int .u32 r.c, .int .u32 r.s, .int .u32 r.h, .int .i64 r.oc, .int .u64 r.w, .int .u32 r.l, .int .u32 r.n, .slice r.ra r.rs.length r.rc, .slice r.wa r.ws.length r.wc, .string r.im] from by simp [hk]] at this; refine this.mono ?_; rintro e w' ⟨he, F', h1, h2, h3⟩; have h9 := h3.mono (G := fun b => F b ∨ Bm p m1 m2 m b) fun b h => .inl h
  exact ⟨he, hid ⟨⟨F', m1, m2, m, V, I, h1, fun b h => h.elim (fun k => (h2 b k).elim (fun k => .inl (.inl k)) fun k => .inr (Nat.le_trans hBW.size k)) fun k => .inl (.inr k), (Onl.of_below hBW).trans h9⟩, h9⟩⟩
 clear T hr he hbx BX hk; go_enter Tryz.func6, Tryz.ntmps6
 go_wp2_with fail
 rw [← hwx]; clear hwx; refine VA.out.mono ?_; rintro e w2 ⟨rfl, hb2⟩; obtain ⟨w3, hw3⟩ : ∃ w3, w3 = w2.alloc (.cells #[.nilFunc, .func (.func 19) #[] #[], .func (.func 20) #[] #[], .func (.func 21) #[] #[], .func (.func 22) #[] #[], .func (.func 23) #[] #[]] 60) := ⟨_, rfl⟩; have hb3 : Below wx.heap.size wx w3 := by rw [hw3]; exact Below.al hb2 _
 have t1 : w3.cell? ⟨w2.heap.size, 4, none⟩ = some (.func (.func 22) #[] #[]) := by rw [hw3]; exact Vs.cell_of_obj (World.alloc_heap_new w2 _) rfl
 have hnt : ¬ (fun b => F b ∨ Bm p m1 m2 m b) w2.heap.size := fun h => by have := HT.out.all h; have := hb2.size; omega
 have hni := HNI.out; have BG := HX.out.later hb3; have d0 : w3.cell? ⟨w.heap.size, 0, none⟩ = some (.int .i64 4) := by rw [BG.c0, HK.out]
 have d1 := BG.c1; have d2 := BG.c2; have d3 := BG.c3; have d4 := BG.c4; have d5 := BG.c5; have d6 := BG.c6; have d7 := BG.c7; have d8 := BG.c8; have d9 := BG.c9; have d10 := BG.c10; have d11 := BG.c11; have HB3 := hid hb3; clear hb2 VA BG; go_wp2_with fail
 rw [← hw3]; clear hw3; go_region_held3 (fun w' => w'.cell? ⟨w.heap.size, 0, none⟩ = some (.int .i64 4) ∧ w'.cell? ⟨w.heap.size, 1, none⟩ = some (.int .u64 r.x) ∧ w'.cell? ⟨w.heap.size, 2, none⟩ = some (.int .u32 r.c) ∧ w'.cell? ⟨w.heap.size, 3, none⟩ = some (.int .u32 r.s) ∧ w'.cell? ⟨w.heap.size, 4, none⟩ = some (.int .u32 r.h) ∧ w'.cell? ⟨w.heap.size, 5, none⟩ = some (.int .i64 r.oc) ∧ w'.cell? ⟨w.heap.size, 6, none⟩ = some (.int .u64 r.w) ∧ w'.cell? ⟨w.heap.size, 7, none⟩ = some (.int .u32 r.l) ∧ w'.cell? ⟨w.heap.size, 8, none⟩ = some (.int .u32 r.n) ∧ w'.cell? ⟨w.heap.size, 9, none⟩ = some (.slice r.ra r.rs.length r.rc) ∧ w'.cell? ⟨w.heap.size, 10, none⟩ = some (.slice r.wa r.ws.length r.wc) ∧ w'.cell? ⟨w.heap.size, 11, none⟩ = some (.string r.im) ∧ w'.cell? ⟨w2.heap.size, 4, none⟩ = some (.func (.func 22) #[] #[]) ∧ Onl (fun b => F b ∨ Bm p m1 m2 m b) w3 w')
  ((refine (fun (hO : Onl (fun b => F b ∨ Bm p m1 m2 m b) w3 _) => ⟨hO.cell hni d0, hO.cell hni d1, hO.cell hni d2, hO.cell hni d3, hO.cell hni d4, hO.cell hni d5, hO.cell hni d6, hO.cell hni d7, hO.cell hni d8, hO.cell hni d9, hO.cell hni d10, hO.cell hni d11, hO.cell hnt t1, hO⟩) ?_; (repeat (first | with_reducible exact Onl.refl _ _ | with_reducible assumption | with_reducible refine Onl.drew ?_ | with_reducible refine Onl.al ?_ _))))
  (first | (go_at_call 22; refine (RU.out _ (by refine Below.on HB3.out ?_; (repeat (first | with_reducible exact Below.refl _ _ | with_reducible assumption | with_reducible refine Below.drew ?_ | with_reducible refine Below.al ?_ _ | with_reducible refine Below.setCell ?_ (by first | exact Nat.le_refl _ | (simp; omega) | (simp; done)) _ | with_reducible refine Below.on ?_ (by assumption))))).mono ?_; rintro e w4 ⟨rfl, HP⟩; have hO2 : Onl (fun b => F b ∨ Bm p m1 m2 m b) w3 w4 := (by refine Onl.trans ?_ HP.out.2; (repeat (first | with_reducible exact Onl.refl _ _ | with_reducible assumption | with_reducible refine Onl.drew ?_ | with_reducible refine Onl.al ?_ _)))))
 all_goals (try go_wp2_with fail)
 all_goals go_ret
 all_goals exact ⟨rfl, HP.out.1⟩
theorem apply_2 {F : Nat → Prop} {w : World} {p : Nat} {m1 m2 m : Option Nat} {V : List Lk.Hv} {I : Lk.It} {s : Ps} (T : St F w p m1 m2 m V I s) (r : Rg) (hr : r.ok w) (he : r.err = 0) (hk : r.k = 2) (hn : Vs.countM s.M ≤ 268435456) (hv : (hvR r).ok w) (hat : OkS (at' r)) (hj : acB s (at' r) = true → jbB (at' r) = true) (hkk : ∀ x ∈ r.ws, KeyOk x) :
  Calls Tryz.prog 6 #[sp p, r.val] w fun e w' => e = .returned (.int .i64 (prpE s r)) ∧ Aft2 F w p m1 m2 m (prpS s r) w' := by
 obtain ⟨wx, hwx⟩ : ∃ wx, wx = w.alloc (.cells r.cells 43) := ⟨_, rfl⟩; have hbx : Below w.heap.size w wx := by rw [hwx]; exact Below.al (Below.refl _ _) _
 have BX : BoxG wx w.heap.size r := by rw [hwx]; exact boxG w r _
 have VA := hid (walvalid_is wx r (hr.later hbx)); rw [he] at VA; have HX := hid BX; have HT := hid (T.later hbx); have HBX := hid hbx; have HK := hid hk; have HNI : Hid (¬ (fun b => F b ∨ Bm p m1 m2 m b) w.heap.size) := hid fun h => by have := T.all h; omega
 have RU : Hid (∀ W, Below wx.heap.size wx W → Calls Tryz.prog 20 #[.pointer (some ⟨p, 0, none⟩), .agg #[.int .i64 2, .int .u64 r.x, .int .u32 r.c, .int .u32 r.s, .int .u32 r.h, .int .i64 r.oc, .int .u64 r.w, .int .u32 r.l, .int .u32 r.n, .slice r.ra r.rs.length r.rc, .slice r.wa r.ws.length r.wc, .string r.im]] W fun e w' => e = .returned (.int .i64 (prpE s r)) ∧ Hid ((Aft2 F w p m1 m2 m (prpS s r) w') ∧ Onl (fun b => F b ∨ Bm p m1 m2 m b) W w')) := hid fun W hb => by
  have hBW := Below.on hbx hb; have := prepare_is (HT.out.later hb) hn r (hv.later hBW) hat hj hkk; rw [show r.val = .agg #[.int .i64 2, .int .u64 r.x, .int .u32 r.c, .int .u32 r.s, .int .u32 r.h, .int .i64 r.oc, .int .u64 r.w, .int .u32 r.l, .int .u32 r.n, .slice r.ra r.rs.length r.rc, .slice r.wa r.ws.length r.wc, .string r.im] from by simp [hk]] at this; refine this.mono ?_; rintro e w' ⟨he, m1', m2', V', I', h1, h2, h3⟩; have h9 := h3.mono (G := fun b => F b ∨ Bm p m1 m2 m b) fun b h => .inr (Bm.t h)
  exact ⟨he, hid ⟨⟨F, m1', m2', m, V', I', h1, fun b h => h.elim (fun k => .inl (.inl k)) fun k => (show Lk.Its p m1' m2' b ∨ m = some b from k.elim (fun x => .inl (.inl x)) fun x => x.elim (fun y => .inl (.inr (.inl y))) fun y => y.elim (fun z => .inl (.inr (.inr z))) fun z => .inr z).elim (fun x => (h2 b x).elim (fun y => .inl (.inr (Bm.t y))) fun y => .inr (Nat.le_trans hBW.size y)) fun x => .inl (.inr (.inr (.inr (.inr x)))), (Onl.of_below hBW).trans h9⟩, h9⟩⟩
 clear T hr he hbx BX hk; go_enter Tryz.func6, Tryz.ntmps6
 go_wp2_with fail
 rw [← hwx]; clear hwx; refine VA.out.mono ?_; rintro e w2 ⟨rfl, hb2⟩; obtain ⟨w3, hw3⟩ : ∃ w3, w3 = w2.alloc (.cells #[.nilFunc, .func (.func 19) #[] #[], .func (.func 20) #[] #[], .func (.func 21) #[] #[], .func (.func 22) #[] #[], .func (.func 23) #[] #[]] 60) := ⟨_, rfl⟩; have hb3 : Below wx.heap.size wx w3 := by rw [hw3]; exact Below.al hb2 _
 have t1 : w3.cell? ⟨w2.heap.size, 2, none⟩ = some (.func (.func 20) #[] #[]) := by rw [hw3]; exact Vs.cell_of_obj (World.alloc_heap_new w2 _) rfl
 have hnt : ¬ (fun b => F b ∨ Bm p m1 m2 m b) w2.heap.size := fun h => by have := HT.out.all h; have := hb2.size; omega
 have hni := HNI.out; have BG := HX.out.later hb3; have d0 : w3.cell? ⟨w.heap.size, 0, none⟩ = some (.int .i64 2) := by rw [BG.c0, HK.out]
 have d1 := BG.c1; have d2 := BG.c2; have d3 := BG.c3; have d4 := BG.c4; have d5 := BG.c5; have d6 := BG.c6; have d7 := BG.c7; have d8 := BG.c8; have d9 := BG.c9; have d10 := BG.c10; have d11 := BG.c11; have HB3 := hid hb3; clear hb2 VA BG; go_wp2_with fail
 rw [← hw3]; clear hw3; go_region_held3 (fun w' => w'.cell? ⟨w.heap.size, 0, none⟩ = some (.int .i64 2) ∧ w'.cell? ⟨w.heap.size, 1, none⟩ = some (.int .u64 r.x) ∧ w'.cell? ⟨w.heap.size, 2, none⟩ = some (.int .u32 r.c) ∧ w'.cell? ⟨w.heap.size, 3, none⟩ = some (.int .u32 r.s) ∧ w'.cell? ⟨w.heap.size, 4, none⟩ = some (.int .u32 r.h) ∧ w'.cell? ⟨w.heap.size, 5, none⟩ = some (.int .i64 r.oc) ∧ w'.cell? ⟨w.heap.size, 6, none⟩ = some (.int .u64 r.w) ∧ w'.cell? ⟨w.heap.size, 7, none⟩ = some (.int .u32 r.l) ∧ w'.cell? ⟨w.heap.size, 8, none⟩ = some (.int .u32 r.n) ∧ w'.cell? ⟨w.heap.size, 9, none⟩ = some (.slice r.ra r.rs.length r.rc) ∧ w'.cell? ⟨w.heap.size, 10, none⟩ = some (.slice r.wa r.ws.length r.wc) ∧ w'.cell? ⟨w.heap.size, 11, none⟩ = some (.string r.im) ∧ w'.cell? ⟨w2.heap.size, 2, none⟩ = some (.func (.func 20) #[] #[]) ∧ Onl (fun b => F b ∨ Bm p m1 m2 m b) w3 w')
  ((refine (fun (hO : Onl (fun b => F b ∨ Bm p m1 m2 m b) w3 _) => ⟨hO.cell hni d0, hO.cell hni d1, hO.cell hni d2, hO.cell hni d3, hO.cell hni d4, hO.cell hni d5, hO.cell hni d6, hO.cell hni d7, hO.cell hni d8, hO.cell hni d9, hO.cell hni d10, hO.cell hni d11, hO.cell hnt t1, hO⟩) ?_; (repeat (first | with_reducible exact Onl.refl _ _ | with_reducible assumption | with_reducible refine Onl.drew ?_ | with_reducible refine Onl.al ?_ _))))
  (first | (go_at_call 20; refine (RU.out _ (by refine Below.on HB3.out ?_; (repeat (first | with_reducible exact Below.refl _ _ | with_reducible assumption | with_reducible refine Below.drew ?_ | with_reducible refine Below.al ?_ _ | with_reducible refine Below.setCell ?_ (by first | exact Nat.le_refl _ | (simp; omega) | (simp; done)) _ | with_reducible refine Below.on ?_ (by assumption))))).mono ?_; rintro e w4 ⟨rfl, HP⟩; have hO2 : Onl (fun b => F b ∨ Bm p m1 m2 m b) w3 w4 := (by refine Onl.trans ?_ HP.out.2; (repeat (first | with_reducible exact Onl.refl _ _ | with_reducible assumption | with_reducible refine Onl.drew ?_ | with_reducible refine Onl.al ?_ _)))))
 all_goals (try go_wp2_with fail)
 all_goals go_ret
 all_goals exact ⟨rfl, HP.out.1⟩
theorem apply_3 {F : Nat → Prop} {w : World} {p : Nat} {m1 m2 m : Option Nat} {V : List Lk.Hv} {I : Lk.It} {s : Ps} (T : St F w p m1 m2 m V I s) (r : Rg) (hr : r.ok w) (he : r.err = 0) (hk : r.k = 3) (hn : (Vs.countM s.M + 17) * 64 ≤ 140737488355328) :
  Calls Tryz.prog 6 #[sp p, r.val] w fun e w' => e = .returned (.int .i64 (dcdE s r)) ∧ Aft2 F w p m1 m2 m (dcdS s r) w' := by
 obtain ⟨wx, hwx⟩ : ∃ wx, wx = w.alloc (.cells r.cells 43) := ⟨_, rfl⟩; have hbx : Below w.heap.size w wx := by rw [hwx]; exact Below.al (Below.refl _ _) _
 have BX : BoxG wx w.heap.size r := by rw [hwx]; exact boxG w r _
 have VA := hid (walvalid_is wx r (hr.later hbx)); rw [he] at VA; have HX := hid BX; have HT := hid (T.later hbx); have HBX := hid hbx; have HK := hid hk; have HNI : Hid (¬ (fun b => F b ∨ Bm p m1 m2 m b) w.heap.size) := hid fun h => by have := T.all h; omega
 have RU : Hid (∀ W, Below wx.heap.size wx W → Calls Tryz.prog 21 #[.pointer (some ⟨p, 0, none⟩), .agg #[.int .i64 3, .int .u64 r.x, .int .u32 r.c, .int .u32 r.s, .int .u32 r.h, .int .i64 r.oc, .int .u64 r.w, .int .u32 r.l, .int .u32 r.n, .slice r.ra r.rs.length r.rc, .slice r.wa r.ws.length r.wc, .string r.im]] W fun e w' => e = .returned (.int .i64 (dcdE s r)) ∧ Hid ((Aft2 F w p m1 m2 m (dcdS s r) w') ∧ Onl (fun b => F b ∨ Bm p m1 m2 m b) W w')) := hid fun W hb => by
  have hBW := Below.on hbx hb; have := decide_is (HT.out.later hb) r hn; rw [show r.val = .agg #[.int .i64 3, .int .u64 r.x, .int .u32 r.c, .int .u32 r.s, .int .u32 r.h, .int .i64 r.oc, .int .u64 r.w, .int .u32 r.l, .int .u32 r.n, .slice r.ra r.rs.length r.rc, .slice r.wa r.ws.length r.wc, .string r.im] from by simp [hk]] at this; refine this.mono ?_; rintro e w' ⟨he, F', m', V', I', h1, h2, h3, h4⟩; have h9 := h4
  exact ⟨he, hid ⟨⟨F', m1, m2, m', V', I', h1, fun b h => h.elim (fun k => (h2 b k).elim (fun k => .inl (.inl k)) fun k => .inr (Nat.le_trans hBW.size k)) fun k => k.elim (fun x => .inl (.inr (.inl x))) fun x => x.elim (fun y => .inl (.inr (.inr (.inl y)))) fun y => y.elim (fun z => .inl (.inr (.inr (.inr (.inl z))))) fun z => h3.elim (fun e => .inl (.inr (.inr (.inr (.inr (e ▸ z)))))) fun ⟨c, e, kc⟩ => .inr (by rw [e] at z; injection z with z; subst z; exact Nat.le_trans hBW.size kc), (Onl.of_below hBW).trans h9⟩, h9⟩⟩
 clear T hr he hbx BX hk; go_enter Tryz.func6, Tryz.ntmps6
 go_wp2_with fail
 rw [← hwx]; clear hwx; refine VA.out.mono ?_; rintro e w2 ⟨rfl, hb2⟩; obtain ⟨w3, hw3⟩ : ∃ w3, w3 = w2.alloc (.cells #[.nilFunc, .func (.func 19) #[] #[], .func (.func 20) #[] #[], .func (.func 21) #[] #[], .func (.func 22) #[] #[], .func (.func 23) #[] #[]] 60) := ⟨_, rfl⟩; have hb3 : Below wx.heap.size wx w3 := by rw [hw3]; exact Below.al hb2 _
 have t1 : w3.cell? ⟨w2.heap.size, 3, none⟩ = some (.func (.func 21) #[] #[]) := by rw [hw3]; exact Vs.cell_of_obj (World.alloc_heap_new w2 _) rfl
 have hnt : ¬ (fun b => F b ∨ Bm p m1 m2 m b) w2.heap.size := fun h => by have := HT.out.all h; have := hb2.size; omega
 have hni := HNI.out; have BG := HX.out.later hb3; have d0 : w3.cell? ⟨w.heap.size, 0, none⟩ = some (.int .i64 3) := by rw [BG.c0, HK.out]
 have d1 := BG.c1; have d2 := BG.c2; have d3 := BG.c3; have d4 := BG.c4; have d5 := BG.c5; have d6 := BG.c6; have d7 := BG.c7; have d8 := BG.c8; have d9 := BG.c9; have d10 := BG.c10; have d11 := BG.c11; have HB3 := hid hb3; clear hb2 VA BG; go_wp2_with fail
 rw [← hw3]; clear hw3; go_region_held3 (fun w' => w'.cell? ⟨w.heap.size, 0, none⟩ = some (.int .i64 3) ∧ w'.cell? ⟨w.heap.size, 1, none⟩ = some (.int .u64 r.x) ∧ w'.cell? ⟨w.heap.size, 2, none⟩ = some (.int .u32 r.c) ∧ w'.cell? ⟨w.heap.size, 3, none⟩ = some (.int .u32 r.s) ∧ w'.cell? ⟨w.heap.size, 4, none⟩ = some (.int .u32 r.h) ∧ w'.cell? ⟨w.heap.size, 5, none⟩ = some (.int .i64 r.oc) ∧ w'.cell? ⟨w.heap.size, 6, none⟩ = some (.int .u64 r.w) ∧ w'.cell? ⟨w.heap.size, 7, none⟩ = some (.int .u32 r.l) ∧ w'.cell? ⟨w.heap.size, 8, none⟩ = some (.int .u32 r.n) ∧ w'.cell? ⟨w.heap.size, 9, none⟩ = some (.slice r.ra r.rs.length r.rc) ∧ w'.cell? ⟨w.heap.size, 10, none⟩ = some (.slice r.wa r.ws.length r.wc) ∧ w'.cell? ⟨w.heap.size, 11, none⟩ = some (.string r.im) ∧ w'.cell? ⟨w2.heap.size, 3, none⟩ = some (.func (.func 21) #[] #[]) ∧ Onl (fun b => F b ∨ Bm p m1 m2 m b) w3 w')
  ((refine (fun (hO : Onl (fun b => F b ∨ Bm p m1 m2 m b) w3 _) => ⟨hO.cell hni d0, hO.cell hni d1, hO.cell hni d2, hO.cell hni d3, hO.cell hni d4, hO.cell hni d5, hO.cell hni d6, hO.cell hni d7, hO.cell hni d8, hO.cell hni d9, hO.cell hni d10, hO.cell hni d11, hO.cell hnt t1, hO⟩) ?_; (repeat (first | with_reducible exact Onl.refl _ _ | with_reducible assumption | with_reducible refine Onl.drew ?_ | with_reducible refine Onl.al ?_ _))))
  (first | (go_at_call 21; refine (RU.out _ (by refine Below.on HB3.out ?_; (repeat (first | with_reducible exact Below.refl _ _ | with_reducible assumption | with_reducible refine Below.drew ?_ | with_reducible refine Below.al ?_ _ | with_reducible refine Below.setCell ?_ (by first | exact Nat.le_refl _ | (simp; omega) | (simp; done)) _ | with_reducible refine Below.on ?_ (by assumption))))).mono ?_; rintro e w4 ⟨rfl, HP⟩; have hO2 : Onl (fun b => F b ∨ Bm p m1 m2 m b) w3 w4 := (by refine Onl.trans ?_ HP.out.2; (repeat (first | with_reducible exact Onl.refl _ _ | with_reducible assumption | with_reducible refine Onl.drew ?_ | with_reducible refine Onl.al ?_ _)))))
 all_goals (try go_wp2_with fail)
 all_goals go_ret
 all_goals exact ⟨rfl, HP.out.1⟩
end Go.Proofs.YtneojeidpfjpbaaGreatDoor.Ys
