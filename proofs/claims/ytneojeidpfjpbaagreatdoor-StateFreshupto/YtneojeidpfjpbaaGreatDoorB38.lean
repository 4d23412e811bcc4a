import Derived.Test.YtneojeidpfjpbaaGreatDoorB32
import Derived.Sort.LoopGhostIn
set_option linter.unusedVariables false
set_option maxHeartbeats 2000000
namespace Go.Proofs.YtneojeidpfjpbaaGreatDoor
open Go.RowKit Go.Sort
theorem bytes_of {w : World} {A : Nat → Prop} {b o : Nat} {bs : List Nat} (h : EncAt w A b o bs) (hl : bs.length ≤ 281474976710656) :
  Calls Tryz.prog 38 #[.pointer (some ⟨b, o, none⟩)] w fun e w' => e = .returned (.string (ofNats bs)) ∧ Below w.heap.size w w' := by
 have hb8 := h.b8; obtain ⟨-, ⟨cs, hcs, hch, -, c0⟩, c1, -⟩ := h; obtain ⟨q, hq⟩ := ptrOf_ptr cs; rw [hq] at c0; have HQ := hid hq; clear hq; have HB := hid hb8; have HCS := hid hcs; have HH := hid hch; have R0 := RoomAt.new w bs 5; have hbl : b < w.heap.size := World.block_lt_of_cell? _ _ c0; obtain ⟨n, hn⟩ : ∃ n, n = bs.length := ⟨_, rfl⟩; have hmk := make_u8 w n n (Nat.le_refl _) (by omega); rw [← hn] at c1 R0; have HN := hid hn; obtain ⟨wa, hwa⟩ : ∃ wa, wa = w.alloc (.cells (madeCells (Value.int .u8 0).cells n) 5) := ⟨_, rfl⟩; rw [← hwa] at R0 hmk; have c0a : wa.cell? ⟨b, o, none⟩ = some (.pointer q) := cell_later R0.below c0; have c1a : wa.cell? ⟨b, o + 1, none⟩ = some (.int .i64 (n : Int)) := cell_later R0.below c1; clear hb8 hcs hch hwa hn; go_enter Tryz.func38, Tryz.ntmps38
 go_wp2_with fail
 go_loopg [4, 5] cs.length (fun g s4 s5 wr => ∃ (cs' : List (Nat × List Nat)) (r : List Nat), g = cs'.length ∧ s4 = .int .i64 ((total cs').length : Int) ∧ s5 = ptrOf cs' ∧ Hid (Chain w cs' ∧ bs = total cs' ++ r ∧ RoomAt w wr n (total cs').length bs))
 case atStart =>
  refine ⟨cs, [], rfl, ?_, ?_, HH.out, ?_, ?_⟩
  ·rw [HCS.out, ← HN.out]
  ·rw [HQ.out]
  ·rw [HCS.out, List.append_nil]
  ·rw [HCS.out, ← HN.out]; exact R0
 case round =>
  obtain ⟨cs', r, rfl, rfl, rfl, H⟩ := hrel; clear R0 hmk c0a c1a c0 c1 hbl; cases cs' with
  | nil =>
   obtain ⟨-, -, hR⟩ := H.out; have hcv := run_convert_bytes_arg (P := Tryz.prog) wr 130 5 Tryz.underlying130 Tryz.underlying5 w.heap.size 0 n n (bs.map Int.ofNat) (by rw [List.length_map, HN.out]) (fun i hi => by
    rw [Nat.zero_add, hR.ins i (Nat.zero_le _) hi]; simp [List.getD]; cases bs[i]? <;> rfl) 9 Tryz.underlying9
   rw [strOfNums_nats] at hcv; have HB1 := hid hR.below; clear hR H HH HCS HQ HN; simp only [ptrOf]; go_wp2_with fail
   go_ret
   exact ⟨rfl, HB1.out⟩
  | cons x cs' =>
   obtain ⟨g, t⟩ := x; obtain ⟨⟨k0, k1, k2, k3⟩, hbs, hR⟩ := H.out; obtain ⟨q', hq'⟩ := ptrOf_ptr cs'; rw [hq'] at k0; have HQ' := hid hq'; clear hq'; have hgR : ¬ g = w.heap.size := by have := World.block_lt_of_cell? _ _ k0; dsimp only at this; omega
   replace k0 := cell_later hR.below k0; replace k1 := cell_later hR.below k1; have hnl : n ≤ 281474976710656 := by rw [HN.out]; exact hl
   obtain ⟨m, hm⟩ : ∃ m, m = (total cs').length := ⟨_, rfl⟩; have hlen : (total ((g, t) :: cs')).length = m + t.length := by rw [total, List.length_append, hm]
   have hbs' : bs = total cs' ++ (t ++ r) := by rw [hbs, total, List.append_assoc]
   have hmn : m + t.length ≤ n := by rw [HN.out, hbs', hm]; simp
   rw [hlen] at hR ⊢; have hR' := hR.fill hbs' (by rw [hm]) HN.out; rw [← hm] at hR'; have hcp := fun ty => run_copy_text (P := Tryz.prog) wr.drew 130 9 ty 5 w.heap.size m (n - m) (n - m) t k2 Tryz.underlying130 Tryz.sizeU8 (by omega) (fun j hj => hR.some' _ (by omega)) (fun j hj => hR.loose _)
   have hts : ((ofNats t).size : Int) = (t.length : Int) := by rw [ofNats_size]
   have hsub : IntKind.i64.wrap (((m + t.length : Nat) : Int) - (t.length : Int)) = (m : Int) := by rw [IntKind.wrap_i64]; clear hlen; omega
   obtain ⟨wz, hwz⟩ : ∃ wz, wz = wr.drew.setCells w.heap.size m (vals t) := ⟨_, rfl⟩; rw [← hwz] at hR' hcp; have k0z : wz.cell? ⟨g, 0, none⟩ = some (.pointer q') := by
    rw [hwz, World.cell?_setCells_out _ _ _ _ _ (fun e _ => absurd e hgR)]; exact k0
   have HZ := hid hwz; have HR' := hid hR'; have HB' := hid hbs'; have HM := hid hm; have HK := hid k3; have hglt : g < wr.heap.size := World.block_lt_of_cell? _ _ k0; clear hR hR' hbs' hbs H hm k3 k2 hlen HH HCS HQ hwz; simp only [ptrOf]; obtain ⟨m', hm'⟩ : ∃ m' : Nat, m' = m + t.length := ⟨_, rfl⟩; rw [← hm'] at hsub ⊢; by_cases hlt : m < n
   ·go_wp2_with fail
    go_region
    go_wp2_with fail
    go_roundg cs'.length
    case measure => simp
    case rel =>
     refine ⟨cs', t ++ r, rfl, by rw [HM.out], by rw [HQ'.out], HK.out, HB'.out, ?_⟩; have := HR'.out; rwa [HM.out] at this
   ·have hmn' : m = n := by omega
    have ht0 : t = [] := List.eq_nil_of_length_eq_zero (by omega); subst ht0; have e1 : wz = wr.drew := HZ.out; have hcp0 : ∀ ty a, (Builtin.copy_ #[130, 9] ty #[.slice a 0 0, .string (ofNats [])]).run Tryz.prog wr.drew = .ok (goInt 0) wr.drew := by
     intro ty a; obtain ⟨i0, hi, hz⟩ := Option.map_eq_some_iff.1 Tryz.sizeU8; cases a <;> simp [Builtin.copy_, run_underlying Tryz.underlying130, Builtin.lenOf, Builtin.firstCells, sizeOf, typeInfo, hi, storeCells, ofNats]
    subst hmn'; clear hcp; go_wp2_with fail
    go_region
    go_wp2_with fail
    go_roundg cs'.length
    case measure => simp
    case rel =>
     refine ⟨cs', [] ++ r, rfl, by rw [HM.out], by rw [HQ'.out], HK.out, HB'.out, ?_⟩; have := HR'.out; rw [HM.out] at this; rw [e1] at this; rw [← HM.out] at this ⊢; exact this
end Go.Proofs.YtneojeidpfjpbaaGreatDoor
namespace Go.Proofs.YtneojeidpfjpbaaGreatDoor.Lk
open Go.RowKit Go.Sort Go.Shelf Go.Lib
theorem swo_of {α : Type} (f : α → Ix) : SWO (ltOf fun x y => cmpI (f x) (f y)) where
 irrefl x := by show decide (_ < _) = _; rw [cmp_lt]; simp [ltI]
 trans x y z h1 h2 := by
  change decide (_ < _) = _ at h1 h2 ⊢
  rw [cmp_lt] at *; simp only [ltI, Bool.or_eq_true, Bool.and_eq_true, decide_eq_true_eq] at *; omega
 ntrans x y z h1 h2 := by
  change decide (_ < _) = _ at h1 h2 ⊢
  rw [cmp_lt] at *; simp only [ltI, Bool.or_eq_false_iff, Bool.and_eq_false_iff, decide_eq_false_iff_not] at *; omega
section
variable {α : Type} {enc : α → List Value} {k : Nat}
theorem fm_len (hk : ∀ x, (enc x).length = k) : ∀ xs : List α, (xs.flatMap enc).length = xs.length * k
 | [] => by simp
 | x :: xs => by rw [List.flatMap_cons, List.length_append, hk, fm_len hk xs, List.length_cons, Nat.add_mul, Nat.one_mul, Nat.add_comm]
variable [Inhabited α]
theorem fm_get (hk : ∀ x, (enc x).length = k) : ∀ (xs : List α) (i o : Nat), i < xs.length → o < k → (xs.flatMap enc)[i * k + o]? = (enc xs[i]!)[o]?
 | x :: xs, 0, o, _, ho => by
  rw [List.flatMap_cons, List.getElem?_append_left (by rw [hk]; omega)]; simp
 | x :: xs, i + 1, o, hi, ho => by
  have ih := fm_get hk xs i o (by simpa using hi) ho; rw [List.flatMap_cons, List.getElem?_append_right (by rw [hk, Nat.add_mul]; omega), show (i + 1) * k + o - (enc x).length = i * k + o by rw [hk, Nat.add_mul]; omega, ih]; simp
theorem flatK_fm (hk : ∀ x, (enc x).length = k) (h0 : 0 < k) (xs : List α) : (flatK enc k xs.toArray).toList = xs.flatMap enc := by
 apply List.ext_getElem?
 intro j; rw [Array.getElem?_toList]; by_cases hj : j < xs.length * k
 ·have hi : j / k < xs.length := Nat.div_lt_of_lt_mul (by rw [Nat.mul_comm]; exact hj); have ho : j % k < k := Nat.mod_lt _ h0; have h := fm_get hk xs (j / k) (j % k) hi ho; rw [show j / k * k + j % k = j by rw [Nat.mul_comm]; exact Nat.div_add_mod j k] at h; have ho' : j % k < (enc xs[j / k]!).length := by rw [hk]; exact ho
  have hsz : j < (flatK enc k xs.toArray).size := by rw [size_flatK]; simpa using hj
  rw [h, List.getElem?_eq_getElem ho', Array.getElem?_eq_getElem hsz]; have := get_flatK enc k xs.toArray j (by simpa using hj); rw [getElem!_pos _ j hsz] at this; rw [this]; simp only [List.getElem!_toArray]; rw [getElem!_pos (enc xs[j / k]!) (j % k) ho']
 ·have e1 : (flatK enc k xs.toArray)[j]? = none := Array.getElem?_eq_none (by rw [size_flatK]; simpa using hj); have e2 : (xs.flatMap enc)[j]? = none := List.getElem?_eq_none (by rw [fm_len hk]; omega); rw [e1, e2]
variable {T : TypeId} {w : World} {B g n c : Nat} {xs ys : List α}
theorem holds_row (hk : ∀ x, (enc x).length = k) (h0 : 0 < k) (h : w.ownsRow B T k (.slice (some ⟨g, 0, none⟩) n c) n (xs.flatMap enc)) : HoldsK enc k w g 0 xs.toArray := by
 obtain ⟨hl, ⟨e1, _⟩ | ⟨g', cap, cur, e1, hB, hh, h1, h2, h3, h4⟩⟩ := h
 ·cases e1
 ·injection e1 with e1
  injection e1 with e1
  injection e1 with e1
  subst e1; intro j hj; rw [size_flatK] at hj; have hj' : j < xs.length * k := by simpa using hj
  have hv : (flatK enc k xs.toArray)[j]? = (xs.flatMap enc)[j]? := by rw [← Array.getElem?_toList, flatK_fm hk h0]
  have hlt : j < (xs.flatMap enc).length := by rw [fm_len hk]; exact hj'
  have hsz : j < (flatK enc k xs.toArray).size := by rw [size_flatK]; exact hj
  have hc : cur[j]? = (flatK enc k xs.toArray)[j]? := by
   rw [hv, ← h4, List.getElem?_take]; rw [if_pos (by rw [← hl]; exact hlt)]; simp
  constructor
  ·rw [Nat.zero_add]; refine cell_of_obj hh ?_; rw [hc, getElem!_pos _ j hsz, Array.getElem?_eq_getElem hsz]; rfl
  ·simp [World.frozen?, hh]
theorem sorted_row (hk : ∀ x, (enc x).length = k) (h0 : 0 < k) (h : w.ownsRow B T k (.slice (some ⟨g, 0, none⟩) n c) n (xs.flatMap enc)) (hy : ys.length = xs.length) (m : Nat) (os : Array Obj) :
  (sortWorldK enc k w g 0 m ys.toArray os).ownsRow B T k (.slice (some ⟨g, 0, none⟩) n c) n (ys.flatMap enc) ∧ Onl (fun b => b = g) w (sortWorldK enc k w g 0 m ys.toArray os) := by
 obtain ⟨hl, ⟨e1, _⟩ | ⟨g', cap, cur, e1, hB, hh, h1, h2, h3, h4⟩⟩ := h
 ·cases e1
 ·injection e1 with e1 e2 e3
  injection e1 with e1
  injection e1 with e1
  subst e1 e3; have hlt : g < w.heap.size := (Array.getElem?_eq_some_iff.1 hh).1; have hly : (ys.flatMap enc).length = n * k := by rw [fm_len hk, hy, ← fm_len hk, hl]
  constructor
  ·refine ⟨hly, .inr ⟨g, c, putCells id 0 (flatK enc k ys.toArray) cur, rfl, hB, ?_, h1, h2, ?_, ?_⟩⟩
   ·unfold sortWorldK grow putRowK putRow mapBlock Sort.ahead; simp only; rw [Array.getElem?_append_left (by simpa using hlt), Array.getElem?_modify, if_pos rfl, hh]; rfl
   ·simp [putCells, h3]
   ·apply List.ext_getElem?
    intro j; rw [List.getElem?_take, ← flatK_fm hk h0, Array.getElem?_toList, Array.getElem?_toList]; have hs : (flatK enc k ys.toArray).size = n * k := by rw [size_flatK]; simpa [fm_len hk] using hly
    by_cases hj : j < n * k
    ·have hjc : j < cur.size := by rw [h3]; exact Nat.lt_of_lt_of_le hj (Nat.mul_le_mul_right _ h1)
     have hjf : j < (flatK enc k ys.toArray).size := by rw [hs]; exact hj
     rw [if_pos hj]; simp only [putCells, Array.getElem?_mapIdx, Array.getElem?_eq_getElem hjc, Option.map_some, Array.getElem?_eq_getElem hjf]; simp [hs, hj]
    ·rw [if_neg hj, Array.getElem?_eq_none (by rw [hs]; omega)]
  ·refine ⟨rfl, rfl, rfl, by simp [sortWorldK, grow, putRowK, putRow, mapBlock, Sort.ahead], fun b hb hne => ?_⟩; unfold sortWorldK grow putRowK putRow mapBlock Sort.ahead; simp only; rw [Array.getElem?_append_left (by simpa using hb), Array.getElem?_modify, if_neg (fun e => hne e.symm)]
theorem perm_of {d d' : Array α} (h : PermIn 0 d.size d d') : d'.toList.Perm d.toList := by
 obtain ⟨h1, _, h2⟩ := h; have e1 : d'.extract 0 d.size = d' := by rw [← h1]; simp
 have e2 : d.extract 0 d.size = d := by simp
 rwa [e1, e2] at h2
theorem sorted_of {lt : α → α → Bool} {d : Array α} (h : SortedIn lt 0 d.size d) : d.toList.Pairwise (fun x y => lt y x = false) := by
 rw [List.pairwise_iff_getElem]; intro i j hi hj hij; have := h i j (Nat.zero_le _) hij (by simpa using hj); rwa [getElem!_pos _ j (by simpa using hj), getElem!_pos _ i (by simpa using hi)] at this
end
theorem hcs_len (v : Hv) : (hcs v).length = 8 := rfl
theorem hcs_one (v : Hv) : ∀ x ∈ hcs v, x.oneCell' = true := by
 intro x hx; simp [hcs] at hx; rcases hx with rfl | rfl | rfl | rfl | rfl | rfl | rfl | rfl <;> rfl
def OwnH (B : Nat) (w : World) (s : Value) (n : Nat) (U : List Hv) : Prop := w.ownsRow B 52 8 s n (U.flatMap hcs)
theorem infoHd : (Tryz.prog.info? 52).map (fun i => (i.zero, i.size, i.bytes)) = some (some (Hv.val Hv.zero), 8, 80) := by kernel_rfl
theorem own_apart {w : World} {B B' n n' size size' : Nat} {e e' : TypeId} {v v' : Value} {xs xs' : List Value} (h : w.ownsRow B e size v n xs) (h' : w.ownsRow B' e' size' v' n' xs') (hne : e ≠ e') {g : Nat} (hg : v.ownBlock = some g) : v'.ownBlock ≠ some g := fun hg' => by
 obtain ⟨c1, e1⟩ := own_type h hg; obtain ⟨c2, e2⟩ := own_type h' hg'; rw [e1] at e2; injection e2 with e2
 injection e2 with _ e2
 exact hne e2
theorem Hv.fresh.grown {B B' n : Nat} {w w' : World} {s : Value} {U : List Hv} {v : Hv} (h : v.fresh B w) (ho : OwnH B' w s n U) (hg : w.grownBy w' s.ownBlock) : v.fresh B w' :=
 ⟨owns_keep h.r fun g e => hg.block g (h.r.lt g e).2 (fun k => own_apart h.r ho (by decide) e k.symm), owns_keep h.w fun g e => hg.block g (h.w.lt g e).2 (fun k => own_apart h.w ho (by decide) e k.symm)⟩
theorem Hv.fresh.onl {B : Nat} {w w' : World} {F : Nat → Prop} {v : Hv} (h : v.fresh B w) (ho : Onl F w w') (hF : ∀ g, F g → ∃ cur, w.heap[g]? = some (.cells cur 52 (0, 0))) : v.fresh B w' := by
 refine ⟨owns_keep h.r fun g e => ho.block g (h.r.lt g e).2 (fun k => ?_), owns_keep h.w fun g e => ho.block g (h.w.lt g e).2 (fun k => ?_)⟩
 ·obtain ⟨c1, e1⟩ := own_type h.r e; obtain ⟨c2, e2⟩ := hF g k; rw [e1] at e2; injection e2 with e2; injection e2 with _ e2; revert e2; decide
 ·obtain ⟨c1, e1⟩ := own_type h.w e; obtain ⟨c2, e2⟩ := hF g k; rw [e1] at e2; injection e2 with e2; injection e2 with _ e2; revert e2; decide
theorem sortH_is {w : World} {B n : Nat} {a : Option Addr} {c : Nat} {U : List Hv} (h : OwnH B w (.slice a n c) n U) (hn : U.length = n) (hl : n < 4611686018427387904) :
  Calls Tryz.prog 77 #[.slice a n c, .func (.func 78) #[] #[]] w fun e w' => e = .returned (.tuple #[]) ∧
   ∃ U', U'.Perm U ∧ U'.Pairwise (fun x y => ltI y.h.id x.h.id = false) ∧ OwnH B w' (.slice a n c) n U' ∧ Onl (fun b => (Value.slice a n c).ownBlock = some b) w w' := by
 by_cases h0 : n = 0
 ·letI : Inhabited Hv := ⟨Hv.zero⟩
  subst h0; have e : U = [] := List.eq_nil_of_length_eq_zero hn; subst e; have hcon := AnyF.slices_SortFunc_none { Tryz.sortH with } a c (.func (.func 78) #[] #[]) w; change Calls Tryz.prog 77 _ _ _ at hcon
  refine hcon.mono ?_; rintro e w' ⟨rfl, rfl⟩; exact ⟨rfl, [], List.Perm.refl _, by simp, h, Onl.refl _ _⟩
 ·letI : Inhabited Hv := ⟨Hv.zero⟩
  obtain ⟨g, rfl, _, _⟩ := own_cells h (by omega); have hlt : g < w.heap.size := (h.lt g rfl).2; have eg : ∀ args w, (callFunc 78 args).run Tryz.prog w = .ok (.enter 78 args) w := enters_of Tryz.func78 (by kernel_rfl) rfl; have hcmp : CmpLays Tryz.prog 78 #[] hcs 8 (fun x y => cmpI x.h.id y.h.id) g 0 U.toArray.size w := fun _ _ _ _ x y => all1_is x y _
  have hcon := AnyQ.slices_SortFunc Tryz.sortH 8 Tryz.isAgg52 Tryz.sizeOf52 hcs hcs_len hcs_one (fun x y : Hv => cmpI x.h.id y.h.id) (swo_of fun x : Hv => x.h.id) 78 #[] g 0 c U.toArray w eg hcmp (holds_row hcs_len (by decide) h) hlt (by simpa [hn] using hl); change Calls Tryz.prog 77 _ _ _ at hcon
  simp only [List.size_toArray, hn] at hcon; refine hcon.mono ?_; rintro e w' ⟨rfl, d', m, os, hp, hs, rfl⟩; have hp' : PermIn 0 U.toArray.size U.toArray d' := by simpa [hn] using hp
  have hsz : d'.size = U.toArray.size := hp'.1; have hs' : SortedIn (ltOf fun x y : Hv => cmpI x.h.id y.h.id) 0 d'.size d' := by rw [hsz]; simpa [hn] using hs
  have hpm := perm_of hp'; have hso := sorted_of hs'; obtain ⟨h1, h2⟩ := sorted_row (ys := d'.toList) hcs_len (by decide) h (by simpa using hsz) m os; refine ⟨rfl, d'.toList, by simpa using hpm, ?_, by unfold OwnH; simpa using h1, ?_⟩
  ·refine hso.imp fun {x y} hxy => ?_
   rw [← cmp_lt]; exact hxy
  ·refine Onl.mono (by simpa using h2) (fun b hb => by rw [hb]; rfl)
theorem iter_ne {m : Option Nat} {r : Nat} {w : World} {ps todo : List (Ix × Hv)} (h : RngO ixv Hv.val w m r ps todo) {g : Nat} {t : TypeId} (hg : ∃ cur, w.heap[g]? = some (.cells cur t (0, 0))) : ¬ g = r := by
 rintro rfl; obtain ⟨cur, hc⟩ := hg; cases m with
 | none => have := h.2.2; rw [hc] at this; cases this
 | some b =>
  obtain ⟨es, clock, since, seen, c0, _, _, _, _, hr, _⟩ := h.at; rw [hc] at hr; cases hr
theorem allF_is {w : World} {p oo : Nat} {ty : TypeId} {m1 m2 : Option Nat} {V : List Hv} {I : It} (T : TbO w p oo ty m1 m2 V I) (hlen : V.length ≤ 1759218604441) :
  Calls Tryz.prog 39 #[.pointer (some ⟨p, oo, none⟩)] w fun e w' => ∃ (a : Option Addr) (n c : Nat) (U : List Hv), e = .returned (.slice a n c) ∧ U.length = n ∧ OwnH w.heap.size w' (.slice a n c) n U ∧ (∀ u ∈ U, u.fresh w.heap.size w' ∧ u.ok w') ∧ U.Pairwise Hv.far ∧
   (U.map Hv.h).Perm (V.map Hv.h) ∧ (U.map Hv.h).Pairwise (fun x y => ltI y.id x.id = false) ∧ Below w.heap.size w w' := by
 have c0 := T.c0; obtain ⟨o, hr, R0⟩ := T.held.range (P := Tryz.prog) Tryz.underlying68; obtain ⟨i0, hi, hz0, hz1, hz2⟩ := info_of infoHd; have RR := hid R0; have HT := hid T; clear T R0; go_enter Tryz.func39, Tryz.ntmps39
 go_wp2_with fail
 go_loopg [3, 11] V.length (fun g s3 s11 wr => ∃ (todo : List (Ix × Hv)) (U : List Hv) (a : Option Addr) (n c : Nat), g = todo.length ∧ s3 = .slice a n c ∧ Hid (U.length = n) ∧ Hid (OwnH w.heap.size wr (.slice a n c) n U) ∧ Hid (∀ u ∈ U, u.fresh w.heap.size wr ∧ u.h.rs.length + 1 ≤ 4398046511104 ∧ u.h.ws.length + 1 ≤ 3518437208883) ∧
  Hid (U.Pairwise Hv.far) ∧ Hid ((U.map Hv.h ++ todo.map fun q => q.2.h).Perm (V.map Hv.h)) ∧ Hid (RngO ixv Hv.val wr m1 w.heap.size (prs V) todo) ∧ Hid (Below w.heap.size w wr))
 case atStart =>
  refine ⟨prs V, [], none, 0, 0, by simp, rfl, rfl, ⟨rfl, .inl ⟨rfl, rfl⟩⟩, fun u hu => by simp at hu, List.Pairwise.nil, ?_, RR, Below.al (Below.refl _ _) _⟩; show List.Perm _ _
  simp [prs, List.map_map, Function.comp_def]
 case round =>
  obtain ⟨todo, U, a, n, c, rfl, rfl, HN, HO, HF, HFA, HP, HG, HB⟩ := hrel; clear hr c0 RR; rcases HG.out.next Tryz.prog with ⟨rfl, hn⟩ | ⟨⟨j, v⟩, todo', w1, hpm, hpI, hn, R1, hen, hon, hsz⟩
  ·have hnl : n < 4611686018427387904 := by
    have h1 := HP.out.length_eq; have h2 := HN.out; simp at h1; omega
   have SO := hid (sortH_is HO.out HN.out hnl); have HBR := HB; go_wp2_with fail
   refine SO.out.mono ?_; rintro e w2 ⟨rfl, U', hpU, hsU, hoU, honl⟩; have hB2 : Below w.heap.size w w2 := HB.out.trans (honl.below (B := w.heap.size) (fun b hb => (HO.out.lt b hb).1) HB.out.size); have hfr : ∀ u ∈ U', u.fresh w.heap.size w2 ∧ u.ok w2 := fun u hu => by
    obtain ⟨f1, f2, f3⟩ := HF.out u (hpU.mem_iff.1 hu); have := f1.onl honl (fun g hg => own_type HO.out hg); exact ⟨this, this.ok f2 f3⟩
   have HFin : Hid (U'.length = n ∧ OwnH w.heap.size w2 (.slice a n c) n U' ∧ (∀ u ∈ U', u.fresh w.heap.size w2 ∧ u.ok w2) ∧ U'.Pairwise Hv.far ∧ (U'.map Hv.h).Perm (V.map Hv.h) ∧ (U'.map Hv.h).Pairwise (fun x y => ltI y.id x.id = false) ∧ Below w.heap.size w w2) := by
    refine ⟨by rw [hpU.length_eq]; exact HN.out, hoU, hfr, (hpU.pairwise_iff (fun {x y} h => Hv.far.symm h)).2 HFA.out, (hpU.map _).trans (by simpa using HP.out), ?_, hB2⟩; rw [List.pairwise_map]; exact hsU
   clear hpU hsU hoU honl hB2 hfr; go_wp2_with fail
   go_ret
   exact ⟨a, n, c, U', rfl, HFin.out⟩
  ·obtain ⟨v', hv', ev'⟩ := List.mem_map.1 hpI; injection ev' with ev1 ev2
   subst ev2; subst ev1; have hb1 : Below w.heap.size w w1 := (HB.out.trans (hon.below (B := w.heap.size) (fun k hk => by omega) (HB.out.size))); have hvo : v'.ok w1 := (HT.out.rows v' hv').later hb1; have hO1 : OwnH w.heap.size w1 (.slice a n c) n U := owns_keep HO.out fun g hg => hon.block g (HO.out.lt g hg).2 (iter_ne HG.out (own_type HO.out hg))
   have hpl : todo'.length + 1 = todo.length := by have := hpm.length_eq; simpa using this.symm
   have hnb : n + 1 ≤ 1759218604441 := by
    have h1 := HP.out.length_eq; have h2 := HN.out; simp at h1; omega
   have HPM := hid hpm; have HR1 := hid R1; have HB1 := hid hb1; have HV := hid hvo; have HO1 := hid hO1; have HF1 : Hid (∀ u ∈ U, u.fresh w.heap.size w1 ∧ u.h.rs.length + 1 ≤ 4398046511104 ∧ u.h.ws.length + 1 ≤ 3518437208883) := fun u hu => by
    obtain ⟨f1, f2⟩ := HF.out u hu; refine ⟨⟨owns_keep f1.r fun g hg => hon.block g (f1.r.lt g hg).2 ?_, owns_keep f1.w fun g hg => hon.block g (f1.w.lt g hg).2 ?_⟩, f2⟩
    ·exact iter_ne HG.out (own_type f1.r hg)
    ·exact iter_ne HG.out (own_type f1.w hg)
   have HRL : Hid (v'.h.rs.length + 1 ≤ 4398046511104 ∧ v'.h.ws.length + 1 ≤ 3518437208883) := ⟨hvo.rl, hvo.wl⟩; have HID : Hid (v'.h = v'.h) := rfl; obtain ⟨w3, hw3⟩ : ∃ w3, w3 = w1.alloc (.cells #[.int .u32 v'.h.id.1, .int .u32 v'.h.id.2, .int .u32 v'.h.home, .int .u64 v'.h.w, .int .u32 v'.h.l, .int .u32 v'.h.n, .slice v'.ra v'.h.rs.length v'.rc, .slice v'.wa v'.h.ws.length v'.wc] 52) := ⟨_, rfl⟩; have hb3 : Below w1.heap.size w1 w3 := by rw [hw3]; exact Below.al (Below.refl _ _) _
   have OW : Hid (Calls Tryz.prog 76 #[.agg #[.int .u32 v'.h.id.1, .int .u32 v'.h.id.2, .int .u32 v'.h.home, .int .u64 v'.h.w, .int .u32 v'.h.l, .int .u32 v'.h.n, .slice v'.ra v'.h.rs.length v'.rc, .slice v'.wa v'.h.ws.length v'.wc]] w3 fun e w' => ∃ u : Hv, e = .returned (.agg #[.int .u32 u.h.id.1, .int .u32 u.h.id.2, .int .u32 u.h.home, .int .u64 u.h.w, .int .u32 u.h.l, .int .u32 u.h.n, .slice u.ra u.h.rs.length u.rc, .slice u.wa u.h.ws.length u.wc]) ∧ Hid (u.h = v'.h) ∧ Hid (u.fresh w3.heap.size w') ∧ Below w3.heap.size w3 w') :=
    (own_is (hvo.later hb3)).mono fun e w' ⟨u, h1, h2, h3, h4⟩ => ⟨u, h1, h2, h3, h4⟩
   have HB3 := hid hb3; have hsz3 : w.heap.size ≤ w3.heap.size := Nat.le_trans hb1.size hb3.size; simp only [Hv.val, ixv] at hn hen; clear R1 hb1 hvo hO1 hpm hpI hon HG HB HO HF hb3 hsz; go_wp2_with fail
   rw [← hw3]; refine OW.out.mono ?_; rintro e w4 ⟨u, rfl, HUH, HUF, hb4⟩; obtain ⟨w5, hw5⟩ : ∃ w5, w5 = w4.alloc (.cells #[.int .u32 u.h.id.1, .int .u32 u.h.id.2, .int .u32 u.h.home, .int .u64 u.h.w, .int .u32 u.h.l, .int .u32 u.h.n, .slice u.ra u.h.rs.length u.rc, .slice u.wa u.h.ws.length u.wc] 52) := ⟨_, rfl⟩; have hb5 : Below w4.heap.size w4 w5 := by rw [hw5]; exact Below.al (Below.refl _ _) _
   have hb15 : Below w1.heap.size w1 w5 := Below.on (Below.on HB3.out hb4) hb5; have hO5 : OwnH w.heap.size w5 (.slice a n c) n U := owns_keep HO1.out fun g hg => hb15.block g (HO1.out.lt g hg).2
   have blk5 : w5.heap[w4.heap.size]? = some (.cells (hcs u).toArray 52) := by rw [hw5]; exact (MapKept.heap_alloc _ _).1
   have hcl : ∀ j x, (hcs u)[j]? = some x → w5.cell? ((⟨w4.heap.size, 0, none⟩ : Addr).add j) = some x := fun j x hj => by
    rw [Addr.add_lit, Nat.zero_add]; exact cell_of_obj blk5 (by simpa using hj)
   have HO5 := hid hO5; have HCL := hid hcl; have HB15 := hid hb15; have HW4 := hid hb4; have HW5 := hid hb5; have hs5 : w.heap.size ≤ w5.heap.size := Nat.le_trans hsz3 (Nat.le_trans hb4.size hb5.size); clear hO5 hcl hb15 blk5 OW hb4 hb5; go_wp2_with (at_builtin; refine wpList_append_own _ rfl _ _ 47 rfl w.heap.size 52 i0 (Hv.val Hv.zero) 8 80 Tryz.underlying47 hi hz0 hz1 hz2 rfl (by decide) (.slice a n c) n (U.flatMap hcs) rfl (by rw [← hw5]; exact HO5.out) ⟨w4.heap.size, 0, none⟩ 1 1 (hcs u) rfl rfl (by rw [← hw5]; exact HCL.out) (hcs_one u) (by unfold maxLen; omega) (by omega) (by rw [← hw5]; exact hs5) ?_)
   intro v2 w6 hown hgrow hnil; rw [← hw5] at hgrow; obtain ⟨a2, c2, rfl⟩ := owns_slice hown; have hB6 : Below w.heap.size w w6 := Below.grown (Below.on HB1.out HB15.out) hgrow (by exact hs5) (fun k hk => (HO5.out.lt k hk).1); have hnot : ∀ b, (∀ cs t z, w5.heap[b]? ≠ some (.cells cs t z)) → b < w5.heap.size → w6.heap[b]? = w5.heap[b]? := fun b h1 h2 => hgrow.block b h2 (fun e => by
    obtain ⟨cur, hc⟩ := own_type HO5.out e.symm; exact h1 _ _ _ hc)
   have R5 := HR1.out.later HB15.out; have R6 : RngO ixv Hv.val w6 m1 w.heap.size (prs V) todo' := by
    refine R5.same (fun b e => ?_) ?_
    ·subst e; refine hnot b ?_ (R5.lt.2 b rfl); intro cs t z hc; obtain ⟨es, clock, _, _, _, hb, _⟩ := R5.at; rw [hc] at hb; cases hb
    ·refine hnot _ ?_ R5.lt.1; intro cs t z hc; cases m1 with
     | none => have := R5.2.2; rw [hc] at this; cases this
     | some b =>
      obtain ⟨es, clock, since, seen, c0, _, _, _, _, hr, _⟩ := R5.at; rw [hc] at hr; cases hr
   have F6 : ∀ x ∈ U ++ [u], x.fresh w.heap.size w6 ∧ x.h.rs.length + 1 ≤ 4398046511104 ∧ x.h.ws.length + 1 ≤ 3518437208883 := fun x hx => by
    rcases List.mem_append.1 hx with hx | hx
    ·obtain ⟨f1, f2⟩ := HF1.out x hx; exact ⟨(f1.later HB15.out).grown HO5.out hgrow, f2⟩
    ·simp at hx; subst hx
     refine ⟨?_, by rw [HUH.out]; exact HRL.out⟩; have := (HUF.out.later HW5.out).grown HO5.out hgrow; exact ⟨owns_base this.r hsz3, owns_base this.w hsz3⟩
   have FA6 : (U ++ [u]).Pairwise Hv.far := List.pairwise_append.2 ⟨HFA.out, List.pairwise_singleton _ _, fun x hx y hy => by
    simp at hy; subst hy; obtain ⟨f1, _⟩ := HF1.out x hx; exact Hv.far_of f1 HUF.out HB3.out.size⟩
   have P6 : ((U ++ [u]).map Hv.h ++ todo'.map fun q => q.2.h).Perm (V.map Hv.h) := by
    refine List.Perm.trans ?_ HP.out; rw [List.map_append, List.append_assoc]; refine List.Perm.append_left _ ?_; have := (HPM.out.map (fun q : Ix × Hv => q.2.h)).symm; simpa [HUH.out] using this
   have HFin : Hid (((U ++ [u]).length = n + 1) ∧ OwnH w.heap.size w6 (.slice a2 (n + 1) c2) (n + 1) (U ++ [u]) ∧ (∀ x ∈ U ++ [u], x.fresh w.heap.size w6 ∧ x.h.rs.length + 1 ≤ 4398046511104 ∧ x.h.ws.length + 1 ≤ 3518437208883) ∧ (U ++ [u]).Pairwise Hv.far ∧ ((U ++ [u]).map Hv.h ++ todo'.map fun q => q.2.h).Perm (V.map Hv.h) ∧ RngO ixv Hv.val w6 m1 w.heap.size (prs V) todo' ∧ Below w.heap.size w w6) := by
    refine ⟨by rw [List.length_append, HN.out]; rfl, ?_, F6, FA6, P6, R6, hB6⟩; unfold OwnH; rw [List.flatMap_append]; simpa using hown
   clear hown hgrow hnil hB6 hnot R5 R6 F6 P6 FA6; go_wp2_with fail
   go_roundg todo'.length
   case measure => omega
   case rel =>
    obtain ⟨h1, h2, h3, h7, h4, h5, h6⟩ := HFin.out; exact ⟨todo', U ++ [u], a2, n + 1, c2, rfl, rfl, h1, h2, h3, h7, h4, h5, h6⟩
theorem all_is {w : World} {p oo : Nat} {ty : TypeId} {m1 m2 : Option Nat} {V : List Hv} {I : It} (T : TbO w p oo ty m1 m2 V I) (hlen : V.length ≤ 1759218604441) :
  Calls Tryz.prog 39 #[.pointer (some ⟨p, oo, none⟩)] w fun e w' => ∃ (a : Option Addr) (n c : Nat) (U : List Hv), e = .returned (.slice a n c) ∧ U.length = n ∧ OwnH w.heap.size w' (.slice a n c) n U ∧ (∀ u ∈ U, u.fresh w.heap.size w' ∧ u.ok w') ∧
   (U.map Hv.h).Perm (V.map Hv.h) ∧ (U.map Hv.h).Pairwise (fun x y => ltI y.id x.id = false) ∧ Below w.heap.size w w' :=
 (allF_is T hlen).mono fun e w' ⟨a, n, c, U, h1, h2, h3, h4, _, h5⟩ => ⟨a, n, c, U, h1, h2, h3, h4, h5⟩
end Go.Proofs.YtneojeidpfjpbaaGreatDoor.Lk
namespace Go.Proofs.YtneojeidpfjpbaaGreatDoor.Lg
open Go.RowKit Go.Sort Go.Shelf Go.Lib Lk
theorem swo_T {α : Type} (f : α → Ix) : SWO (ltOf fun x y => cmpT (f x) (f y)) where
 irrefl x := by show decide (_ < _) = _; rw [cmp_lt]; simp [ltI]
 trans x y z h1 h2 := by
  change decide (_ < _) = _ at h1 h2 ⊢
  rw [cmp_lt] at *; simp only [ltI, Bool.or_eq_true, Bool.and_eq_true, decide_eq_true_eq] at *; omega
 ntrans x y z h1 h2 := by
  change decide (_ < _) = _ at h1 h2 ⊢
  rw [cmp_lt] at *; simp only [ltI, Bool.or_eq_false_iff, Bool.and_eq_false_iff, decide_eq_false_iff_not] at *; omega
theorem enCmp (f : Nat) (cf : En → En → Int) (hc : ∀ (x y : En) (W : World), Calls Tryz.prog f #[x.val, y.val] W fun e w' => e = .returned (.int .i64 (cf x y)) ∧ ∃ q os, w' = grow (W.drewN q) os) {w : World} {B n : Nat} {a : Option Addr} {c : Nat} {U : List En} (swo : SWO (ltOf cf))
  (eg : ∀ args w, (callFunc f args).run Tryz.prog w = .ok (.enter f args) w) (h : OwnL B w (.slice a n c) n U) (hn : U.length = n) (hl : n < 4611686018427387904) :
  Calls Tryz.prog 154 #[.slice a n c, .func (.func f) #[] #[]] w fun e w' => e = .returned (.tuple #[]) ∧
   ∃ U', U'.Perm U ∧ U'.Pairwise (fun x y => decide (cf y x < 0) = false) ∧ OwnL B w' (.slice a n c) n U' ∧ Onl (fun b => (Value.slice a n c).ownBlock = some b) w w' := by
 by_cases h0 : n = 0
 ·letI : Inhabited En := ⟨En.zero⟩
  subst h0; have e : U = [] := List.eq_nil_of_length_eq_zero hn; subst e; have hcon := AnyF.slices_SortFunc_none { Tryz.sortE with } a c (.func (.func f) #[] #[]) w; change Calls Tryz.prog 154 _ _ _ at hcon
  refine hcon.mono ?_; rintro e w' ⟨rfl, rfl⟩; exact ⟨rfl, [], List.Perm.refl _, by simp, h, Onl.refl _ _⟩
 ·letI : Inhabited En := ⟨En.zero⟩
  obtain ⟨g, rfl, _, _⟩ := own_cells h (by omega); have hlt : g < w.heap.size := (h.lt g rfl).2; have hcmp : CmpLays Tryz.prog f #[] ecs 7 cf g 0 U.toArray.size w := fun _ _ _ _ x y => hc x y _
  have hcon := AnyQ.slices_SortFunc Tryz.sortE 7 Tryz.isAgg91 Tryz.sizeOf91 ecs ecs_len ecs_one cf swo f #[] g 0 c U.toArray w eg hcmp (holds_row ecs_len (by decide) h) hlt (by simpa [hn] using hl); change Calls Tryz.prog 154 _ _ _ at hcon
  simp only [List.size_toArray, hn] at hcon; refine hcon.mono ?_; rintro e w' ⟨rfl, d', m, os, hp, hs, rfl⟩; have hp' : PermIn 0 U.toArray.size U.toArray d' := by simpa [hn] using hp
  have hsz : d'.size = U.toArray.size := hp'.1; have hs' : SortedIn (ltOf cf) 0 d'.size d' := by rw [hsz]; simpa [hn] using hs
  have hpm := perm_of hp'; have hso := sorted_of hs'; obtain ⟨h1, h2⟩ := sorted_row (ys := d'.toList) ecs_len (by decide) h (by simpa using hsz) m os; refine ⟨rfl, d'.toList, by simpa using hpm, hso.imp fun {x y} hxy => hxy, by unfold OwnL; simpa using h1, ?_⟩; exact Onl.mono (by simpa using h2) (fun b hb => by rw [hb]; rfl)
theorem sortT_is {w : World} {B n : Nat} {a : Option Addr} {c : Nat} {U : List En} (h : OwnL B w (.slice a n c) n U) (hn : U.length = n) (hl : n < 4611686018427387904) :
  Calls Tryz.prog 154 #[.slice a n c, .func (.func 110) #[] #[]] w fun e w' => e = .returned (.tuple #[]) ∧
   ∃ U', U'.Perm U ∧ U'.Pairwise (fun x y => ltI y.id x.id = false) ∧ OwnL B w' (.slice a n c) n U' ∧ Onl (fun b => (Value.slice a n c).ownBlock = some b) w w' :=
 (enCmp 110 (fun x y => cmpT x.id y.id) (fun x y W => byTxn_is x y W) (swo_T fun x : En => x.id) (enters_of Tryz.func110 (by kernel_rfl) rfl) h hn hl).mono fun e w' ⟨h1, U', h2, h3, h4, h5⟩ => ⟨h1, U', h2, h3.imp fun {x y} k => by rw [← cmp_lt]; exact k, h4, h5⟩
attribute [local go_sem] Oper.semAt_some
abbrev VALUES : Nat := 109
abbrev VALUES1 : Nat := 155
theorem rng_walks {m : Option Nat} {r : Nat} {w w' : World} {ps todo : List (Ix × En)} (h : RngO ixv En.val w m r ps todo) (hk : KeepsWalks w w') : RngO ixv En.val w' m r ps todo := by
 refine h.same (fun b e => ?_) ?_
 ·subst e; obtain ⟨es, clock, _, _, _, hb, _⟩ := h.at; rw [hb]; exact hk.same b _ hb rfl
 ·cases m with
  | none => rw [h.2.2]; exact hk.same r _ h.2.2 rfl
  | some b =>
   obtain ⟨es, clock, since, seen, c0, _, _, _, _, hr, _⟩ := h.at; rw [hr]; exact hk.same r _ hr rfl
theorem rng_iter {m : Option Nat} {r : Nat} {w : World} {ps todo : List (Ix × En)} (h : RngO ixv En.val w m r ps todo) : ∃ o : Obj, w.heap[r]? = some o ∧ o.isWalk = true := by
 cases m with
 | none => exact ⟨_, h.2.2, rfl⟩
 | some b =>
  obtain ⟨es, clock, since, seen, c0, _, _, _, _, hr, _⟩ := h.at; exact ⟨_, hr, rfl⟩
theorem onl_grown {w w' : World} {r : Nat} (h : Onl (fun b => b = r) w w') : w.grownBy w' (some r) := ⟨h.os, h.tape, h.output, h.size, fun k hk hn => h.block k hk (fun e => hn (by rw [e]))⟩
theorem below_grown {w w' : World} (h : Below w.heap.size w w') : w.grownBy w' none := ⟨h.os, h.tape, h.output, h.size, fun k hk _ => h.block k hk⟩
set_option maxRecDepth 100000 in
theorem values1_in (n : Nat) (hn : 1 ≤ n) (l Bm : Nat) (m : Option Nat) (M : List En) (J Jx : List En → World → Prop)
  (hY : ∀ pre x W, J pre W → pre.length < M.length → YieldAt Fence.wide (n - 1) Tryz.prog l #[.agg #[.int .u32 x.id.1, .int .u32 x.id.2, .int .u32 x.home, .int .i64 x.oc, .int .u64 x.w, .int .u32 x.l, .int .u32 x.n]] W fun e W' => (e = .returned (.bool true) ∧ J (pre ++ [x]) W' ∧ KeepsWalks W W') ∨ (e = .returned (.bool false) ∧ Jx (pre ++ [x]) W'))
  (W : World) (hJ : AbidesFrom W.heap.size J) (hm : W.cell? ⟨Bm, 0, none⟩ = some (.map m)) (hM : MapO ixv En.val W m (prsE M)) (h0 : J [] W) :
  CallsIn Fence.wide n Tryz.prog VALUES1 #[.func (.yield l) #[] #[], .pointer (some ⟨Bm, 0, none⟩)] W fun e W' => (∃ v, e = .returned v) ∧ ((∃ xs, xs.Perm M ∧ J xs W') ∨ (∃ pre, True ∧ Jx pre W')) := by
 obtain ⟨o, hr, R0⟩ := hM.range (P := Tryz.prog) Tryz.underlying72; have RR := hid R0; have HY := hid hY; have HJ := hid hJ; have H0 := hid h0; clear R0 hY hJ h0 hM; refine callsIn_of_wp Tryz.func155 rfl trivial ?_ rfl; simp only [Tryz.ntmps155, List.size_toArray, List.length_cons, List.length_nil, Nat.reduceAdd, Nat.reduceSub, Array.replicate_succ, Array.replicate_zero, List.push_toArray, List.append_toArray, List.nil_append, List.cons_append]; gi_wp2
 gi_loopg [4] M.length (fun g s4 wr => ∃ (todo : List (Ix × En)) (xs : List En), g = todo.length ∧ Hid ((xs ++ todo.map (·.2)).Perm M) ∧ Hid (RngO ixv En.val wr m W.heap.size (prsE M) todo) ∧ Hid (J xs wr))
 case atStart =>
  refine ⟨prsE M, [], by simp, hid (by simp [prsE, List.map_map, Function.comp_def]), RR, HJ.out [] W _ none H0.out (below_grown (Below.al (Below.refl _ _) _)) (fun r e => by cases e)⟩
 case round =>
  obtain ⟨todo, xs, rfl, HP, HG, HJs⟩ := hrel; clear hr RR; rcases HG.out.next Tryz.prog with ⟨rfl, hn'⟩ | ⟨⟨j, v⟩, todo', w1, hpm, hpI, hn', R1, hen, hon, hsz⟩
  ·gi_wp2
   first | go_end0 | refine bodyPost_ret (results_none rfl _ _ _) rfl ?_
   exact ⟨⟨_, rfl⟩, .inl ⟨xs, by simpa using HP.out, HJs.out⟩⟩
  ·have hpl : todo'.length + 1 = todo.length := by have := hpm.length_eq; simpa using this.symm
   have hJ1 : J xs w1 := HJ.out xs wr w1 (some W.heap.size) HJs.out (onl_grown hon) (fun r e => by cases e; exact ⟨Nat.le_refl _, rng_iter HG.out⟩); have hJ2 : J xs (w1.alloc (.cells #[.int .u32 v.id.1, .int .u32 v.id.2, .int .u32 v.home, .int .i64 v.oc, .int .u64 v.w, .int .u32 v.l, .int .u32 v.n] 91)) := HJ.out xs w1 _ none hJ1 (below_grown (Below.al (Below.refl _ _) _)) (fun r e => by cases e); have hlt : xs.length < M.length := by
    have := HP.out.length_eq; simp at this; omega
   obtain ⟨fn, tmps, assign, body, hy, hR⟩ := HY.out xs v _ hJ2 hlt; have HP2 : Hid ((xs ++ [v] ++ todo'.map (·.2)).Perm M) := by
    refine hid (List.Perm.trans ?_ HP.out); rw [List.append_assoc]; refine List.Perm.append_left _ ?_; have := (hpm.map (·.2)).symm; simpa using this
   have HR2 : Hid (RngO ixv En.val (w1.alloc (.cells #[.int .u32 v.id.1, .int .u32 v.id.2, .int .u32 v.home, .int .i64 v.oc, .int .u64 v.w, .int .u32 v.l, .int .u32 v.n] 91)) m W.heap.size (prsE M) todo') := R1.later (Below.al (Below.refl _ _) _); simp only [En.val, ixv] at hn' hen; clear R1 hpm hpI hon hJ1 hJ2 HG HJs hsz; gi_wp2
   refine hR.mono ?_; rintro e W3 (⟨rfl, hJ3, hk3⟩ | ⟨rfl, hJx3⟩)
   ·have HK3 := hid (rng_walks HR2.out hk3); have HJ3 := hid hJ3; clear hJ3 hk3; gi_wp2
    gi_roundg todo'.length
    case measure => omega
    case rel => exact ⟨todo', xs ++ [v], rfl, HP2, HK3, HJ3⟩
   ·have HX3 := hid hJx3; clear hJx3; gi_wp2
    first | go_end0 | refine bodyPost_ret (results_none rfl _ _ _) rfl ?_
    exact ⟨⟨_, rfl⟩, .inr ⟨xs ++ [v], trivial, HX3.out⟩⟩
theorem values_is (m : Option Nat) (w : World) : Calls Tryz.prog VALUES #[.map m] w fun e w' => e = .returned (.func (.func VALUES1) #[] #[.pointer (some ⟨w.heap.size, 0, none⟩)]) ∧ w' = w.alloc (.cells #[.map m] 72) := by
 go_enter Tryz.func109, Tryz.ntmps109
 go_wp2_with fail
 go_ret
 exact ⟨rfl, rfl⟩
theorem values_stops (n : Nat) (hn : 1 ≤ n) (Bm : Nat) (m : Option Nat) (M : List En) (w : World) (hm : w.cell? ⟨Bm, 0, none⟩ = some (.map m)) (hM : MapO ixv En.val w m (prsE M)) :
  SeqStopsK Fence.wide n Tryz.prog VALUES1 #[.pointer (some ⟨Bm, 0, none⟩)] (fun x : En => #[.agg #[.int .u32 x.id.1, .int .u32 x.id.2, .int .u32 x.home, .int .i64 x.oc, .int .u64 x.w, .int .u32 x.l, .int .u32 x.n]]) KeepsWalks (fun xs => xs.Perm M) (fun _ => True) M.length w := fun l J Jx W hW hJ _ hY h0 =>
 values1_in n hn l Bm m M J Jx hY W hJ (cell_later hW hm) (hM.later hW) h0
end Go.Proofs.YtneojeidpfjpbaaGreatDoor.Lg
