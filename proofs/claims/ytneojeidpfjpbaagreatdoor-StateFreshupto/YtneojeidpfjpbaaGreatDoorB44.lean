import Derived.Test.YtneojeidpfjpbaaGreatDoorB43
import Derived.Lib.SlicesCompact
import Derived.Lib.SliceRun
set_option linter.unusedVariables false
set_option maxHeartbeats 4000000
namespace Go.Proofs.YtneojeidpfjpbaaGreatDoor.Lk
open Go.RowKit Go.Sort Go.Lib
abbrev ics (i : Ix) : List Value := [.int .u32 i.1, .int .u32 i.2]
abbrev RowI (w : World) (a : Option Addr) (xs : List Ix) : Prop := RowC ((0, 0) : Ix) ics 2 w a xs
def OwnI (B : Nat) (w : World) (s : Value) (n : Nat) (xs : List Ix) : Prop := w.ownsRow B 38 2 s n (xs.flatMap ics)
def CellI (w : World) (g : Nat) (f : Nat → Ix) (n : Nat) : Prop := ∀ i, i < n → w.cell? ⟨g, i * 2, none⟩ = some (.int .u32 (f i).1) ∧ w.cell? ⟨g, i * 2 + 1, none⟩ = some (.int .u32 (f i).2)
abbrev setI (w : World) (g k : Nat) (y : Ix) : World := (w.setCell ⟨g, k * 2, none⟩ (.int .u32 y.1)).setCell ⟨g, k * 2 + 1, none⟩ (.int .u32 y.2)
theorem CellI.put {w : World} {g n k : Nat} {f : Nat → Ix} (h : CellI w g f n) (y : Ix) : CellI (setI w g k y) g (put f k y) n := by
 intro i hi; by_cases e : i = k
 ·subst e; rw [put_same]; refine ⟨cell_setc (by simp) (World.cell?_setCell_same _ _ _ (h i hi).1), World.cell?_setCell_same _ _ _ (cell_setc (by simp) (h i hi).2)⟩
 ·rw [put_other _ _ e]; exact ⟨cell_setc (by simp only [ne_eq, Addr.mk.injEq]; omega) (cell_setc (by simp only [ne_eq, Addr.mk.injEq]; omega) (h i hi).1), cell_setc (by simp only [ne_eq, Addr.mk.injEq]; omega) (cell_setc (by simp only [ne_eq, Addr.mk.injEq]; omega) (h i hi).2)⟩
theorem CellI.congr {w : World} {g n : Nat} {f f' : Nat → Ix} (h : CellI w g f n) (e : ∀ i, i < n → f i = f' i) : CellI w g f' n := fun i hi => by rw [← e i hi]; exact h i hi
theorem CellI.later {w w' : World} {g n : Nat} {f : Nat → Ix} (h : CellI w g f n) (hb : Below w.heap.size w w') : CellI w' g f n := fun i hi => ⟨cell_later hb (h i hi).1, cell_later hb (h i hi).2⟩
theorem onl_setI (w : World) (g k : Nat) (y : Ix) : Onl (fun b => b = g) w (setI w g k y) := ((Onl.refl (fun b => b = g) w).set (p := g) rfl _ _).set (p := g) rfl _ _
theorem put_arr {d : Array Ix} {k : Nat} {y : Ix} (hk : k < d.size) (j : Nat) : put (fun j => d[j]!) k y j = (d.setIfInBounds k y)[j]! := by
 by_cases e : j = k
 ·subst e; rw [put_same, getElem!_set_same d j y hk]
 ·rw [put_other _ _ e, getElem!_set_other d k j y e]
theorem ownI_cells {B n : Nat} {w : World} {a : Option Addr} {c : Nat} {xs : List Ix} (h : OwnI B w (.slice a n c) n xs) (hn : xs.length = n) (h0 : 0 < n) : ∃ g, a = some ⟨g, 0, none⟩ ∧ B ≤ g ∧ g < w.heap.size ∧ Loose w g ∧ n ≤ c ∧ c ≤ maxLen ∧ CellI w g (fun j => xs.toArray[j]!) n := by
 obtain ⟨g, rfl, hB, hc⟩ := own_cells h h0; have hlt : g < w.heap.size := (h.lt g rfl).2; obtain ⟨cur, hcur⟩ := own_type h (g := g) rfl; refine ⟨g, rfl, hB, hlt, fun o => by simp [World.frozen?, hcur], ?_, ?_, fun i hi => ?_⟩
 ·obtain ⟨_, ⟨e1, _⟩ | ⟨g', cap, cur', e1, _, _, h1, h2, _⟩⟩ := h
  ·cases e1
  ·injection e1 with _ _ e1; omega
 ·obtain ⟨_, ⟨e1, _⟩ | ⟨g', cap, cur', e1, _, _, h1, h2, _⟩⟩ := h
  ·cases e1
  ·injection e1 with _ _ e1; omega
 ·have e : xs.toArray[i]! = xs[i]! := by simp [getElem!_def]
  have h0 := fm_get (enc := ics) (k := 2) (fun _ => rfl) xs i 0 (by omega) (by decide); have h1 := fm_get (enc := ics) (k := 2) (fun _ => rfl) xs i 1 (by omega) (by decide); simp only [e]; exact ⟨hc _ _ h0, hc _ _ h1⟩
theorem run_clearI (w : World) (ty : TypeId) (g k n c : Nat) (hk : k < n) (hc : ∀ j, j < (n - k) * 2 → (w.cell? ⟨g, k * 2 + j, none⟩).isSome = true) (hf : Loose w g) :
  (Builtin.clear_ #[114] ty #[.slice (some ⟨g, k * 2, none⟩) (n - k) c]).run Tryz.prog w = .ok (.tuple #[]) (w.setCells g (k * 2) (List.replicate ((n - k) * 2) (.int .u32 0))) := by
 obtain ⟨m, hm⟩ : ∃ m, n - k = m + 1 := ⟨n - k - 1, by omega⟩; have hzc : (Builtin.zeroCells (Value.agg #[.int .u32 0, .int .u32 0]).cells (m + 1)).toList = List.replicate ((m + 1) * 2) (.int .u32 0) := by
  simp only [Value.cells, Builtin.zeroCells]; apply List.ext_getElem
  ·simp
  ·intro i h1 h2; simp only [List.getElem_replicate]; have : i % 2 = 0 ∨ i % 2 = 1 := by omega
   rcases this with e | e <;> simp [e]
 have hst := run_storeCells_cells (P := Tryz.prog) g (k * 2) (List.replicate ((m + 1) * 2) (.int .u32 0)) 0 w (by rw [← hm]; simpa using hc) (by intro j _; exact hf _) (by intro v hv'; rw [List.eq_of_mem_replicate hv']; rfl); simp only [Nat.add_zero] at hst; rw [hm]; simp [Builtin.clear_, run_underlying Tryz.underlying114, hzc, hst]
theorem onl_setCells (g : Nat) : ∀ (vs : List Value) (o : Nat) (w : World), Onl (fun b => b = g) w (w.setCells g o vs)
 | [], _, w => Onl.refl _ _
 | v :: r, o, w => ((Onl.refl (fun b => b = g) w).set (p := g) rfl _ _).trans (onl_setCells g r (o + 1) _)
theorem rowI_of {w : World} {g n : Nat} {f : Nat → Ix} {ys : List Ix} (h : CellI w g f n) (hl : ys.length ≤ n) (e : ∀ j, j < ys.length → ys[j]? = some (f j)) : RowI w (some ⟨g, 0, none⟩) ys := fun i hi => by
 refine ⟨g, 0, rfl, fun o u ho => ?_⟩; rw [e i hi] at ho; obtain ⟨h0, h1⟩ := h i (by omega); match o, ho with
 | 0, ho => simp at ho; subst ho; simpa using h0
 | 1, ho => simp at ho; subst ho; simpa using h1
 | o + 2, ho => simp at ho
theorem own_lie {B n g c : Nat} {w : World} {xs : List Ix} (h : OwnI B w (.slice (some ⟨g, 0, none⟩) n c) n xs) : Lie w g 38 (c * 2) := by
 obtain ⟨_, ⟨e1, _⟩ | ⟨g', cap, cur, e1, _, hh, _, _, h3, _⟩⟩ := h
 ·cases e1
 ·injection e1 with e1 _ e2
  injection e1 with e1
  injection e1 with e1 _ _
  subst e1 e2; exact ⟨cur, hh, h3⟩
theorem ownI_of {B g m c : Nat} {w : World} {D : List Ix} (hB : B ≤ g) (hl : Lie w g 38 (c * 2)) (hr : RowI w (some ⟨g, 0, none⟩) D) (hm : D.length = m) (hmc : m ≤ c) (hc : c ≤ maxLen) : OwnI B w (.slice (some ⟨g, 0, none⟩) m c) m D := by
 obtain ⟨cur, hh, hs⟩ := hl; subst hm; have hfl : (D.flatMap ics).length = D.length * 2 := by
  induction D with
  | nil => rfl
  | cons a D ih =>
   have : ∀ D : List Ix, (D.flatMap ics).length = D.length * 2 := fun D => by
    induction D with
    | nil => rfl
    | cons a D ih => rw [List.flatMap_cons, List.length_append, ih, List.length_cons]; simp; omega
   exact this _
 refine ⟨hfl, .inr ⟨g, c, cur, rfl, hB, hh, hmc, hc, hs, ?_⟩⟩; apply List.ext_getElem?
 intro j; rw [List.getElem?_take]; by_cases hj : j < D.length * 2
 ·rw [if_pos hj]; have hjd : j / 2 < D.length := by omega
  obtain ⟨b', off', e, hc'⟩ := hr (j / 2) hjd; injection e with e
  injection e with e1 e2
  subst e1 e2; have hf := fm_get (enc := ics) (k := 2) (fun _ => rfl) D (j / 2) (j % 2) hjd (Nat.mod_lt _ (by decide)); rw [show j / 2 * 2 + j % 2 = j by omega] at hf; rw [hf]; have hx : D[j / 2]! = D[j / 2]?.getD (0, 0) := by simp [hjd]
  rw [hx]; have hu : (ics (D[j / 2]?.getD (0, 0)))[j % 2]? = some ((ics (D[j / 2]?.getD (0, 0)))[j % 2]'(by simp [ics]; omega)) := List.getElem?_eq_getElem _; have := hc' _ _ hu; rw [hu]; simp only [World.cell?, hh] at this; rw [show 0 + j / 2 * 2 + j % 2 = j by omega] at this; simpa using this
 ·rw [if_neg hj, List.getElem?_eq_none (by omega)]
theorem compactF_is {B n : Nat} {w : World} {a : Option Addr} {c : Nat} {xs : List Ix} (h : OwnI B w (.slice a n c) n xs) (hn : xs.length = n) :
  Calls Tryz.prog 121 #[.slice a n c] w fun e w' => ∃ m : Nat, e = .returned (.slice a m c) ∧ Hid ((compactUpTo xs.toArray n).length = m) ∧ Hid (RowI w' a (compactUpTo xs.toArray n)) ∧ Hid (Onl (fun b => (Value.slice a n c).ownBlock = some b) w w') ∧ Hid (OwnI B w' (.slice a m c) m (compactUpTo xs.toArray n)) := by
 have hnl := own_le h; by_cases h2 : n < 2
 ·have hD : compactUpTo xs.toArray n = xs := by
   have := compactUpTo_all xs.toArray n (fun j hj => keeps_lt_one _ j (by omega)); rw [this, ← hn]; have := range_map_get xs.toArray; simpa using this
  have HR : Hid (RowI w a xs) := by
   by_cases h0 : n = 0
   ·have : xs = [] := List.eq_nil_of_length_eq_zero (by omega); subst this; intro i hi; simp at hi
   ·obtain ⟨g, rfl, _, _, _, _, _, hc⟩ := ownI_cells h hn (by omega); refine rowI_of hc (by omega) (fun j hj => by simp [hj])
  rw [hD]; have HOWN := hid h; have hd : decide ((n : Int) < 2) = true := decide_eq_true (by omega); clear h hD; go_enter Tryz.func121, Tryz.ntmps121
  go_wp2_with fail
  go_ret
  exact ⟨n, rfl, hn, HR, Onl.refl _ _, HOWN⟩
 ·obtain ⟨g, rfl, hB, hlt, hlo, hcap, hcm, hc⟩ := ownI_cells h hn (by omega); obtain ⟨d, hd⟩ : ∃ d, d = xs.toArray := ⟨_, rfl⟩; rw [← hd] at hc ⊢; have hds : d.size = n := by rw [hd]; simpa using hn
  have HC := hid hc; have HLO := hid hlo; have HDS := hid hds; have HLT := hid hlt; have HLI := hid (own_lie h); have HBG := hid hB; have HCM := hid hcm; clear h hd hc hlo hn hlt hds; have hd2 : ((n : Int) < 2) = False := by simp; omega
  go_enter Tryz.func121, Tryz.ntmps121
  go_wp2_with fail
  go_loopg [3] (n - 1) (fun gg s3 wr => ∃ k : Nat, 1 ≤ k ∧ k ≤ n ∧ gg = n - k ∧ s3 = .int .i64 k ∧ Hid (Below w.heap.size w wr) ∧ Hid (∀ j, j < k → keeps d j = true))
  case atStart => exact ⟨1, by omega, by omega, by omega, rfl, Below.refl _ _, fun j hj => keeps_lt_one _ j hj⟩
  case round =>
   obtain ⟨k, hk0, hk, rfl, rfl, HB, HA⟩ := hrel; by_cases hkn : k < n
   ·have hcr := HC.out.later HB.out; obtain ⟨c0, c1⟩ := hcr k hkn; obtain ⟨m, hm⟩ : ∃ m, m = k - 1 := ⟨_, rfl⟩; obtain ⟨d0, d1⟩ := hcr m (by omega); have hw1 : IntKind.i64.wrap ((k : Int) - 1) = (m : Int) := by rw [IntKind.wrap_i64]; omega
    have hk1 : (k : Int) < (n : Int) := by omega
    have hm1 : (m : Int) < (n : Int) := by omega
    obtain ⟨x, hx⟩ : ∃ x, x = d[k]! := ⟨_, rfl⟩; obtain ⟨y, hy⟩ : ∃ y, y = d[m]! := ⟨_, rfl⟩; simp only [← hx, ← hy] at c0 c1 d0 d1; have s0 := cell_regrown c0; have s1 := cell_regrown c1; have t0 := cell_regrown d0; have t1 := cell_regrown d1; obtain ⟨z, hz⟩ : ∃ z, sameI x y = z := ⟨_, rfl⟩; have qq : ∀ W, (binOp .eql 38 (.agg #[.int .u32 x.1, .int .u32 x.2]) (.agg #[.int .u32 y.1, .int .u32 y.2])).run Tryz.prog W = .ok (.bool z) W := fun W => by rw [← hz]; exact run_eqI x y W
    have HZ : Hid (sameI d[k]! d[k - 1]! = z) := by rw [← hm, ← hx, ← hy]; exact hz
    clear hcr c0 c1 d0 d1 hx hy hz hm; cases z with
    | false =>
     go_wp2_with fail
     refine wp_region_quiet_below (by kernel_rfl) (by kernel_rfl) ?_; repeat (go_big_quiet_step (fail))
     refine wpQuiet_nil ?_; intro wn hwn; replace hwn := below_of_regrown hwn; go_wp2_with fail
     go_roundg (n - (k + 1))
     case measure => omega
     case rel =>
      refine ⟨k + 1, by omega, by omega, rfl, by go_num, Below.on HB.out hwn, fun j hj => ?_⟩; by_cases e : j = k
      ·subst e; exact keeps_pos (by have := HZ.out; simpa [sameI] using this)
      ·exact HA.out j (by omega)
    | true =>
     have HS : Hid (CompInv d (k + 1) k d) := CompInv.start HA.out (keeps_neg (by omega) (by have := HZ.out; simpa [sameI] using this)); go_wp2_with fail
     refine wp_region_quiet_below (by kernel_rfl) (by kernel_rfl) ?_; repeat (go_big_quiet_step (fail))
     refine wpQuiet_nil ?_; intro wn hwn; replace hwn := below_of_regrown hwn; have HBN : Hid (Below w.heap.size w wn) := Below.on HB.out hwn; clear hwn s0 s1 t0 t1 qq HA HB hw1 hm1; have hck : (c = k) = False := by simp; omega
     go_wp2_with fail
     obtain ⟨L2, hL2⟩ : ∃ L2, L2 = n - k := ⟨_, rfl⟩; obtain ⟨C2, hC2⟩ : ∃ C2, C2 = c - k := ⟨_, rfl⟩; rw [← hL2, ← hC2]; have HL2 := hid hL2; clear hL2 hC2; go_loopg [3, 5] (n - (k + 1)) (fun gg s3 s5 wr => ∃ (kk k2 : Nat) (dk : Array Ix), s3 = .int .i64 kk ∧ s5 = .int .i64 k2 ∧ 1 ≤ k2 ∧ k + k2 ≤ n ∧ gg = n - (k + k2) ∧ Hid (CompInv d (k + k2) kk dk) ∧ Hid (CellI wr g (fun j => dk[j]!) n ∧ Loose wr g ∧ Onl (fun b => b = g) w wr) ∧ Hid (Lie wr g 38 (c * 2)))
     case atStart => exact ⟨k, 1, d, rfl, rfl, by omega, by omega, by omega, HS, ⟨HC.out.later HBN.out, HLO.out.later HBN.out HLT.out, Onl.of_below HBN.out⟩, HLI.out.later HBN.out⟩
     case round =>
      obtain ⟨kk, k2, dk, rfl, rfl, h1, hle, rfl, HI, HW, HLR⟩ := hrel; have hkk : kk < k + k2 := HI.out.lt; have hsz : dk.size = n := HI.out.size.trans HDS.out; by_cases hlt2 : k + k2 < n
      ·obtain ⟨m2, hm2⟩ : ∃ m2, m2 = k2 - 1 := ⟨_, rfl⟩; have a0 : wr.cell? ⟨g, k * 2 + k2 * 2, none⟩ = some (.int .u32 (dk[k + k2]!).1) := by rw [show k * 2 + k2 * 2 = (k + k2) * 2 by omega]; exact (HW.out.1 (k + k2) hlt2).1
       have a1 : wr.cell? ⟨g, k * 2 + k2 * 2 + 1, none⟩ = some (.int .u32 (dk[k + k2]!).2) := by rw [show k * 2 + k2 * 2 + 1 = (k + k2) * 2 + 1 by omega]; exact (HW.out.1 (k + k2) hlt2).2
       have b0 : wr.cell? ⟨g, k * 2 + m2 * 2, none⟩ = some (.int .u32 (dk[k + k2 - 1]!).1) := by rw [show k * 2 + m2 * 2 = (k + k2 - 1) * 2 by omega]; exact (HW.out.1 (k + k2 - 1) (by omega)).1
       have b1 : wr.cell? ⟨g, k * 2 + m2 * 2 + 1, none⟩ = some (.int .u32 (dk[k + k2 - 1]!).2) := by rw [show k * 2 + m2 * 2 + 1 = (k + k2 - 1) * 2 + 1 by omega]; exact (HW.out.1 (k + k2 - 1) (by omega)).2
       have e0 := (HW.out.1 kk (by omega)).1; have e1 := (HW.out.1 kk (by omega)).2; have l0 := HW.out.2.1 (kk * 2); have l1 := HW.out.2.1 (kk * 2 + 1); have hu := HI.out.high (k + k2) (by omega); have hv := HI.out.high (k + k2 - 1) (by omega); obtain ⟨x, hx⟩ : ∃ x, x = dk[k + k2]! := ⟨_, rfl⟩; obtain ⟨y, hy⟩ : ∃ y, y = dk[k + k2 - 1]! := ⟨_, rfl⟩; obtain ⟨o, ho⟩ : ∃ o, o = dk[kk]! := ⟨_, rfl⟩; rw [← hx] at a0 a1 hu; rw [← hy] at b0 b1 hv; simp only [← ho] at e0 e1; have s0 := cell_regrown a0; have s1 := cell_regrown a1; have t0 := cell_regrown b0; have t1 := cell_regrown b1; obtain ⟨z, hz⟩ : ∃ z, sameI x y = z := ⟨_, rfl⟩; have qq : ∀ W, (binOp .neq 38 (.agg #[.int .u32 x.1, .int .u32 x.2]) (.agg #[.int .u32 y.1, .int .u32 y.2])).run Tryz.prog W = .ok (.bool !z) W := fun W => by rw [← hz]; exact run_neI x y W
       have HZ : Hid (sameI d[k + k2]! d[k + k2 - 1]! = z) := by rw [← hu, ← hv]; exact hz
       have HU := hid hu; have hw1 : IntKind.i64.wrap ((k2 : Int) - 1) = (m2 : Int) := by rw [IntKind.wrap_i64]; omega
       have hk2 : (k2 : Int) < (L2 : Int) := by have := HL2.out; omega
       have hm1 : (m2 : Int) < (L2 : Int) := by have := HL2.out; omega
       have hkn : (kk : Int) < (n : Int) := by omega
       have hkb : kk + 1 ≤ 9223372036854775807 := by omega
       have hk2b : k2 + 1 ≤ 9223372036854775807 := by omega
       have HA0 := hid a0; have HA1 := hid a1; clear hx hy ho hz hu hv hm2 a0 a1 b0 b1; cases z with
       | true =>
        simp only [Bool.not_true] at qq; have HI2 : Hid (CompInv d (k + (k2 + 1)) kk dk) := HI.out.skip (keeps_neg (by omega) (by have := HZ.out; simpa [sameI] using this)); go_wp2_with fail
        refine wp_region_quiet_below (by kernel_rfl) (by kernel_rfl) ?_; repeat (go_big_quiet_step (fail))
        refine wpQuiet_nil ?_; intro wn hwn; replace hwn := below_of_regrown hwn; have HW2 : Hid (CellI wn g (fun j => dk[j]!) n ∧ Loose wn g ∧ Onl (fun b => b = g) w wn) := ⟨HW.out.1.later hwn, HW.out.2.1.later hwn (Nat.lt_of_lt_of_le HLT.out HW.out.2.2.size), HW.out.2.2.on hwn⟩; have HLR2 := hid (HLR.out.later hwn); clear hwn; go_wp2_with fail
        go_roundg (n - (k + (k2 + 1)))
        case measure => omega
        case rel => exact ⟨kk, k2 + 1, dk, rfl, by go_num, by omega, by omega, rfl, HI2, HW2, HLR2⟩
       | false =>
        simp only [Bool.not_false] at qq; have HI2 : Hid (CompInv d (k + (k2 + 1)) (kk + 1) (dk.setIfInBounds kk x)) := by
         have := HI.out.keep (by rw [HDS.out]; exact hlt2) (keeps_pos (by have := HZ.out; simpa [sameI] using this)); rw [← HU.out] at this; exact this
        go_wp2_with fail
        refine wp_region_quiet_below (by kernel_rfl) (by kernel_rfl) ?_; repeat (go_big_quiet_step (fail))
        refine wpQuiet_nil ?_; intro wn hwn; replace hwn := below_of_regrown hwn; have a0 := cell_later hwn HA0.out; have a1 := cell_later hwn HA1.out; have e0 := cell_later hwn e0; have e1 := cell_later hwn e1; have hlo2 : Loose wn g := HW.out.2.1.later hwn (Nat.lt_of_lt_of_le HLT.out HW.out.2.2.size); have l0 := hlo2 (kk * 2); have l1 := hlo2 (kk * 2 + 1); have HW2 : Hid (CellI (setI wn g kk x) g (fun j => (dk.setIfInBounds kk x)[j]!) n ∧ Loose (setI wn g kk x) g ∧ Onl (fun b => b = g) w (setI wn g kk x)) :=
         ⟨((HW.out.1.later hwn).put x).congr (fun i _ => put_arr (by omega) i), (hlo2.setc _ _).setc _ _, (HW.out.2.2.on hwn).trans (onl_setI wn g kk x)⟩
        have HLR2 : Hid (Lie (setI wn g kk x) g 38 (c * 2)) := ((HLR.out.later hwn).set _ _ _).set _ _ _; clear hwn hlo2; go_wp2_with fail
        go_roundg (n - (k + (k2 + 1)))
        case measure => omega
        case rel => exact ⟨kk + 1, k2 + 1, dk.setIfInBounds kk x, by go_num, by go_num, by omega, by omega, rfl, HI2, HW2, HLR2⟩
      ·have hend : k + k2 = n := by omega
       have hI := HI.out; rw [hend] at hI; have hcl : ∀ ty, (Builtin.clear_ #[114] ty #[.slice (some ⟨g, kk * 2, none⟩) (n - kk) (c - kk)]).run Tryz.prog wr = .ok (.tuple #[]) (wr.setCells g (kk * 2) (List.replicate ((n - kk) * 2) (.int .u32 0))) := fun ty =>
        run_clearI wr ty g kk n (c - kk) (by omega) (fun j hj => by
         obtain ⟨u0, u1⟩ := HW.out.1 (kk + j / 2) (by omega); have : j % 2 = 0 ∨ j % 2 = 1 := by omega
         rcases this with e | e
         ·rw [show kk * 2 + j = (kk + j / 2) * 2 by omega, u0]; rfl
         ·rw [show kk * 2 + j = (kk + j / 2) * 2 + 1 by omega, u1]; rfl) HW.out.2.1
       obtain ⟨wE, hwE⟩ : ∃ wE, wE = wr.setCells g (kk * 2) (List.replicate ((n - kk) * 2) (.int .u32 0)) := ⟨_, rfl⟩; rw [← hwE] at hcl; have HF : Hid ((compactUpTo d n).length = kk) := hI.len; have HR : Hid (RowI wE (some ⟨g, 0, none⟩) (compactUpTo d n)) := by
        refine rowI_of (n := kk) (f := fun j => dk[j]!) (fun i hi => ?_) (by rw [hI.len]; exact Nat.le_refl _) (fun j hj => hI.low j (by rw [hI.len] at hj; exact hj)); obtain ⟨u0, u1⟩ := HW.out.1 i (by omega); rw [hwE]; exact ⟨(World.cell?_setCells_out g _ _ wr _ (fun _ _ => .inl (by show i * 2 < kk * 2; omega))).trans u0, (World.cell?_setCells_out g _ _ wr _ (fun _ _ => .inl (by show i * 2 + 1 < kk * 2; omega))).trans u1⟩
       have HO : Hid (Onl (fun b => (Value.slice (some ⟨g, 0, none⟩) n c).ownBlock = some b) w wE) := by
        have h1 : Onl (fun b => b = g) w wE := by rw [hwE]; exact HW.out.2.2.trans (onl_setCells g _ _ wr)
        exact h1.mono (fun b hb => by rw [hb]; rfl)
       have hck2 : (c = kk) = False := by simp; omega
       have hL2 : ¬ k2 < L2 := by have := HL2.out; omega
       have hL3 : (k2 : Int) < (L2 : Int) → False := by omega
       have hkn1 : kk ≤ n := by omega
       have hkn2 : kk ≤ c := by omega
       have HOWN : Hid (OwnI B wE (.slice (some ⟨g, 0, none⟩) kk c) kk (compactUpTo d n)) := ownI_of HBG.out (by rw [hwE]; exact Lie.sets _ _ _ HLR.out) HR.out HF.out hkn2 HCM.out; clear hwE hI HI HW; go_wp2_with fail
       go_ret
       exact ⟨kk, rfl, HF, HR, HO, HOWN⟩
   ·obtain rfl : k = n := by omega
    have hD : compactUpTo d k = (List.range k).map (d[·]!) := compactUpTo_all d k HA.out; have HF : Hid ((compactUpTo d k).length = k) := by rw [hD]; show _ = _; simp
    have HR : Hid (RowI wr (some ⟨g, 0, none⟩) (compactUpTo d k)) := rowI_of (HC.out.later HB.out) (by rw [hD]; simp) (fun j hj => by
     rw [hD] at hj ⊢; have hj' : j < k := by rw [List.length_map, List.length_range] at hj; exact hj
     rw [List.getElem?_map, List.getElem?_range hj']; rfl)
    clear hD; have HOWN : Hid (OwnI B wr (.slice (some ⟨g, 0, none⟩) k c) k (compactUpTo d k)) := ownI_of HBG.out (HLI.out.later HB.out) HR.out HF.out hcap HCM.out; go_wp2_with fail
    go_ret
    exact ⟨k, rfl, HF, HR, Onl.of_below HB.out, HOWN⟩
def blkB (s : T2) (aw al an : Int) (h : Hd) : Bool := h.ws.any (fun x => insB x.key s) && !lessB aw al an h.w h.l h.n
theorem le_lt {i j k : Ix} (h1 : ltI j i = false) (h2 : ltI j k = true) : ltI i k = true := by
 obtain ⟨a, b⟩ := i; obtain ⟨c, d⟩ := j; obtain ⟨e, f⟩ := k; simp [ltI] at h1 h2 ⊢; omega
theorem lt_irr (i : Ix) : ltI i i = false := by simp [ltI]
theorem comp_mem {d : Array Ix} : ∀ {j m : Nat}, j < m → d[j]! ∈ compactUpTo d m := by
 intro j; induction j with
 | zero =>
  intro m hm; exact List.mem_map.2 ⟨0, List.mem_filter.2 ⟨List.mem_range.2 hm, keeps_lt_one d 0 (by omega)⟩, rfl⟩
 | succ j ih =>
  intro m hm; by_cases e : d[j + 1]! = d[j]!
  ·rw [e]; exact ih (by omega)
  ·exact List.mem_map.2 ⟨j + 1, List.mem_filter.2 ⟨List.mem_range.2 hm, keeps_pos (by simpa using e)⟩, rfl⟩
theorem comp_sub {d : Array Ix} {m : Nat} {x : Ix} (h : x ∈ compactUpTo d m) : ∃ j, j < m ∧ d[j]! = x := by
 obtain ⟨j, hj, rfl⟩ := List.mem_map.1 h; exact ⟨j, List.mem_range.1 (List.mem_filter.1 hj).1, rfl⟩
theorem comp_rise {d : Array Ix} {m : Nat} (hs : ∀ i j, i < j → j < m → ltI d[j]! d[i]! = false) : (compactUpTo d m).Pairwise (fun x y => ltI x y = true) := by
 rw [compactUpTo, List.pairwise_map]; refine (List.Pairwise.filter _ List.pairwise_lt_range).imp_of_mem ?_; intro p q hp hq hpq; obtain ⟨hq1, hq2⟩ := List.mem_filter.1 hq; have hq1 := List.mem_range.1 hq1; have hne : d[q]! ≠ d[q - 1]! := by
  simp only [keeps, decide_eq_true_eq] at hq2; rcases hq2 with h | h
  ·omega
  ·exact h
 have h1 : ltI d[q - 1]! d[q]! = true := ltI_of (hs (q - 1) q (by omega) hq1) (fun e => hne e.symm); by_cases e : p = q - 1
 ·rw [e]; exact h1
 ·exact le_lt (hs p (q - 1) (by omega) (by omega)) h1
theorem rise_uniq {X Y : List Ix} (hX : X.Pairwise (fun x y => ltI x y = true)) (hY : Y.Pairwise (fun x y => ltI x y = true)) (hm : ∀ i, i ∈ X ↔ i ∈ Y) : X = Y := by
 have asym : ∀ {a b : Ix}, ltI a b = true → ltI b a = true → False := fun {a b} h1 h2 => by
  have := le_lt (i := a) (j := a) (k := b) (lt_irr a) h1; obtain ⟨x, y⟩ := a; obtain ⟨z, t⟩ := b; simp [ltI] at h1 h2; omega
 have nd : ∀ {l : List Ix}, l.Pairwise (fun x y => ltI x y = true) → l.Nodup := fun h => h.imp fun {a b} h1 e => by
  subst e; rw [lt_irr] at h1; cases h1
 exact List.Perm.eq_of_pairwise (le := fun x y => ltI x y = true) (fun a b _ _ h1 h2 => (asym h1 h2).elim) hX hY ((List.perm_ext_iff_of_nodup (nd hX) (nd hY)).2 hm)
end Go.Proofs.YtneojeidpfjpbaaGreatDoor.Lk
