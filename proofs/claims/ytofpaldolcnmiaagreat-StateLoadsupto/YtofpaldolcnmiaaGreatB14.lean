import Derived.Test.YtofpaldolcnmiaaGreatB13
import Derived.Test.YtofpaldolcnmiaaGreatB09
set_option linter.unusedVariables false
set_option maxHeartbeats 2000000
namespace Go.Proofs.YtofpaldolcnmiaaGreat.Lk
open Go.RowKit Go.Sort Go.Shelf Go.Lib
theorem pred_in (k : ByteArray) (B : Nat) (w : World) (hB : B < w.heap.size) (hc : w.cell? ⟨B, 0, none⟩ = some (.string k)) :
  PredBelow Tryz.prog 273 #[.pointer (some ⟨B, 0, none⟩)] (fun x : T2 => .agg (encS x).toArray) (insB k) w := fun W x hb => by
 have hc' : W.cell? ⟨B, 0, none⟩ = some (.string k) := (hb.cell (p := ⟨B, 0, none⟩) hB).trans hc; have hBW : B < W.heap.size := Nat.lt_of_lt_of_le hB hb.size; have hne : B ≠ W.heap.size := by omega
 obtain ⟨lo, hi⟩ := x; obtain ⟨u, hu⟩ : ∃ u, insB k (lo, hi) = u := ⟨_, rfl⟩; rw [hu]; have HU := hid hu; clear hu hc; show Calls Tryz.prog 273 #[.agg #[.string lo, .string hi], .pointer (some ⟨B, 0, none⟩)] W _
 go_enter Tryz.func273, Tryz.ntmps273
 go_wp2_with fail
 refine (inside_is (s := (lo, hi)) HU.out _).mono ?_; rintro e w1 ⟨rfl, hw1⟩; go_wp2_with fail
 go_ret
 exact ⟨rfl, Below.on (Below.al hb _) hw1⟩
theorem row2_cells {w : World} {a : Option Addr} {xs : List T2} (h : Row2 w a xs) (h0 : 0 < xs.length) : ∃ b off, a = some ⟨b, off, none⟩ ∧ b < w.heap.size ∧ ∀ j, j < xs.length → ∀ i v, (encS xs[j]!)[i]? = some v → w.cell? ⟨b, off + j * 2 + i, none⟩ = some v := by
 obtain ⟨b, off, rfl, c0, _⟩ := h 0 h0; refine ⟨b, off, rfl, World.block_lt_of_cell? _ _ c0, fun j hj i v hi => ?_⟩; obtain ⟨b', off', e, d0, d1⟩ := h j hj; injection e with e
 injection e with e1 e2
 subst e1 e2; have en : xs[j]! = nth2 xs j := by simp [nth2, getElem!_pos, hj]
 rw [en] at hi; match i, hi with
 | 0, hi => simp [encS] at hi; rw [← hi]; exact d0
 | 1, hi => simp [encS] at hi; rw [← hi]; exact d1
 | i + 2, hi => simp [encS] at hi
theorem rowW_cells [Inhabited Wr] {w : World} {a : Option Addr} {xs : List Wr} (h : RowW w a xs) (h0 : 0 < xs.length) : ∃ b off, a = some ⟨b, off, none⟩ ∧ b < w.heap.size ∧ ∀ j, j < xs.length → ∀ i v, (encW xs[j]!)[i]? = some v → w.cell? ⟨b, off + j * 3 + i, none⟩ = some v := by
 obtain ⟨b, off, rfl, c0, _⟩ := h 0 h0; refine ⟨b, off, rfl, World.block_lt_of_cell? _ _ c0, fun j hj i v hi => ?_⟩; obtain ⟨b', off', e, d0, d1, d2⟩ := h j hj; injection e with e
 injection e with e1 e2
 subst e1 e2; have en : xs[j]! = nthW xs j := by simp [nthW, getElem!_pos, hj]
 rw [en] at hi; match i, hi with
 | 0, hi => simp [encW] at hi; rw [← hi]; exact d0
 | 1, hi => simp [encW] at hi; rw [← hi]; exact d1
 | 2, hi => simp [encW] at hi; rw [← hi]; exact d2
 | i + 3, hi => simp [encW] at hi
theorem contS_nil (a : Option Addr) (c : Nat) (f : Value) (w : World) :
  Calls Tryz.prog 272 #[.slice a 0 c, f] w fun e w' => e = .returned (.bool false) ∧ Below w.heap.size w w' := by
 have IX : ∀ W, Calls Tryz.prog 281 #[.slice a 0 c, f] W fun e w' => e = .returned (.int .i64 (-1)) ∧ w' = W := fun W => by
  go_enter Tryz.func281, Tryz.ntmps281
  go_wp2_with fail
  go_loopg [5, 8] 0 (fun g s5 s8 wr => s8 = .int .i64 0 ∧ wr = W)
  case atStart => exact ⟨rfl, rfl⟩
  case round =>
   obtain ⟨rfl, rfl⟩ := hrel; go_wp2_with fail
   go_ret
   exact ⟨rfl, rfl⟩
 go_enter Tryz.func272, Tryz.ntmps272
 go_wp2_with (go_at_call 281; refine (IX _).mono ?_; rintro e w1 ⟨rfl, rfl⟩)
 go_ret
 exact ⟨rfl, Below.refl _ _⟩
theorem contW_nil (a : Option Addr) (c : Nat) (f : Value) (w : World) :
  Calls Tryz.prog 129 #[.slice a 0 c, f] w fun e w' => e = .returned (.bool false) ∧ Below w.heap.size w w' := by
 have IX : ∀ W, Calls Tryz.prog 186 #[.slice a 0 c, f] W fun e w' => e = .returned (.int .i64 (-1)) ∧ w' = W := fun W => by
  go_enter Tryz.func186, Tryz.ntmps186
  go_wp2_with fail
  go_loopg [5, 8] 0 (fun g s5 s8 wr => s8 = .int .i64 0 ∧ wr = W)
  case atStart => exact ⟨rfl, rfl⟩
  case round =>
   obtain ⟨rfl, rfl⟩ := hrel; go_wp2_with fail
   go_ret
   exact ⟨rfl, rfl⟩
 go_enter Tryz.func129, Tryz.ntmps129
 go_wp2_with (go_at_call 186; refine (IX _).mono ?_; rintro e w1 ⟨rfl, rfl⟩)
 go_ret
 exact ⟨rfl, Below.refl _ _⟩
theorem within_is {k : ByteArray} {a : Option Addr} {c : Nat} {xs : List T2} {w : World} {u : Bool} (hu : withinB k xs = u) (h : Row2 w a xs) (hl : xs.length ≤ 9223372036854775807) :
  Calls Tryz.prog 263 #[.string k, .slice a xs.length c] w fun e w' => e = .returned (.bool u) ∧ Below w.heap.size w w' := by
 have CT : Hid (Calls Tryz.prog 272 #[.slice a xs.length c, .func (.func 273) #[] #[.pointer (some ⟨w.heap.size, 0, none⟩)]] (w.alloc (.cells #[.string k] 9)) fun e w' => e = .returned (.bool u) ∧ Below w.heap.size w w') := by
  by_cases h0 : xs.length = 0
  ·rw [h0]; have : u = false := by rw [← hu, List.eq_nil_of_length_eq_zero h0]; rfl
   subst this; exact (contS_nil a c _ _).mono fun e w' ⟨he, hb⟩ => ⟨he, Below.on (Below.al (Below.refl _ _) _) hb⟩
  ·have eg : ∀ args w, (callFunc 273 args).run Tryz.prog w = .ok (.enter 273 args) w := enters_of Tryz.func273 (by kernel_rfl) rfl; have hb : Below w.heap.size w (w.alloc (.cells #[.string k] 9)) := Below.al (Below.refl _ _) _; obtain ⟨b, off, rfl, hlt, hc⟩ := row2_cells (h.later hb) (by omega); have hcon := AnyQ.slices_ContainsFunc Tryz.contS 2 Tryz.isAgg126 Tryz.sizeOf126 encS (fun _ => rfl) (insB k) 273 #[.pointer (some ⟨w.heap.size, 0, none⟩)] eg b off xs.length c xs (w.alloc (.cells #[.string k] 9))
    (pred_in k w.heap.size _ (by simp) (by simp)) (Nat.le_refl _) hl hlt hc
   change Calls Tryz.prog 272 _ _ _ at hcon
   rw [List.take_of_length_le (Nat.le_refl _), show xs.any (insB k) = u from hu] at hcon; exact hcon.mono fun e w' ⟨he, hb'⟩ => ⟨he, Below.on hb hb'⟩
 clear hu h hl; go_enter Tryz.func263, Tryz.ntmps263
 go_wp2_with fail
 refine CT.out.mono ?_; rintro e w1 ⟨rfl, hw1⟩; go_wp2_with fail
 go_ret
 exact ⟨rfl, hw1⟩
theorem pred_any {a : Option Addr} {c : Nat} {xs : List T2} {w : World} (h : Row2 w a xs) (hl : xs.length ≤ 9223372036854775807) (B : Nat) (hB : B < w.heap.size) (hc : w.cell? ⟨B, 0, none⟩ = some (.slice a xs.length c)) :
  PredBelow Tryz.prog 275 #[.pointer (some ⟨B, 0, none⟩)] (fun x : Wr => .agg (encW x).toArray) (fun x => withinB x.key xs) w := fun W x hb => by
 have hc' : W.cell? ⟨B, 0, none⟩ = some (.slice a xs.length c) := (hb.cell (p := ⟨B, 0, none⟩) hB).trans hc; have hBW : B < W.heap.size := Nat.lt_of_lt_of_le hB hb.size; have hne : B ≠ W.heap.size := by omega
 obtain ⟨key, del, val⟩ := x; obtain ⟨u, hu⟩ : ∃ u, withinB key xs = u := ⟨_, rfl⟩; have hbW : Below w.heap.size w (W.alloc (.cells #[.string key, .bool del, .string val] 117)) := Below.al hb _; have WI := hid (within_is (c := c) hu (h.later hbW) hl); show Calls Tryz.prog 275 #[.agg #[.string key, .bool del, .string val], .pointer (some ⟨B, 0, none⟩)] W fun e w' => e = .returned (.bool (withinB key xs)) ∧ Below w.heap.size w w'
 rw [hu]; clear hu hc h hl; go_enter Tryz.func275, Tryz.ntmps275
 go_wp2_with fail
 refine WI.out.mono ?_; rintro e w1 ⟨rfl, hw1⟩; go_wp2_with fail
 go_ret
 exact ⟨rfl, Below.on hbW hw1⟩
theorem anyWithin_is {a' a : Option Addr} {c' c : Nat} {ws : List Wr} {xs : List T2} {w : World} {u : Bool} (hu : anyB ws xs = u) (hw : RowW w a' ws) (h : Row2 w a xs) (hlw : ws.length ≤ 9223372036854775807) (hl : xs.length ≤ 9223372036854775807) :
  Calls Tryz.prog 264 #[.slice a' ws.length c', .slice a xs.length c] w fun e w' => e = .returned (.bool u) ∧ Below w.heap.size w w' := by
 have CT : Hid (Calls Tryz.prog 129 #[.slice a' ws.length c', .func (.func 275) #[] #[.pointer (some ⟨w.heap.size, 0, none⟩)]] (w.alloc (.cells #[.slice a xs.length c] 37)) fun e w' => e = .returned (.bool u) ∧ Below w.heap.size w w') := by
  by_cases h0 : ws.length = 0
  ·rw [h0]; have : u = false := by rw [← hu, List.eq_nil_of_length_eq_zero h0]; rfl
   subst this; exact (contW_nil a' c' _ _).mono fun e w' ⟨he, hb⟩ => ⟨he, Below.on (Below.al (Below.refl _ _) _) hb⟩
  ·letI : Inhabited Wr := ⟨⟨⟨#[]⟩, false, ⟨#[]⟩⟩⟩
   have eg : ∀ args w, (callFunc 275 args).run Tryz.prog w = .ok (.enter 275 args) w := enters_of Tryz.func275 (by kernel_rfl) rfl; have hb : Below w.heap.size w (w.alloc (.cells #[.slice a xs.length c] 37)) := Below.al (Below.refl _ _) _; obtain ⟨b, off, rfl, hlt, hc⟩ := rowW_cells (hw.later hb) (by omega); have hcon := AnyQ.slices_ContainsFunc Tryz.contW 3 Tryz.isAgg117 Tryz.sizeOf117 encW (fun _ => rfl) (fun x => withinB x.key xs) 275 #[.pointer (some ⟨w.heap.size, 0, none⟩)] eg b off ws.length c' ws (w.alloc (.cells #[.slice a xs.length c] 37))
    (pred_any (c := c) (h.later hb) hl w.heap.size (by simp) (by simp)) (Nat.le_refl _) hlw hlt hc
   change Calls Tryz.prog 129 _ _ _ at hcon
   rw [List.take_of_length_le (Nat.le_refl _), show ws.any (fun x => withinB x.key xs) = u from hu] at hcon; exact hcon.mono fun e w' ⟨he, hb'⟩ => ⟨he, Below.on hb hb'⟩
 clear hu h hl hw hlw; go_enter Tryz.func264, Tryz.ntmps264
 go_wp2_with fail
 refine CT.out.mono ?_; rintro e w1 ⟨rfl, hw1⟩; go_wp2_with fail
 go_ret
 exact ⟨rfl, hw1⟩
open Go.RowKit Go.Sort
theorem cob {w : World} {b o : Nat} {cs : Array Value} {t : TypeId} {z : Nat × Nat} {v : Value} (h : w.heap[b]? = some (.cells cs t z)) (hv : cs[o]? = some v) : w.cell? ⟨b, o, none⟩ = some v := by
 simp [World.cell?, h, hv]
structure Hv where
 h : Hd
 ra : Option Addr
 rc : Nat
 wa : Option Addr
 wc : Nat
abbrev Hv.val (v : Hv) : Value := .agg #[.int .u32 v.h.id.1, .int .u32 v.h.id.2, .int .u32 v.h.home, .int .u64 v.h.w, .int .u32 v.h.l, .int .u32 v.h.n, .slice v.ra v.h.rs.length v.rc, .slice v.wa v.h.ws.length v.wc]
structure Hv.ok (W : World) (v : Hv) : Prop where
 r : Row2 W v.ra v.h.rs
 w : RowW W v.wa v.h.ws
 rl : v.h.rs.length + 1 ≤ 4398046511104
 wl : v.h.ws.length + 1 ≤ 3518437208883
theorem Hv.ok.later {w w' : World} {v : Hv} (h : v.ok w) (hb : Below w.heap.size w w') : v.ok w' := ⟨h.r.later hb, h.w.later hb, h.rl, h.wl⟩
def Bare (w : World) (b : Nat) : Prop := ∀ o s, w.cell? ⟨b, o, none⟩ ≠ some (.string s)
theorem row2_onl {w w' : World} {F : Nat → Prop} {a : Option Addr} {xs : List T2} (h : Row2 w a xs) (ho : Onl F w w') (hF : ∀ b, F b → Bare w b) : Row2 w' a xs := fun i hi => by
 obtain ⟨b, off, e, h0, h1⟩ := h i hi; have hn : ¬ F b := fun hf => hF b hf _ _ h0
 exact ⟨b, off, e, ho.cell hn h0, ho.cell hn h1⟩
theorem rowW_onl {w w' : World} {F : Nat → Prop} {a : Option Addr} {xs : List Wr} (h : RowW w a xs) (ho : Onl F w w') (hF : ∀ b, F b → Bare w b) : RowW w' a xs := fun i hi => by
 obtain ⟨b, off, e, h0, h1, h2⟩ := h i hi; have hn : ¬ F b := fun hf => hF b hf _ _ h0
 exact ⟨b, off, e, ho.cell hn h0, ho.cell hn h1, ho.cell hn h2⟩
theorem Hv.ok.onl {w w' : World} {F : Nat → Prop} {v : Hv} (h : v.ok w) (ho : Onl F w w') (hF : ∀ b, F b → Bare w b) : v.ok w' := ⟨row2_onl h.r ho hF, rowW_onl h.w ho hF, h.rl, h.wl⟩
abbrev prs (V : List Hv) : List (Ix × Hv) := V.map fun v => (v.h.id, v)
structure TbO (W : World) (p oo : Nat) (ty : TypeId) (m1 m2 : Option Nat) (V : List Hv) (I : It) : Prop where
 obj : ∃ cs, W.heap[p]? = some (.cells cs ty (0, 0)) ∧ cs[oo]? = some (.map m1) ∧ cs[oo + 1]? = some (.map m2)
 bar : Bare W p
 held : MapO ixv Hv.val W m1 (prs V)
 ints : MapO Value.string ixv W m2 I
 rows : ∀ v ∈ V, v.ok W
 ok : Ok (V.map Hv.h) I
 nil : m1 = none ↔ m2 = none
 ne : ∀ b, m1 = some b → m2 ≠ some b
def Its (p : Nat) (m1 m2 : Option Nat) (b : Nat) : Prop := b = p ∨ m1 = some b ∨ m2 = some b
section
variable {w w' : World} {p oo : Nat} {ty : TypeId} {m1 m2 : Option Nat} {V : List Hv} {I : It}
theorem TbO.blk (h : TbO w p oo ty m1 m2 V I) : ∃ cs, w.heap[p]? = some (.cells cs ty (0, 0)) := by obtain ⟨cs, hc, _⟩ := h.obj; exact ⟨cs, hc⟩
theorem TbO.c0 (h : TbO w p oo ty m1 m2 V I) : w.cell? ⟨p, oo, none⟩ = some (.map m1) := by obtain ⟨cs, hc, x0, x1⟩ := h.obj; exact cob hc x0
theorem TbO.c1 (h : TbO w p oo ty m1 m2 V I) : w.cell? ⟨p, oo + 1, none⟩ = some (.map m2) := by obtain ⟨cs, hc, x0, x1⟩ := h.obj; exact cob hc x1
theorem TbO.loose (h : TbO w p oo ty m1 m2 V I) (j : Nat) : w.frozen? ⟨p, j, none⟩ = false := by obtain ⟨cs, hc, _⟩ := h.obj; simp [World.frozen?, hc]
theorem TbO.lt (h : TbO w p oo ty m1 m2 V I) : p < w.heap.size := by obtain ⟨cs, hc, _⟩ := h.obj; exact (Array.getElem?_eq_some_iff.1 hc).1
theorem bare_same {b : Nat} (h : Bare w b) (e : w'.heap[b]? = w.heap[b]?) : Bare w' b := fun o s hc => h o s (by simp only [World.cell?, e] at hc ⊢; exact hc)
theorem TbO.objs (h : TbO w p oo ty m1 m2 V I) (e : w'.heap[p]? = w.heap[p]?) : (∃ cs, w'.heap[p]? = some (.cells cs ty (0, 0)) ∧ cs[oo]? = some (.map m1) ∧ cs[oo + 1]? = some (.map m2)) ∧ Bare w' p := by
 obtain ⟨cs, hc, x⟩ := h.obj; exact ⟨⟨cs, e.trans hc, x⟩, bare_same h.bar e⟩
theorem TbO.later (h : TbO w p oo ty m1 m2 V I) (hb : Below w.heap.size w w') : TbO w' p oo ty m1 m2 V I :=
 ⟨(h.objs (hb.block p h.lt)).1, (h.objs (hb.block p h.lt)).2, h.held.later hb, h.ints.later hb, fun v hv => (h.rows v hv).later hb, h.ok, h.nil, h.ne⟩
theorem map_bare {es : Array MapEntry} {clock b : Nat} (h : w.heap[b]? = some (.map es clock)) : Bare w b := fun o s hc => by
 simp [World.cell?, h] at hc
theorem TbO.bare (h : TbO w p oo ty m1 m2 V I) {b : Nat} (hb : Its p m1 m2 b) : Bare w b := by
 rcases hb with rfl | rfl | rfl
 ·exact h.bar
 ·obtain ⟨es, clock, hb, _⟩ := h.held.at; exact map_bare hb
 ·obtain ⟨es, clock, hb, _⟩ := h.ints.at; exact map_bare hb
theorem bare_set {b o : Nat} {v : Value} (h : Bare w b) (hv : ∀ s, v ≠ .string s) : Bare (w.setCell ⟨b, o, none⟩ v) b := fun o' s hc => by
 by_cases e : o' = o
 ·subst e; cases hb : w.heap[b]? with
  | none =>
   have : (w.setCell ⟨b, o', none⟩ v).heap[b]? = none := by
    rw [Array.getElem?_eq_none_iff] at hb ⊢; simpa using hb
   simp [World.cell?, this] at hc
  | some ob =>
   cases ob with
   | cells cs t z =>
    simp only [World.cell?, heap_put v hb] at hc; by_cases hl : o' < cs.size
    ·simp [hl] at hc; exact hv s hc
    ·simp [hl] at hc
   | _ =>
    refine h o' s ?_; obtain ⟨hlt, hk⟩ := Array.getElem?_eq_some_iff.1 hb; have e : (w.setCell ⟨b, o', none⟩ v).heap[b]? = w.heap[b]? := by
     show (w.heap.modify b _)[b]? = _
     rw [Array.getElem?_eq_getElem (by rw [Array.size_modify]; exact hlt), Array.getElem_modify_self, hk, hb]
    simp only [World.cell?, e] at hc ⊢; exact hc
 ·have hne : (⟨b, o, none⟩ : Addr) ≠ ⟨b, o', none⟩ := fun k => by injection k with _ k _; exact e k.symm
  rw [World.cell?_setCell_other (h := hne)] at hc; exact h o' s hc
end
open Go.RowKit Go.Sort
def Fr2 (B : Nat) (w : World) (a : Option Addr) (c : Nat) (xs : List T2) : Prop := w.ownsRow B 126 2 (.slice a xs.length c) xs.length (flat2 xs)
def FrW (B : Nat) (w : World) (a : Option Addr) (c : Nat) (xs : List Wr) : Prop := w.ownsRow B 117 3 (.slice a xs.length c) xs.length (flatW xs)
theorem Fr2.row {B : Nat} {w : World} {a : Option Addr} {c : Nat} {xs : List T2} (h : Fr2 B w a c xs) : Row2 w a xs := fun i hi => by
 obtain ⟨g, rfl, _, hc⟩ := own_cells h (by omega); refine ⟨g, 0, rfl, ?_, ?_⟩
 ·rw [Nat.zero_add]; exact hc _ _ (by rw [show i * 2 = i * 2 + 0 by omega, flat2_get xs i 0 hi (by omega)]; rfl)
 ·rw [Nat.zero_add]; exact hc _ _ (by rw [flat2_get xs i 1 hi (by omega)]; rfl)
theorem FrW.row {B : Nat} {w : World} {a : Option Addr} {c : Nat} {xs : List Wr} (h : FrW B w a c xs) : RowW w a xs := fun i hi => by
 obtain ⟨g, rfl, _, hc⟩ := own_cells h (by omega); refine ⟨g, 0, rfl, ?_, ?_, ?_⟩
 ·rw [Nat.zero_add]; exact hc _ _ (by rw [show i * 3 = i * 3 + 0 by omega, flatW_get xs i 0 hi (by omega)]; rfl)
 ·rw [Nat.zero_add]; exact hc _ _ (by rw [flatW_get xs i 1 hi (by omega)]; rfl)
 ·rw [Nat.zero_add]; exact hc _ _ (by rw [flatW_get xs i 2 hi (by omega)]; rfl)
theorem row2_flat {w : World} {a : Addr} {xs : List T2} (h : Row2 w (some a) xs) : ∀ j u, (flat2 xs)[j]? = some u → w.cell? (a.add j) = some u := fun j u hj => by
 have hjl : j < xs.length * 2 := by have := (List.getElem?_eq_some_iff.1 hj).1; rwa [flat2_len] at this
 obtain ⟨b, off, e, h0, h1⟩ := h (j / 2) (by omega); injection e with e
 subst e; rw [Addr.add_lit]; have h2 := flat2_get xs (j / 2) (j % 2) (by omega) (by omega); rw [show j / 2 * 2 + j % 2 = j by omega, hj] at h2; rcases (show j % 2 = 0 ∨ j % 2 = 1 by omega) with e | e <;> rw [e] at h2 <;> simp [encS] at h2 <;> subst h2
 ·rw [show off + j = off + j / 2 * 2 by omega]; exact h0
 ·rw [show off + j = off + j / 2 * 2 + 1 by omega]; exact h1
theorem rowW_flat {w : World} {a : Addr} {xs : List Wr} (h : RowW w (some a) xs) : ∀ j u, (flatW xs)[j]? = some u → w.cell? (a.add j) = some u := fun j u hj => by
 have hjl : j < xs.length * 3 := by have := (List.getElem?_eq_some_iff.1 hj).1; rwa [flatW_len] at this
 obtain ⟨b, off, e, h0, h1, h2⟩ := h (j / 3) (by omega); injection e with e
 subst e; rw [Addr.add_lit]; have h3 := flatW_get xs (j / 3) (j % 3) (by omega) (by omega); rw [show j / 3 * 3 + j % 3 = j by omega, hj] at h3; rcases (show j % 3 = 0 ∨ j % 3 = 1 ∨ j % 3 = 2 by omega) with e | e | e <;> rw [e] at h3 <;> simp [encW] at h3 <;> subst h3
 ·rw [show off + j = off + j / 3 * 3 by omega]; exact h0
 ·rw [show off + j = off + j / 3 * 3 + 1 by omega]; exact h1
 ·rw [show off + j = off + j / 3 * 3 + 2 by omega]; exact h2
theorem cloneS_is {w : World} {a : Option Addr} {c : Nat} {xs : List T2} (h : Row2 w a xs) (hl : xs.length + 1 ≤ 4398046511104) :
  Calls Tryz.prog 172 #[.slice a xs.length c] w fun e w' => ∃ a' c', e = .returned (.slice a' xs.length c') ∧ Fr2 w.heap.size w' a' c' xs ∧ Below w.heap.size w w' := by
 have q22 : ∀ (w : World) (a : Option Addr) (n c n' c' : Nat), (binOp .eql 37 (.slice a n c) (.slice none n' c')).run Tryz.prog w = .ok (.bool a.isNone) w := fun w a n c n' c' => Lib.run_eql_slice_nil w _ _ a n c n' c' Tryz.underlying37
 cases a with
 | none =>
  have h0 : xs.length = 0 := by
   by_cases h0 : xs.length = 0
   ·exact h0
   ·obtain ⟨b, off, e, _⟩ := h 0 (by omega); cases e
  go_enter Tryz.func172, Tryz.ntmps172
  go_wp2_with fail
  go_ret
  refine ⟨none, 0, by rw [h0]; rfl, ⟨flat2_len xs, .inl ⟨by rw [h0], h0⟩⟩, Below.refl _ _⟩
 | some ad =>
  obtain ⟨i0, hi, hz0, hz1, hz2⟩ := info_of infoSp; have A := hid (row2_flat h); have hL := flat2_len xs; obtain ⟨n, hn⟩ : ∃ n, n = xs.length := ⟨_, rfl⟩; rw [← hn] at hL hl ⊢; have HN := hid hn; have HL := hid hL; have HO := hid (flat2_one xs); have HS := hid hl; clear h hl hL hn; go_enter Tryz.func172, Tryz.ntmps172
  go_wp2_with (at_builtin; refine wpList_append_own _ rfl _ _ 37 rfl w.heap.size 126 i0 (.agg #[.string ⟨#[]⟩, .string ⟨#[]⟩]) 2 32 Tryz.underlying37 hi hz0 hz1 hz2 rfl (by decide) _ _ _ rfl (World.ownsRow_made w #[] 0 (Nat.le_refl _) (Nat.zero_le _) (by simp)) ad n c (flat2 xs) rfl ?qc1 ?qc2 ?qc3 ?qc4 ?qc5 ?qc6 ?_)
  case qc1 => exact HL.out
  case qc2 =>
   intro j u hj; exact Lib.cell?_alloc_some _ (A.out j u hj)
  case qc3 => exact HO.out
  case qc4 => rw [Nat.zero_add]; have := HS.out; unfold maxLen; omega
  case qc5 => rw [Nat.zero_add]; have := HS.out; omega
  case qc6 => simp
  intro v' w1 hown hgrow hnil; have hown' : w1.ownsRow w.heap.size 126 2 v' n (flat2 xs) := by simpa using hown
  obtain ⟨a', c', rfl⟩ := ows hown'; go_wp2_with fail
  go_ret
  exact ⟨a', c', rfl, by rw [Fr2, ← HN.out]; exact hown', ((Below.refl _ w).alloc (Nat.le_refl _) _).grown hgrow (by simp) (by intro k hk; simp [Value.ownBlock] at hk; omega)⟩
theorem cloneW_is {w : World} {a : Option Addr} {c : Nat} {xs : List Wr} (h : RowW w a xs) (hl : xs.length + 1 ≤ 3518437208883) :
  Calls Tryz.prog 173 #[.slice a xs.length c] w fun e w' => ∃ a' c', e = .returned (.slice a' xs.length c') ∧ FrW w.heap.size w' a' c' xs ∧ Below w.heap.size w w' := by
 have q22 : ∀ (w : World) (a : Option Addr) (n c n' c' : Nat), (binOp .eql 38 (.slice a n c) (.slice none n' c')).run Tryz.prog w = .ok (.bool a.isNone) w := fun w a n c n' c' => Lib.run_eql_slice_nil w _ _ a n c n' c' Tryz.underlying38
 cases a with
 | none =>
  have h0 : xs.length = 0 := by
   by_cases h0 : xs.length = 0
   ·exact h0
   ·obtain ⟨b, off, e, _⟩ := h 0 (by omega); cases e
  go_enter Tryz.func173, Tryz.ntmps173
  go_wp2_with fail
  go_ret
  refine ⟨none, 0, by rw [h0]; rfl, ⟨flatW_len xs, .inl ⟨by rw [h0], h0⟩⟩, Below.refl _ _⟩
 | some ad =>
  obtain ⟨i0, hi, hz0, hz1, hz2⟩ := info_of infoWr; have A := hid (rowW_flat h); have hL := flatW_len xs; obtain ⟨n, hn⟩ : ∃ n, n = xs.length := ⟨_, rfl⟩; rw [← hn] at hL hl ⊢; have HN := hid hn; have HL := hid hL; have HO := hid (flatW_one xs); have HS := hid hl; clear h hl hL hn; go_enter Tryz.func173, Tryz.ntmps173
  go_wp2_with (at_builtin; refine wpList_append_own _ rfl _ _ 38 rfl w.heap.size 117 i0 (.agg #[.string ⟨#[]⟩, .bool false, .string ⟨#[]⟩]) 3 40 Tryz.underlying38 hi hz0 hz1 hz2 rfl (by decide) _ _ _ rfl (World.ownsRow_made w #[] 0 (Nat.le_refl _) (Nat.zero_le _) (by simp)) ad n c (flatW xs) rfl ?qc1 ?qc2 ?qc3 ?qc4 ?qc5 ?qc6 ?_)
  case qc1 => exact HL.out
  case qc2 =>
   intro j u hj; exact Lib.cell?_alloc_some _ (A.out j u hj)
  case qc3 => exact HO.out
  case qc4 => rw [Nat.zero_add]; have := HS.out; unfold maxLen; omega
  case qc5 => rw [Nat.zero_add]; have := HS.out; omega
  case qc6 => simp
  intro v' w1 hown hgrow hnil; have hown' : w1.ownsRow w.heap.size 117 3 v' n (flatW xs) := by simpa using hown
  obtain ⟨a', c', rfl⟩ := ows hown'; go_wp2_with fail
  go_ret
  exact ⟨a', c', rfl, by rw [FrW, ← HN.out]; exact hown', ((Below.refl _ w).alloc (Nat.le_refl _) _).grown hgrow (by simp) (by intro k hk; simp [Value.ownBlock] at hk; omega)⟩
structure Hv.fresh (B : Nat) (W : World) (v : Hv) : Prop where
 r : Fr2 B W v.ra v.rc v.h.rs
 w : FrW B W v.wa v.wc v.h.ws
theorem Hv.fresh.ok {B : Nat} {W : World} {v : Hv} (h : v.fresh B W) (rl : v.h.rs.length + 1 ≤ 4398046511104) (wl : v.h.ws.length + 1 ≤ 3518437208883) : v.ok W := ⟨h.r.row, h.w.row, rl, wl⟩
theorem Hv.fresh.later {B : Nat} {w w' : World} {v : Hv} (h : v.fresh B w) (hb : Below w.heap.size w w') : v.fresh B w' :=
 ⟨owk h.r fun g hg => hb.block g (h.r.lt g hg).2, owk h.w fun g hg => hb.block g (h.w.lt g hg).2⟩
theorem owb {w : World} {B B' size n : Nat} {e : TypeId} {v : Value} {xs : List Value} (h : w.ownsRow B e size v n xs) (hb : B' ≤ B) : w.ownsRow B' e size v n xs := by
 obtain ⟨h1, h2 | ⟨g, cap, cur, e1, hB, hh⟩⟩ := h
 ·exact ⟨h1, .inl h2⟩
 ·exact ⟨h1, .inr ⟨g, cap, cur, e1, Nat.le_trans hb hB, hh⟩⟩
theorem Fr2.later {B : Nat} {w w' : World} {a : Option Addr} {c : Nat} {xs : List T2} (h : Fr2 B w a c xs) (hb : Below w.heap.size w w') : Fr2 B w' a c xs := owk h fun g hg => hb.block g (h.lt g hg).2
theorem own_end {w wx W W' : World} {k0 k1 k2 k3 k4 k5 x6 x7 : Value} {T : TypeId} {B1 B2 c1 c2 : Nat} {a1 a2 : Option Addr} {rs : List T2} {ws : List Wr}
  (hbx : Below w.heap.size w wx) (hb : Below wx.heap.size wx W) (hsz : w.heap.size + 1 < wx.heap.size) (hblk : wx.heap[w.heap.size]? = some (.cells #[k0, k1, k2, k3, k4, k5, x6, x7] T))
  (f1 : Fr2 B1 W a1 c1 rs) (f2 : FrW B2 W a2 c2 ws) (h1 : wx.heap.size ≤ B1) (h2 : wx.heap.size ≤ B2)
  (hW : W' = (W.setCell ⟨w.heap.size, 6, none⟩ (.slice a1 rs.length c1)).setCell ⟨w.heap.size, 7, none⟩ (.slice a2 ws.length c2) ∨ W' = (W.setCell ⟨w.heap.size, 7, none⟩ (.slice a2 ws.length c2)).setCell ⟨w.heap.size, 6, none⟩ (.slice a1 rs.length c1)) :
  Hid (Fr2 w.heap.size W' a1 c1 rs) ∧ Hid (FrW w.heap.size W' a2 c2 ws) ∧ Hid (W'.heap[w.heap.size]? = some (.cells #[k0, k1, k2, k3, k4, k5, .slice a1 rs.length c1, .slice a2 ws.length c2] T)) ∧ Hid (W'.heap[w.heap.size + 1]? = wx.heap[w.heap.size + 1]?) ∧ Hid (Below w.heap.size w W') := by
 have hoth : ∀ k, k ≠ w.heap.size → W'.heap[k]? = W.heap[k]? := fun k hk => by
  rcases hW with rfl | rfl <;> rw [Below.heap_setCell _ _ _ _ (by exact hk), Below.heap_setCell _ _ _ _ (by exact hk)]
 have hbW := Below.on hbx hb; have hblkW : W.heap[w.heap.size]? = some (.cells #[k0, k1, k2, k3, k4, k5, x6, x7] T) := (hb.block _ (by omega)).trans hblk; refine ⟨owb (owk f1 fun g hg => hoth g (by have := (f1.lt g hg).1; omega)) (by omega), owb (owk f2 fun g hg => hoth g (by have := (f2.lt g hg).1; omega)) (by omega), ?_, ?_, ?_⟩
 ·show _ = _
  rcases hW with rfl | rfl
  ·exact heap_setCell_same _ _ _ _ _ _ (heap_setCell_same _ _ _ _ _ _ hblkW)
  ·exact heap_setCell_same _ _ _ _ _ _ (heap_setCell_same _ _ _ _ _ _ hblkW)
 ·exact (hoth _ (by omega)).trans (hb.block _ hsz)
 ·rcases hW with rfl | rfl
  ·exact Below.setCell (Below.setCell hbW (Nat.le_refl _) _) (Nat.le_refl _) _
  ·exact Below.setCell (Below.setCell hbW (Nat.le_refl _) _) (Nat.le_refl _) _
theorem own_is {w : World} {v : Hv} (h : v.ok w) :
  Calls Tryz.prog 116 #[v.val] w fun e w' => ∃ v' : Hv, e = .returned v'.val ∧ v'.h = v.h ∧ v'.fresh w.heap.size w' ∧ Below w.heap.size w w' := by
 obtain ⟨⟨⟨vc, vs⟩, home, vw, vl, vn, rs, ws⟩, ra, rc, wa, wk⟩ := v; obtain ⟨hr, hw, hrl, hwl⟩ := h; simp only at hr hw hrl hwl; have HR := hid hr; have HW := hid hw; have HRL := hid hrl; have HWL := hid hwl; clear hr hw hrl hwl; go_enter Tryz.func116, Tryz.ntmps116
 go_wp2_with fail
 obtain ⟨wx, hwx⟩ : ∃ wx, wx = (w.alloc (.cells #[.int .u32 vc, .int .u32 vs, .int .u32 home, .int .u64 vw, .int .u32 vl, .int .u32 vn, .slice ra rs.length rc, .slice wa ws.length wk] 100)).alloc (.cells #[.int .u32 0, .int .u32 0, .int .u32 0, .int .u64 0, .int .u32 0, .int .u32 0, .slice none 0 0, .slice none 0 0] 100) := ⟨_, rfl⟩; have hbx : Below w.heap.size w wx := by rw [hwx]; exact Below.al (Below.al (Below.refl _ _) _) _
 have CS : Hid (∀ W, Below w.heap.size w W → Calls Tryz.prog 172 #[.slice ra rs.length rc] W fun e w' => ∃ a' c', e = .returned (.slice a' rs.length c') ∧ Fr2 W.heap.size w' a' c' rs ∧ Below W.heap.size W w') := fun W hb => cloneS_is (HR.out.later hb) HRL.out
 have CW : Hid (∀ W, Below w.heap.size w W → Calls Tryz.prog 173 #[.slice wa ws.length wk] W fun e w' => ∃ a' c', e = .returned (.slice a' ws.length c') ∧ FrW W.heap.size w' a' c' ws ∧ Below W.heap.size W w') := fun W hb => cloneW_is (HW.out.later hb) HWL.out
 have f3 : ∀ o, wx.frozen? ⟨w.heap.size, o, none⟩ = false := fun o => by rw [hwx]; simp [go_sem]
 have x6 : wx.cell? ⟨w.heap.size, 6, none⟩ = some (.slice ra rs.length rc) := by rw [hwx]; simp [go_sem]
 have x7 : wx.cell? ⟨w.heap.size, 7, none⟩ = some (.slice wa ws.length wk) := by rw [hwx]; simp [go_sem]
 have hsz : w.heap.size + 1 < wx.heap.size := by rw [hwx]; simp
 have hlt : w.heap.size < wx.heap.size := by omega
 have hblk : wx.heap[w.heap.size]? = some (.cells #[.int .u32 vc, .int .u32 vs, .int .u32 home, .int .u64 vw, .int .u32 vl, .int .u32 vn, .slice ra rs.length rc, .slice wa ws.length wk] 100) := by
  rw [hwx, (MapKept.heap_alloc _ _).2 _ (by simp)]; exact (MapKept.heap_alloc _ _).1
 have HBK : Hid (wx.heap[w.heap.size + 1]? = some (.cells #[.int .u32 0, .int .u32 0, .int .u32 0, .int .u64 0, .int .u32 0, .int .u32 0, .slice none 0 0, .slice none 0 0] 100)) := by
  show _ = _
  rw [hwx, show w.heap.size + 1 = (w.alloc (.cells #[.int .u32 vc, .int .u32 vs, .int .u32 home, .int .u64 vw, .int .u32 vl, .int .u32 vn, .slice ra rs.length rc, .slice wa ws.length wk] 100)).heap.size by simp]; exact (MapKept.heap_alloc _ _).1
 rw [← hwx]; clear hwx; go_cut [] (fun wz => ∃ a1 c1 a2 c2, Hid (Fr2 w.heap.size wz a1 c1 rs) ∧ Hid (FrW w.heap.size wz a2 c2 ws) ∧ Hid (wz.heap[w.heap.size]? = some (.cells #[.int .u32 vc, .int .u32 vs, .int .u32 home, .int .u64 vw, .int .u32 vl, .int .u32 vn, .slice a1 rs.length c1, .slice a2 ws.length c2] 100)) ∧ Hid (wz.heap[w.heap.size + 1]? = wx.heap[w.heap.size + 1]?) ∧ Hid (Below w.heap.size w wz))
 case first =>
  go_region_with (first
   | (go_at_call 172; refine (CS.out _ (by (repeat (first | exact Below.refl _ _ | assumption | refine Below.drew ?_ | refine Below.al ?_ _ | refine Below.setCell ?_ (by first | exact Nat.le_refl _ | simp <;> omega) _ | refine Below.on ?_ (by assumption))))).mono ?_; rintro e w1 ⟨a1, c1, rfl, hf1, hb1⟩; have hs1 : w.heap.size < w1.heap.size := Nat.lt_of_lt_of_le (by first | exact hlt | assumption) hb1.size; have y6 := (bcell hb1).1 w.heap.size 6 (by first | exact hlt | assumption); have y7 := (bcell hb1).1 w.heap.size 7 (by first | exact hlt | assumption); have z6 := (bcell hb1).2 w.heap.size 6 (by first | exact hlt | assumption); have z7 := (bcell hb1).2 w.heap.size 7 (by first | exact hlt | assumption))
   | (go_at_call 173; refine (CW.out _ (by (repeat (first | exact Below.refl _ _ | assumption | refine Below.drew ?_ | refine Below.al ?_ _ | refine Below.setCell ?_ (by first | exact Nat.le_refl _ | simp <;> omega) _ | refine Below.on ?_ (by assumption))))).mono ?_; rintro e w2 ⟨a2, c2, rfl, hf2, hb2⟩; have hs2 : w.heap.size < w2.heap.size := Nat.lt_of_lt_of_le (by first | exact hlt | assumption) hb2.size; have y6 := (bcell hb2).1 w.heap.size 6 (by first | exact hlt | assumption); have y7 := (bcell hb2).1 w.heap.size 7 (by first | exact hlt | assumption); have z6 := (bcell hb2).2 w.heap.size 6 (by first | exact hlt | assumption); have z7 := (bcell hb2).2 w.heap.size 7 (by first | exact hlt | assumption)))
  all_goals (try go_wp2_with fail)
  all_goals go_meet
  all_goals refine ⟨a1, c1, a2, c2, ?_⟩
  all_goals first
   | exact own_end hbx (Below.on (Below.on (Below.drew (Below.refl _ wx)) hb1) hb2) hsz hblk (hf1.later hb2) hf2 (Nat.le_refl _) hb1.size (by first | exact .inl rfl | exact .inr rfl)
   | exact own_end hbx (Below.on (Below.on (Below.drew (Below.refl _ wx)) hb2) hb1) hsz hblk hf1 (hf2.later hb1) hb2.size (Nat.le_refl _) (by first | exact .inl rfl | exact .inr rfl)
 case rest =>
  obtain ⟨a1, c1, a2, c2, F1, F2, HK, HZ, HB⟩ := hcut; have k0 : wc.cell? ⟨w.heap.size, 0, none⟩ = some (.int .u32 vc) := cob HK.out rfl; have k1 : wc.cell? ⟨w.heap.size, 1, none⟩ = some (.int .u32 vs) := cob HK.out rfl; have k2 : wc.cell? ⟨w.heap.size, 2, none⟩ = some (.int .u32 home) := cob HK.out rfl; have k3 : wc.cell? ⟨w.heap.size, 3, none⟩ = some (.int .u64 vw) := cob HK.out rfl; have k4 : wc.cell? ⟨w.heap.size, 4, none⟩ = some (.int .u32 vl) := cob HK.out rfl; have k5 : wc.cell? ⟨w.heap.size, 5, none⟩ = some (.int .u32 vn) := cob HK.out rfl; have k6 : wc.cell? ⟨w.heap.size, 6, none⟩ = some (.slice a1 rs.length c1) := cob HK.out rfl; have k7 : wc.cell? ⟨w.heap.size, 7, none⟩ = some (.slice a2 ws.length c2) := cob HK.out rfl
  have hz : wc.heap[w.heap.size + 1]? = some (.cells #[.int .u32 0, .int .u32 0, .int .u32 0, .int .u64 0, .int .u32 0, .int .u32 0, .slice none 0 0, .slice none 0 0] 100) := HZ.out.trans HBK.out; have r0 : wc.cell? ⟨w.heap.size + 1, 0, none⟩ = some (.int .u32 0) := cob hz rfl; have r1 : wc.cell? ⟨w.heap.size + 1, 1, none⟩ = some (.int .u32 0) := cob hz rfl; have r2 : wc.cell? ⟨w.heap.size + 1, 2, none⟩ = some (.int .u32 0) := cob hz rfl; have r3 : wc.cell? ⟨w.heap.size + 1, 3, none⟩ = some (.int .u64 0) := cob hz rfl; have r4 : wc.cell? ⟨w.heap.size + 1, 4, none⟩ = some (.int .u32 0) := cob hz rfl; have r5 : wc.cell? ⟨w.heap.size + 1, 5, none⟩ = some (.int .u32 0) := cob hz rfl; have r6 : wc.cell? ⟨w.heap.size + 1, 6, none⟩ = some (.slice none 0 0) := cob hz rfl
  have r7 : wc.cell? ⟨w.heap.size + 1, 7, none⟩ = some (.slice none 0 0) := cob hz rfl; have f4 : ∀ o, wc.frozen? ⟨w.heap.size + 1, o, none⟩ = false := fun o => by simp [World.frozen?, hz]
  have HH := hid hz; clear hz HK HZ; go_wp2_with fail
  obtain ⟨w8, hw8⟩ : ∃ w8, w8 = ((((((((wc.setCell ⟨w.heap.size + 1, 0, none⟩ (.int .u32 vc)).setCell ⟨w.heap.size + 1, 1, none⟩ (.int .u32 vs)).setCell ⟨w.heap.size + 1, 2, none⟩ (.int .u32 home)).setCell ⟨w.heap.size + 1, 3, none⟩ (.int .u64 vw)).setCell ⟨w.heap.size + 1, 4, none⟩ (.int .u32 vl)).setCell ⟨w.heap.size + 1, 5, none⟩ (.int .u32 vn)).setCell ⟨w.heap.size + 1, 6, none⟩ (.slice a1 rs.length c1)).setCell ⟨w.heap.size + 1, 7, none⟩ (.slice a2 ws.length c2)) := ⟨_, rfl⟩; have hoth : ∀ k, k ≠ w.heap.size + 1 → w8.heap[k]? = wc.heap[k]? := fun k hk => by
   rw [hw8]; repeat rw [Below.heap_setCell _ _ _ _ (by exact hk)]
  have hb8 : Below w.heap.size w w8 := by
   rw [hw8]; repeat refine Below.setCell ?_ (by exact Nat.le_succ _) _
   exact HB.out
  have hblk8 : w8.heap[w.heap.size + 1]? = some (.cells #[.int .u32 vc, .int .u32 vs, .int .u32 home, .int .u64 vw, .int .u32 vl, .int .u32 vn, .slice a1 rs.length c1, .slice a2 ws.length c2] 100) := by
   rw [hw8]; exact heap_setCell_same _ _ _ _ _ _ (heap_setCell_same _ _ _ _ _ _ (heap_setCell_same _ _ _ _ _ _ (heap_setCell_same _ _ _ _ _ _ (heap_setCell_same _ _ _ _ _ _ (heap_setCell_same _ _ _ _ _ _ (heap_setCell_same _ _ _ _ _ _ (heap_setCell_same _ _ _ _ _ _ HH.out)))))))
  have n1 : ∀ g, (Value.slice a1 rs.length c1).ownBlock = some g → g ≠ w.heap.size + 1 := fun g hg e => by
   obtain ⟨_, ⟨e1, _⟩ | ⟨g', cap, cur, e1, _, hh, _⟩⟩ := F1.out
   ·injection e1 with e1; subst e1; simp [Value.ownBlock] at hg
   ·injection e1 with e1; subst e1
    simp [Value.ownBlock] at hg; subst hg; rw [e, HH.out] at hh; injection hh with hh
    injection hh with _ hh
    revert hh; decide
  have n2 : ∀ g, (Value.slice a2 ws.length c2).ownBlock = some g → g ≠ w.heap.size + 1 := fun g hg e => by
   obtain ⟨_, ⟨e1, _⟩ | ⟨g', cap, cur, e1, _, hh, _⟩⟩ := F2.out
   ·injection e1 with e1; subst e1; simp [Value.ownBlock] at hg
   ·injection e1 with e1; subst e1
    simp [Value.ownBlock] at hg; subst hg; rw [e, HH.out] at hh; injection hh with hh
    injection hh with _ hh
    revert hh; decide
  rw [← hw8]; have t0 : w8.cell? ⟨w.heap.size + 1, 0, none⟩ = some (.int .u32 vc) := cob hblk8 rfl; have t1 : w8.cell? ⟨w.heap.size + 1, 1, none⟩ = some (.int .u32 vs) := cob hblk8 rfl; have t2 : w8.cell? ⟨w.heap.size + 1, 2, none⟩ = some (.int .u32 home) := cob hblk8 rfl; have t3 : w8.cell? ⟨w.heap.size + 1, 3, none⟩ = some (.int .u64 vw) := cob hblk8 rfl; have t4 : w8.cell? ⟨w.heap.size + 1, 4, none⟩ = some (.int .u32 vl) := cob hblk8 rfl; have t5 : w8.cell? ⟨w.heap.size + 1, 5, none⟩ = some (.int .u32 vn) := cob hblk8 rfl; have t6 : w8.cell? ⟨w.heap.size + 1, 6, none⟩ = some (.slice a1 rs.length c1) := cob hblk8 rfl; have t7 : w8.cell? ⟨w.heap.size + 1, 7, none⟩ = some (.slice a2 ws.length c2) := cob hblk8 rfl; clear hw8 hblk8
  refine bodyPost_ret (v := .agg #[.int .u32 vc, .int .u32 vs, .int .u32 home, .int .u64 vw, .int .u32 vl, .int .u32 vn, .slice a1 rs.length c1, .slice a2 ws.length c2]) (by simp [results, Tryz.results116, go_sem, t0, t1, t2, t3, t4, t5, t6, t7]) rfl ⟨⟨⟨⟨vc, vs⟩, home, vw, vl, vn, rs, ws⟩, a1, c1, a2, c2⟩, rfl, rfl, ⟨?_, ?_⟩, hb8⟩
  ·exact owk F1.out fun g hg => hoth g (n1 g hg)
  ·exact owk F2.out fun g hg => hoth g (n2 g hg)
end Go.Proofs.YtofpaldolcnmiaaGreat.Lk
