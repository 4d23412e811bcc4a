import Derived.Shelf.SlicesE.Clone
import Derived.Shelf.SlicesQ.IndexFunc
import Derived.Shelf.SlGeneric
import Derived.Ground.SlgnProg
import Derived.Ground.SlgfProg
import Derived.Test.YtneojeidpfjpbaaGreatDoorProg
import Derived.Test.YtneojeidpfjpbaaGreatDoorB02
set_option linter.unusedVariables false
namespace Go.Proofs
open Go.Shelf
def Tryz.contW_ren : Go.Shelf.Ren := ⟨fun | 8 => 89 | 6 => 126 | n => n, fun | 22 => 41 | 23 => 103 | 25 => 157 | 4 => 4 | 3 => 3 | 0 => 0 | n => n, fun | n => n⟩
theorem Tryz.contW : Go.Proofs.SlLaysH0.n8 Tryz.prog Tryz.contW_ren := {
 mixed := by kernel_rfl
 f6 := ⟨Tryz.f126.name, by decide, Tryz.func126.trans (congrArg some (by kernel_rfl))⟩
 f8 := ⟨Tryz.f89.name, by decide, Tryz.func89.trans (congrArg some (by kernel_rfl))⟩
 t0 := Tryz.underlying0
 a0 := Tryz.isAgg0
 z0 := Tryz.sizeOf0
 v0 := Tryz.zeroValue0
 t3 := Tryz.underlying3
 a3 := Tryz.isAgg3
 z3 := Tryz.sizeOf3
 v3 := Tryz.zeroValue3
 t4 := Tryz.underlying4
 a4 := Tryz.isAgg4
 z4 := Tryz.sizeOf4
 v4 := Tryz.zeroValue4
 t22 := Tryz.underlying41
 a22 := Tryz.isAgg41
 z22 := Tryz.sizeOf41
 v22 := Tryz.zeroValue41
 t25 := Tryz.underlying157
 a25 := Tryz.isAgg157
 z25 := Tryz.sizeOf157
 v25 := Tryz.zeroValue157 }
def Tryz.contS_ren : Go.Shelf.Ren := ⟨fun | 8 => 257 | 6 => 268 | n => n, fun | 22 => 40 | 23 => 25 | 25 => 243 | 4 => 4 | 3 => 3 | 0 => 0 | n => n, fun | n => n⟩
theorem Tryz.contS : Go.Proofs.SlLaysH0.n8 Tryz.prog Tryz.contS_ren := {
 mixed := by kernel_rfl
 f6 := ⟨Tryz.f268.name, by decide, Tryz.func268.trans (congrArg some (by kernel_rfl))⟩
 f8 := ⟨Tryz.f257.name, by decide, Tryz.func257.trans (congrArg some (by kernel_rfl))⟩
 t0 := Tryz.underlying0
 a0 := Tryz.isAgg0
 z0 := Tryz.sizeOf0
 v0 := Tryz.zeroValue0
 t3 := Tryz.underlying3
 a3 := Tryz.isAgg3
 z3 := Tryz.sizeOf3
 v3 := Tryz.zeroValue3
 t4 := Tryz.underlying4
 a4 := Tryz.isAgg4
 z4 := Tryz.sizeOf4
 v4 := Tryz.zeroValue4
 t22 := Tryz.underlying40
 a22 := Tryz.isAgg40
 z22 := Tryz.sizeOf40
 v22 := Tryz.zeroValue40
 t25 := Tryz.underlying243
 a25 := Tryz.isAgg243
 z25 := Tryz.sizeOf243
 v25 := Tryz.zeroValue243 }
end Go.Proofs
namespace Go.Proofs.YtneojeidpfjpbaaGreatDoor.Lk
open Go.RowKit Go.Sort Go.Shelf Go.Lib
theorem pred_in (k : ByteArray) (B : Nat) (w : World) (hB : B < w.heap.size) (hc : w.cell? ⟨B, 0, none⟩ = some (.string k)) :
  PredBelow Tryz.prog 258 #[.pointer (some ⟨B, 0, none⟩)] (fun x : T2 => .agg (encS x).toArray) (insB k) w := fun W x hb => by
 have hc' : W.cell? ⟨B, 0, none⟩ = some (.string k) := (hb.cell (p := ⟨B, 0, none⟩) hB).trans hc; have hBW : B < W.heap.size := Nat.lt_of_lt_of_le hB hb.size; have hne : B ≠ W.heap.size := by omega
 obtain ⟨lo, hi⟩ := x; obtain ⟨u, hu⟩ : ∃ u, insB k (lo, hi) = u := ⟨_, rfl⟩; rw [hu]; have HU := hid hu; clear hu hc; show Calls Tryz.prog 258 #[.agg #[.string lo, .string hi], .pointer (some ⟨B, 0, none⟩)] W _
 go_enter Tryz.func258, Tryz.ntmps258
 go_wp2_with fail
 refine (inside_is (s := (lo, hi)) HU.out _).mono ?_; rintro e w1 ⟨rfl, hw1⟩; go_wp2_with fail
 go_ret
 exact ⟨rfl, Below.on (Below.al hb _) hw1⟩
theorem row2_cells {w : World} {a : Option Addr} {xs : List T2} (h : Row2 w a xs) (h0 : 0 < xs.length) : ∃ b off, a = some ⟨b, off, none⟩ ∧ b < w.heap.size ∧ ∀ j, j < xs.length → ∀ i v, (encS xs[j]!)[i]? = some v → w.cell? ⟨b, off + j * 2 + i, none⟩ = some v := by
 obtain ⟨b, off, rfl, c0, _⟩ := h 0 h0; refine ⟨b, off, rfl, World.block_lt_of_cell? _ _ c0, fun j hj i v hi => ?_⟩; obtain ⟨b', off', e, d0, d1⟩ := h j hj; injection e with e
 injection e with e1 e2
 subst e1 e2; have en : xs[j]! = nth2 xs j := by simp [nth2, getElem!_pos, hj]
 rw [en] at hi; match i, hi with
 | 0, hi => simp [encS] at hi; rw [← hi]; exact d0
 | 1, hi => simp [encS] at hi; rw [← hi]; exact d1
 | i + 2, hi => simp [encS] at hi
theorem rowW_cells [Inhabited Wr] {w : World} {a : Option Addr} {xs : List Wr} (h : RowW w a xs) (h0 : 0 < xs.length) : ∃ b off, a = some ⟨b, off, none⟩ ∧ b < w.heap.size ∧ ∀ j, j < xs.length → ∀ i v, (encW xs[j]!)[i]? = some v → w.cell? ⟨b, off + j * 3 + i, none⟩ = some v := by
 obtain ⟨b, off, rfl, c0, _⟩ := h 0 h0; refine ⟨b, off, rfl, World.block_lt_of_cell? _ _ c0, fun j hj i v hi => ?_⟩; obtain ⟨b', off', e, d0, d1, d2⟩ := h j hj; injection e with e
 injection e with e1 e2
 subst e1 e2; have en : xs[j]! = nthW xs j := by simp [nthW, getElem!_pos, hj]
 rw [en] at hi; match i, hi with
 | 0, hi => simp [encW] at hi; rw [← hi]; exact d0
 | 1, hi => simp [encW] at hi; rw [← hi]; exact d1
 | 2, hi => simp [encW] at hi; rw [← hi]; exact d2
 | i + 3, hi => simp [encW] at hi
theorem contS_nil (a : Option Addr) (c : Nat) (f : Value) (w : World) :
  Calls Tryz.prog 257 #[.slice a 0 c, f] w fun e w' => e = .returned (.bool false) ∧ Below w.heap.size w w' := by
 have IX : ∀ W, Calls Tryz.prog 268 #[.slice a 0 c, f] W fun e w' => e = .returned (.int .i64 (-1)) ∧ w' = W := fun W => by
  go_enter Tryz.func268, Tryz.ntmps268
  go_wp2_with fail
  go_loopg [5, 8] 0 (fun g s5 s8 wr => s8 = .int .i64 0 ∧ wr = W)
  case atStart => exact ⟨rfl, rfl⟩
  case round =>
   obtain ⟨rfl, rfl⟩ := hrel; go_wp2_with fail
   go_ret
   exact ⟨rfl, rfl⟩
 go_enter Tryz.func257, Tryz.ntmps257
 go_wp2_with (go_at_call 268; refine (IX _).mono ?_; rintro e w1 ⟨rfl, rfl⟩)
 go_ret
 exact ⟨rfl, Below.refl _ _⟩
theorem contW_nil (a : Option Addr) (c : Nat) (f : Value) (w : World) :
  Calls Tryz.prog 89 #[.slice a 0 c, f] w fun e w' => e = .returned (.bool false) ∧ Below w.heap.size w w' := by
 have IX : ∀ W, Calls Tryz.prog 126 #[.slice a 0 c, f] W fun e w' => e = .returned (.int .i64 (-1)) ∧ w' = W := fun W => by
  go_enter Tryz.func126, Tryz.ntmps126
  go_wp2_with fail
  go_loopg [5, 8] 0 (fun g s5 s8 wr => s8 = .int .i64 0 ∧ wr = W)
  case atStart => exact ⟨rfl, rfl⟩
  case round =>
   obtain ⟨rfl, rfl⟩ := hrel; go_wp2_with fail
   go_ret
   exact ⟨rfl, rfl⟩
 go_enter Tryz.func89, Tryz.ntmps89
 go_wp2_with (go_at_call 126; refine (IX _).mono ?_; rintro e w1 ⟨rfl, rfl⟩)
 go_ret
 exact ⟨rfl, Below.refl _ _⟩
theorem within_is {k : ByteArray} {a : Option Addr} {c : Nat} {xs : List T2} {w : World} {u : Bool} (hu : withinB k xs = u) (h : Row2 w a xs) (hl : xs.length ≤ 9223372036854775807) :
  Calls Tryz.prog 227 #[.string k, .slice a xs.length c] w fun e w' => e = .returned (.bool u) ∧ Below w.heap.size w w' := by
 have CT : Hid (Calls Tryz.prog 257 #[.slice a xs.length c, .func (.func 258) #[] #[.pointer (some ⟨w.heap.size, 0, none⟩)]] (w.alloc (.cells #[.string k] 9)) fun e w' => e = .returned (.bool u) ∧ Below w.heap.size w w') := by
  by_cases h0 : xs.length = 0
  ·rw [h0]; have : u = false := by rw [← hu, List.eq_nil_of_length_eq_zero h0]; rfl
   subst this; exact (contS_nil a c _ _).mono fun e w' ⟨he, hb⟩ => ⟨he, Below.on (Below.al (Below.refl _ _) _) hb⟩
  ·have eg : ∀ args w, (callFunc 258 args).run Tryz.prog w = .ok (.enter 258 args) w := enters_of Tryz.func258 (by kernel_rfl) rfl; have hb : Below w.heap.size w (w.alloc (.cells #[.string k] 9)) := Below.al (Below.refl _ _) _; obtain ⟨b, off, rfl, hlt, hc⟩ := row2_cells (h.later hb) (by omega); have hcon := AnyQ.slices_ContainsFunc Tryz.contS 2 Tryz.isAgg25 Tryz.sizeOf25 encS (fun _ => rfl) (insB k) 258 #[.pointer (some ⟨w.heap.size, 0, none⟩)] eg b off xs.length c xs (w.alloc (.cells #[.string k] 9))
    (pred_in k w.heap.size _ (by simp) (by simp)) (Nat.le_refl _) hl hlt hc
   change Calls Tryz.prog 257 _ _ _ at hcon
   rw [List.take_of_length_le (Nat.le_refl _), show xs.any (insB k) = u from hu] at hcon; exact hcon.mono fun e w' ⟨he, hb'⟩ => ⟨he, Below.on hb hb'⟩
 clear hu h hl; go_enter Tryz.func227, Tryz.ntmps227
 go_wp2_with fail
 refine CT.out.mono ?_; rintro e w1 ⟨rfl, hw1⟩; go_wp2_with fail
 go_ret
 exact ⟨rfl, hw1⟩
theorem pred_any {a : Option Addr} {c : Nat} {xs : List T2} {w : World} (h : Row2 w a xs) (hl : xs.length ≤ 9223372036854775807) (B : Nat) (hB : B < w.heap.size) (hc : w.cell? ⟨B, 0, none⟩ = some (.slice a xs.length c)) :
  PredBelow Tryz.prog 259 #[.pointer (some ⟨B, 0, none⟩)] (fun x : Wr => .agg (encW x).toArray) (fun x => withinB x.key xs) w := fun W x hb => by
 have hc' : W.cell? ⟨B, 0, none⟩ = some (.slice a xs.length c) := (hb.cell (p := ⟨B, 0, none⟩) hB).trans hc; have hBW : B < W.heap.size := Nat.lt_of_lt_of_le hB hb.size; have hne : B ≠ W.heap.size := by omega
 obtain ⟨key, del, val⟩ := x; obtain ⟨u, hu⟩ : ∃ u, withinB key xs = u := ⟨_, rfl⟩; have hbW : Below w.heap.size w (W.alloc (.cells #[.string key, .bool del, .string val] 103)) := Below.al hb _; have WI := hid (within_is (c := c) hu (h.later hbW) hl); show Calls Tryz.prog 259 #[.agg #[.string key, .bool del, .string val], .pointer (some ⟨B, 0, none⟩)] W fun e w' => e = .returned (.bool (withinB key xs)) ∧ Below w.heap.size w w'
 rw [hu]; clear hu hc h hl; go_enter Tryz.func259, Tryz.ntmps259
 go_wp2_with fail
 refine WI.out.mono ?_; rintro e w1 ⟨rfl, hw1⟩; go_wp2_with fail
 go_ret
 exact ⟨rfl, Below.on hbW hw1⟩
theorem anyWithin_is {a' a : Option Addr} {c' c : Nat} {ws : List Wr} {xs : List T2} {w : World} {u : Bool} (hu : anyB ws xs = u) (hw : RowW w a' ws) (h : Row2 w a xs) (hlw : ws.length ≤ 9223372036854775807) (hl : xs.length ≤ 9223372036854775807) :
  Calls Tryz.prog 228 #[.slice a' ws.length c', .slice a xs.length c] w fun e w' => e = .returned (.bool u) ∧ Below w.heap.size w w' := by
 have CT : Hid (Calls Tryz.prog 89 #[.slice a' ws.length c', .func (.func 259) #[] #[.pointer (some ⟨w.heap.size, 0, none⟩)]] (w.alloc (.cells #[.slice a xs.length c] 40)) fun e w' => e = .returned (.bool u) ∧ Below w.heap.size w w') := by
  by_cases h0 : ws.length = 0
  ·rw [h0]; have : u = false := by rw [← hu, List.eq_nil_of_length_eq_zero h0]; rfl
   subst this; exact (contW_nil a' c' _ _).mono fun e w' ⟨he, hb⟩ => ⟨he, Below.on (Below.al (Below.refl _ _) _) hb⟩
  ·letI : Inhabited Wr := ⟨⟨⟨#[]⟩, false, ⟨#[]⟩⟩⟩
   have eg : ∀ args w, (callFunc 259 args).run Tryz.prog w = .ok (.enter 259 args) w := enters_of Tryz.func259 (by kernel_rfl) rfl; have hb : Below w.heap.size w (w.alloc (.cells #[.slice a xs.length c] 40)) := Below.al (Below.refl _ _) _; obtain ⟨b, off, rfl, hlt, hc⟩ := rowW_cells (hw.later hb) (by omega); have hcon := AnyQ.slices_ContainsFunc Tryz.contW 3 Tryz.isAgg103 Tryz.sizeOf103 encW (fun _ => rfl) (fun x => withinB x.key xs) 259 #[.pointer (some ⟨w.heap.size, 0, none⟩)] eg b off ws.length c' ws (w.alloc (.cells #[.slice a xs.length c] 40))
    (pred_any (c := c) (h.later hb) hl w.heap.size (by simp) (by simp)) (Nat.le_refl _) hlw hlt hc
   change Calls Tryz.prog 89 _ _ _ at hcon
   rw [List.take_of_length_le (Nat.le_refl _), show ws.any (fun x => withinB x.key xs) = u from hu] at hcon; exact hcon.mono fun e w' ⟨he, hb'⟩ => ⟨he, Below.on hb hb'⟩
 clear hu h hl hw hlw; go_enter Tryz.func228, Tryz.ntmps228
 go_wp2_with fail
 refine CT.out.mono ?_; rintro e w1 ⟨rfl, hw1⟩; go_wp2_with fail
 go_ret
 exact ⟨rfl, hw1⟩
end Go.Proofs.YtneojeidpfjpbaaGreatDoor.Lk
namespace Go.Proofs.YtneojeidpfjpbaaGreatDoor
open Go.RowKit
def Part (p o k : Nat) (w w' : World) : Prop := ∀ cs t z, w.heap[p]? = some (.cells cs t z) → ∃ cs', w'.heap[p]? = some (.cells cs' t z) ∧ cs'.size = cs.size ∧ ∀ j, j < o ∨ o + k ≤ j → cs'[j]? = cs[j]?
theorem Part.same {p o k : Nat} {w w' : World} (h : w'.heap[p]? = w.heap[p]?) : Part p o k w w' := fun cs t z hc => ⟨cs, h.trans hc, rfl, fun _ _ => rfl⟩
theorem Part.refl (p o k : Nat) (w : World) : Part p o k w w := Part.same rfl
theorem Part.trans {p o k : Nat} {a b c : World} (h : Part p o k a b) (h' : Part p o k b c) : Part p o k a c := fun cs t z hc => by
 obtain ⟨cs1, h1, s1, e1⟩ := h cs t z hc; obtain ⟨cs2, h2, s2, e2⟩ := h' cs1 t z h1; exact ⟨cs2, h2, s2.trans s1, fun j hj => (e2 j hj).trans (e1 j hj)⟩
theorem Part.wide {p o k o' k' : Nat} {w w' : World} (h : Part p o k w w') (h1 : o' ≤ o) (h2 : o + k ≤ o' + k') : Part p o' k' w w' := fun cs t z hc => by
 obtain ⟨cs1, h3, s1, e1⟩ := h cs t z hc; exact ⟨cs1, h3, s1, fun j hj => e1 j (by omega)⟩
theorem Part.below {p o k : Nat} {w w' : World} (h : Below w.heap.size w w') : Part p o k w w' := fun cs t z hc => ⟨cs, (h.block p (Array.getElem?_eq_some_iff.1 hc).1).trans hc, rfl, fun _ _ => rfl⟩
theorem Part.onl {F : Nat → Prop} {p o k : Nat} {w w' : World} (h : Onl F w w') (hp : ¬ F p) : Part p o k w w' := fun cs t z hc => ⟨cs, (h.block p (Array.getElem?_eq_some_iff.1 hc).1 hp).trans hc, rfl, fun _ _ => rfl⟩
theorem heap_put {w : World} {p o : Nat} {cs : Array Value} {t : TypeId} {z : Nat × Nat} (v : Value) (h : w.heap[p]? = some (.cells cs t z)) : (w.setCell ⟨p, o, none⟩ v).heap[p]? = some (.cells (cs.setIfInBounds o v) t z) := by
 obtain ⟨hlt, hk⟩ := Array.getElem?_eq_some_iff.1 h; show (w.heap.modify p _)[p]? = _
 rw [Array.getElem?_eq_getElem (by rw [Array.size_modify]; exact hlt), Array.getElem_modify_self, hk]; rfl
theorem Part.set (w : World) (p o : Nat) (v : Value) : Part p o 1 w (w.setCell ⟨p, o, none⟩ v) := fun cs t z hc => ⟨_, heap_put v hc, by simp, fun j hj => by rw [Array.getElem?_setIfInBounds_ne (by omega)]⟩
theorem Part.al {p o k : Nat} {w w' : World} (h : Part p o k w w') (x : Obj) : Part p o k w (w'.alloc x) := h.trans (Part.below (Below.al (Below.refl _ _) x))
end Go.Proofs.YtneojeidpfjpbaaGreatDoor
namespace Go.Proofs.YtneojeidpfjpbaaGreatDoor.Lk
open Go.RowKit Go.Sort
theorem cell_of_obj {w : World} {b o : Nat} {cs : Array Value} {t : TypeId} {z : Nat × Nat} {v : Value} (h : w.heap[b]? = some (.cells cs t z)) (hv : cs[o]? = some v) : w.cell? ⟨b, o, none⟩ = some v := by
 simp [World.cell?, h, hv]
structure Hv where
 h : Hd
 ra : Option Addr
 rc : Nat
 wa : Option Addr
 wc : Nat
abbrev Hv.val (v : Hv) : Value := .agg #[.int .u32 v.h.id.1, .int .u32 v.h.id.2, .int .u32 v.h.home, .int .u64 v.h.w, .int .u32 v.h.l, .int .u32 v.h.n, .slice v.ra v.h.rs.length v.rc, .slice v.wa v.h.ws.length v.wc]
structure Hv.ok (W : World) (v : Hv) : Prop where
 r : Row2 W v.ra v.h.rs
 w : RowW W v.wa v.h.ws
 rl : v.h.rs.length + 1 ≤ 4398046511104
 wl : v.h.ws.length + 1 ≤ 3518437208883
theorem Hv.ok.later {w w' : World} {v : Hv} (h : v.ok w) (hb : Below w.heap.size w w') : v.ok w' := ⟨h.r.later hb, h.w.later hb, h.rl, h.wl⟩
def Bare (w : World) (b : Nat) : Prop := ∀ o s, w.cell? ⟨b, o, none⟩ ≠ some (.string s)
theorem row2_onl {w w' : World} {F : Nat → Prop} {a : Option Addr} {xs : List T2} (h : Row2 w a xs) (ho : Onl F w w') (hF : ∀ b, F b → Bare w b) : Row2 w' a xs := fun i hi => by
 obtain ⟨b, off, e, h0, h1⟩ := h i hi; have hn : ¬ F b := fun hf => hF b hf _ _ h0
 exact ⟨b, off, e, ho.cell hn h0, ho.cell hn h1⟩
theorem rowW_onl {w w' : World} {F : Nat → Prop} {a : Option Addr} {xs : List Wr} (h : RowW w a xs) (ho : Onl F w w') (hF : ∀ b, F b → Bare w b) : RowW w' a xs := fun i hi => by
 obtain ⟨b, off, e, h0, h1, h2⟩ := h i hi; have hn : ¬ F b := fun hf => hF b hf _ _ h0
 exact ⟨b, off, e, ho.cell hn h0, ho.cell hn h1, ho.cell hn h2⟩
theorem Hv.ok.onl {w w' : World} {F : Nat → Prop} {v : Hv} (h : v.ok w) (ho : Onl F w w') (hF : ∀ b, F b → Bare w b) : v.ok w' := ⟨row2_onl h.r ho hF, rowW_onl h.w ho hF, h.rl, h.wl⟩
abbrev prs (V : List Hv) : List (Ix × Hv) := V.map fun v => (v.h.id, v)
structure TbO (W : World) (p oo : Nat) (ty : TypeId) (m1 m2 : Option Nat) (V : List Hv) (I : It) : Prop where
 obj : ∃ cs, W.heap[p]? = some (.cells cs ty (0, 0)) ∧ cs[oo]? = some (.map m1) ∧ cs[oo + 1]? = some (.map m2)
 bar : Bare W p
 held : MapO ixv Hv.val W m1 (prs V)
 ints : MapO Value.string ixv W m2 I
 rows : ∀ v ∈ V, v.ok W
 ok : Ok (V.map Hv.h) I
 nil : m1 = none ↔ m2 = none
 ne : ∀ b, m1 = some b → m2 ≠ some b
def Its (p : Nat) (m1 m2 : Option Nat) (b : Nat) : Prop := b = p ∨ m1 = some b ∨ m2 = some b
section
variable {w w' : World} {p oo : Nat} {ty : TypeId} {m1 m2 : Option Nat} {V : List Hv} {I : It}
theorem TbO.blk (h : TbO w p oo ty m1 m2 V I) : ∃ cs, w.heap[p]? = some (.cells cs ty (0, 0)) := by obtain ⟨cs, hc, _⟩ := h.obj; exact ⟨cs, hc⟩
theorem TbO.c0 (h : TbO w p oo ty m1 m2 V I) : w.cell? ⟨p, oo, none⟩ = some (.map m1) := by obtain ⟨cs, hc, x0, x1⟩ := h.obj; exact cell_of_obj hc x0
theorem TbO.c1 (h : TbO w p oo ty m1 m2 V I) : w.cell? ⟨p, oo + 1, none⟩ = some (.map m2) := by obtain ⟨cs, hc, x0, x1⟩ := h.obj; exact cell_of_obj hc x1
theorem TbO.loose (h : TbO w p oo ty m1 m2 V I) (j : Nat) : w.frozen? ⟨p, j, none⟩ = false := by obtain ⟨cs, hc, _⟩ := h.obj; simp [World.frozen?, hc]
theorem TbO.lt (h : TbO w p oo ty m1 m2 V I) : p < w.heap.size := by obtain ⟨cs, hc, _⟩ := h.obj; exact (Array.getElem?_eq_some_iff.1 hc).1
theorem bare_same {b : Nat} (h : Bare w b) (e : w'.heap[b]? = w.heap[b]?) : Bare w' b := fun o s hc => h o s (by simp only [World.cell?, e] at hc ⊢; exact hc)
theorem TbO.objs (h : TbO w p oo ty m1 m2 V I) (e : w'.heap[p]? = w.heap[p]?) : (∃ cs, w'.heap[p]? = some (.cells cs ty (0, 0)) ∧ cs[oo]? = some (.map m1) ∧ cs[oo + 1]? = some (.map m2)) ∧ Bare w' p := by
 obtain ⟨cs, hc, x⟩ := h.obj; exact ⟨⟨cs, e.trans hc, x⟩, bare_same h.bar e⟩
theorem TbO.later (h : TbO w p oo ty m1 m2 V I) (hb : Below w.heap.size w w') : TbO w' p oo ty m1 m2 V I :=
 ⟨(h.objs (hb.block p h.lt)).1, (h.objs (hb.block p h.lt)).2, h.held.later hb, h.ints.later hb, fun v hv => (h.rows v hv).later hb, h.ok, h.nil, h.ne⟩
theorem map_bare {es : Array MapEntry} {clock b : Nat} (h : w.heap[b]? = some (.map es clock)) : Bare w b := fun o s hc => by
 simp [World.cell?, h] at hc
theorem TbO.bare (h : TbO w p oo ty m1 m2 V I) {b : Nat} (hb : Its p m1 m2 b) : Bare w b := by
 rcases hb with rfl | rfl | rfl
 ·exact h.bar
 ·obtain ⟨es, clock, hb, _⟩ := h.held.at; exact map_bare hb
 ·obtain ⟨es, clock, hb, _⟩ := h.ints.at; exact map_bare hb
theorem bare_set {b o : Nat} {v : Value} (h : Bare w b) (hv : ∀ s, v ≠ .string s) : Bare (w.setCell ⟨b, o, none⟩ v) b := fun o' s hc => by
 by_cases e : o' = o
 ·subst e; cases hb : w.heap[b]? with
  | none =>
   have : (w.setCell ⟨b, o', none⟩ v).heap[b]? = none := by
    rw [Array.getElem?_eq_none_iff] at hb ⊢; simpa using hb
   simp [World.cell?, this] at hc
  | some ob =>
   cases ob with
   | cells cs t z =>
    simp only [World.cell?, heap_put v hb] at hc; by_cases hl : o' < cs.size
    ·simp [hl] at hc; exact hv s hc
    ·simp [hl] at hc
   | _ =>
    refine h o' s ?_; obtain ⟨hlt, hk⟩ := Array.getElem?_eq_some_iff.1 hb; have e : (w.setCell ⟨b, o', none⟩ v).heap[b]? = w.heap[b]? := by
     show (w.heap.modify b _)[b]? = _
     rw [Array.getElem?_eq_getElem (by rw [Array.size_modify]; exact hlt), Array.getElem_modify_self, hk, hb]
    simp only [World.cell?, e] at hc ⊢; exact hc
 ·have hne : (⟨b, o, none⟩ : Addr) ≠ ⟨b, o', none⟩ := fun k => by injection k with _ k _; exact e k.symm
  rw [World.cell?_setCell_other (h := hne)] at hc; exact h o' s hc
end
end Go.Proofs.YtneojeidpfjpbaaGreatDoor.Lk
