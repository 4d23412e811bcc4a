import Derived.Test.YtpnbgdbkiokooaaDoorDOnl
import Derived.Deep.Upon
import Derived.RangeFuncRecord
import Derived.Laws.CopyOwn
/- A row of texts anywhere in its block; the flight's object. -/
namespace Go.Proofs.YtpnbgdbkiokooaaDoor.Fl
open Go.RowKit Go.Sort Go.Proofs.YtpnbgdbkiokooaaDoor
set_option linter.unusedVariables false

def nthT (xs : List ByteArray) (i : Nat) : ByteArray := (xs[i]?).getD ⟨#[]⟩
theorem nthT_get {xs : List ByteArray} {i : Nat} (h : i < xs.length) : xs[i]? = some (nthT xs i) := by
  rw [nthT, List.getElem?_eq_getElem h]; rfl
/-- a block of texts, not frozen -/
def TyS (w : World) (g : Nat) : Prop := ∃ cur, w.heap[g]? = some (.cells cur 9 (0, 0))
theorem TyS.set {w : World} {g : Nat} (h : TyS w g) (b o : Nat) (v : Value) : TyS (w.setCell ⟨b, o, none⟩ v) g := by
  obtain ⟨cur, hc⟩ := h
  rw [setCell_eq]
  by_cases e : b = g
  · subst e
    exact ⟨cur.setIfInBounds o v, by simp [mapBlock, Array.getElem?_modify, hc, onCells]⟩
  · exact ⟨cur, by simp [mapBlock, Array.getElem?_modify, e, hc]⟩
theorem TyS.sets {g b : Nat} : ∀ (vs : List Value) (o : Nat) (w : World), TyS w g → TyS (w.setCells b o vs) g
  | [], _, _, h => h
  | v :: r, o, w, h => TyS.sets r (o + 1) _ (h.set b o v)
theorem TyS.loose {w : World} {g : Nat} (h : TyS w g) (o : Nat) : w.frozen? ⟨g, o, none⟩ = false := by
  obtain ⟨cur, hc⟩ := h
  simp [World.frozen?, hc]
theorem TyS.lt {w : World} {g : Nat} (h : TyS w g) : g < w.heap.size := by
  obtain ⟨cur, hc⟩ := h
  exact (Array.getElem?_eq_some_iff.1 hc).1
theorem TyS.keep {w w' : World} {g : Nat} (h : TyS w g) (hb : w'.heap[g]? = w.heap[g]?) : TyS w' g := by
  obtain ⟨cur, hc⟩ := h
  exact ⟨cur, hb.trans hc⟩

/-- texts that can be read -/
def Rd (w : World) (v : Value) (xs : List ByteArray) : Prop := ∃ a c, v = .slice a xs.length c ∧ ∀ i t, xs[i]? = some t → ∃ b o, a = some ⟨b, o, none⟩ ∧ w.cell? ⟨b, o + i, none⟩ = some (.string t)
theorem Rd.later {w w' : World} {v : Value} {xs : List ByteArray} (h : Rd w v xs) (hb : Below w.heap.size w w') : Rd w' v xs := by
  obtain ⟨a, c, rfl, h⟩ := h
  refine ⟨a, c, rfl, fun i t e => ?_⟩
  obtain ⟨b, o, ha, hc⟩ := h i t e
  exact ⟨b, o, ha, cell_later hb hc⟩
theorem Rd.src {P : Program} {tx e' : TypeId} (hk : P.underlying tx = some (.slice e')) {w : World} {v : Value} {xs : List ByteArray} (h : Rd w v xs) : Src P 1 tx v xs.length (xs.map Value.string) w := by
  obtain ⟨a, c, rfl, h⟩ := h
  have ones : ∀ u ∈ xs.map Value.string, u.oneCell' = true := fun u hu => by
    obtain ⟨t, _, rfl⟩ := List.mem_map.1 hu
    rfl
  cases a with
  | some ad =>
    refine Src.ofSlice w hk ad xs.length c _ (by simp) (fun j u hj => ?_) ones
    rw [List.getElem?_map] at hj
    cases hx : xs[j]? with
    | none => rw [hx] at hj; cases hj
    | some t =>
      rw [hx] at hj
      injection hj with hj
      subst hj
      obtain ⟨b, o, e, hc⟩ := h j t hx
      injection e with e
      subst e
      rw [Addr.add_lit]
      exact hc
  | none =>
    cases xs with
    | nil => exact Src.ofNil w hk c
    | cons x xs =>
      obtain ⟨b, o, e, _⟩ := h 0 x rfl
      cases e

structure RowAt (w : World) (g off c : Nat) (xs : List ByteArray) : Prop where
  ty : TyS w g
  le : xs.length ≤ c
  mx : c ≤ maxLen
  at_ : ∀ i t, xs[i]? = some t → w.cell? ⟨g, off + i, none⟩ = some (.string t)
  sp : ∀ i, i < c → (w.cell? ⟨g, off + i, none⟩).isSome = true
theorem RowAt.keep {w w' : World} {g off c : Nat} {xs : List ByteArray} (h : RowAt w g off c xs) (hb : w'.heap[g]? = w.heap[g]?) : RowAt w' g off c xs :=
  ⟨h.ty.keep hb, h.le, h.mx, fun i t e => (World.cell?_of_block (a := ⟨g, off + i, none⟩) hb).trans (h.at_ i t e), fun i hi => by
    rw [World.cell?_of_block (a := ⟨g, off + i, none⟩) hb]; exact h.sp i hi⟩
/-- a row of texts of one's own, anywhere in its block -/
def RowF (w : World) (B : Nat) (v : Value) (xs : List ByteArray) : Prop := (v = .slice none 0 0 ∧ xs = []) ∨ ∃ g off c, v = .slice (some ⟨g, off, none⟩) xs.length c ∧ B ≤ g ∧ RowAt w g off c xs
theorem RowF.nil (w : World) (B : Nat) : RowF w B (.slice none 0 0) [] := .inl ⟨rfl, rfl⟩
theorem RowF.slice {w : World} {B : Nat} {v : Value} {xs : List ByteArray} (h : RowF w B v xs) : ∃ a c, v = .slice a xs.length c ∧ xs.length ≤ c ∧ c ≤ maxLen := by
  rcases h with ⟨rfl, rfl⟩ | ⟨g, off, c, rfl, _, h⟩
  · exact ⟨none, 0, rfl, Nat.le_refl _, Nat.zero_le _⟩
  · exact ⟨_, _, rfl, h.le, h.mx⟩
theorem RowF.lt {w : World} {B : Nat} {v : Value} {xs : List ByteArray} (h : RowF w B v xs) (g : Nat) (hg : v.ownBlock = some g) : B ≤ g ∧ g < w.heap.size := by
  rcases h with ⟨rfl, rfl⟩ | ⟨g', off, c, rfl, hb, h⟩
  · cases hg
  · injection hg with hg
    have hg : g' = g := hg
    subst hg
    exact ⟨hb, h.ty.lt⟩
theorem RowF.ty {w : World} {B : Nat} {v : Value} {xs : List ByteArray} (h : RowF w B v xs) (g : Nat) (hg : v.ownBlock = some g) : TyS w g := by
  rcases h with ⟨rfl, rfl⟩ | ⟨g', off, c, rfl, hb, h⟩
  · cases hg
  · injection hg with hg
    have hg : g' = g := hg
    subst hg
    exact h.ty
theorem RowF.keep {w w' : World} {B : Nat} {v : Value} {xs : List ByteArray} (h : RowF w B v xs) (hb : ∀ g, v.ownBlock = some g → w'.heap[g]? = w.heap[g]?) : RowF w' B v xs := by
  rcases h with h | ⟨g, off, c, rfl, hg, h⟩
  · exact .inl h
  · exact .inr ⟨g, off, c, rfl, hg, h.keep (hb g rfl)⟩
theorem RowF.later {w w' : World} {B : Nat} {v : Value} {xs : List ByteArray} (h : RowF w B v xs) (hb : Below w.heap.size w w') : RowF w' B v xs := h.keep fun g hg => hb.block g (h.lt g hg).2
theorem RowF.base {w : World} {B B' : Nat} {v : Value} {xs : List ByteArray} (h : RowF w B v xs) (hb : B' ≤ B) : RowF w B' v xs := h.imp id fun ⟨g, off, c, e, hg, h⟩ => ⟨g, off, c, e, Nat.le_trans hb hg, h⟩
theorem RowAt.rd {w : World} {g off c : Nat} {xs : List ByteArray} (h : RowAt w g off c xs) : Rd w (.slice (some ⟨g, off, none⟩) xs.length c) xs := ⟨_, _, rfl, fun i t e => ⟨g, off, rfl, h.at_ i t e⟩⟩
theorem RowF.rd {w : World} {B : Nat} {v : Value} {xs : List ByteArray} (h : RowF w B v xs) : Rd w v xs := by
  rcases h with ⟨rfl, rfl⟩ | ⟨g, off, c, rfl, _, h⟩
  · exact ⟨none, 0, rfl, fun i t e => by simp at e⟩
  · exact h.rd

theorem grown_sets (w : World) (g o : Nat) (vs : List Value) : w.grownBy (w.setCells g o vs) (some g) := by
  induction vs generalizing o w with
  | nil => exact ⟨rfl, rfl, rfl, Nat.le_refl _, fun _ _ _ => rfl⟩
  | cons v r ih =>
    have h := ih (w.setCell ⟨g, o, none⟩ v) (o + 1)
    have hs : (w.setCell ⟨g, o, none⟩ v).heap.size = w.heap.size := by simp [World.setCell]
    exact ⟨h.os, h.tape, h.output, by have := h.size; rw [hs] at this; exact this, fun k hk hn => (h.block k (by rw [hs]; exact hk) hn).trans (Below.heap_setCell _ _ _ _ (fun e => hn (by rw [e])))⟩

/-- texts laid into the row behind its last one, where there is room -/
theorem RowAt.room {w : World} {g off c : Nat} {xs ys : List ByteArray} (h : RowAt w g off c xs) (hr : xs.length + ys.length ≤ c) : RowAt (w.setCells g (off + xs.length) (ys.map Value.string)) g off c (xs ++ ys) := by
  have hin := World.cell?_setCells_in g (ys.map Value.string) (off + xs.length) w (fun j hj => by
    rw [List.length_map] at hj
    rw [Nat.add_assoc]
    exact h.sp _ (by omega))
  have hout : ∀ i, i < xs.length ∨ xs.length + ys.length ≤ i → (w.setCells g (off + xs.length) (ys.map Value.string)).cell? ⟨g, off + i, none⟩ = w.cell? ⟨g, off + i, none⟩ := fun i hi => World.cell?_setCells_out g _ _ _ _ (fun _ _ => by simp only [List.length_map]; omega)
  refine ⟨TyS.sets _ _ _ h.ty, by rw [List.length_append]; exact hr, h.mx, fun i t e => ?_, fun i hi => ?_⟩
  · by_cases hlt : i < xs.length
    · rw [hout i (.inl hlt)]
      rw [List.getElem?_append_left hlt] at e
      exact h.at_ i t e
    · rw [List.getElem?_append_right (by omega)] at e
      have hj := (List.getElem?_eq_some_iff.1 e)
      obtain ⟨hj, e⟩ := hj
      have := hin (i - xs.length) (by rw [List.length_map]; exact hj)
      rw [show off + xs.length + (i - xs.length) = off + i by omega, List.getElem_map, e] at this
      exact this
  · by_cases hin' : xs.length ≤ i ∧ i < xs.length + ys.length
    · have := hin (i - xs.length) (by rw [List.length_map]; omega)
      rw [show off + xs.length + (i - xs.length) = off + i by omega] at this
      rw [this]; rfl
    · rw [hout i (by omega)]; exact h.sp i hi

/-- append, both arms -/
theorem run_append_F {w : World} {B : Nat} {v : Value} {xs : List ByteArray} (h : RowF w B v xs) {u : Value} {ys : List ByteArray} (hu : Rd w u ys) (ty : TypeId) {i : TypeInfo} (hi : Tryd.prog.info? 9 = some i) (hz : i.zero = some (.string ⟨#[]⟩)) (h1 : i.size = 1) (h2 : i.bytes = 16) (hl : (xs.length + ys.length) * 64 ≤ 140737488355328) (hB : B ≤ w.heap.size) :
    ∃ v' w', (Builtin.append_ #[22, 22] ty #[v, u]).run Tryd.prog w = .ok v' w' ∧ RowF w' B v' (xs ++ ys) ∧ w.grownBy w' v.ownBlock ∧ ∀ k, v'.ownBlock = some k → v.ownBlock = some k ∨ w.heap.size ≤ k := by
  have hs := hu.src (P := Tryd.prog) Tryd.underlying22
  have hs1 : Src Tryd.prog i.size 22 u ys.length (ys.map Value.string) w := by rw [h1]; exact hs
  by_cases h0 : ys = []
  · subst h0
    obtain ⟨a, c, rfl, hle, hmx⟩ := h.slice
    refine ⟨_, _, run_append_nothing (P := Tryd.prog) w _ _ ty _ i Tryd.underlying22 hi a xs.length c hle u hs1, ?_, ⟨rfl, rfl, rfl, Nat.le_refl _, fun _ _ _ => rfl⟩, fun k e => .inl e⟩
    rw [List.append_nil]; exact h
  have hpos : 0 < ys.length := List.length_pos_iff.2 h0
  have grow : ∀ (a : Option Addr) (c : Nat), v = .slice a xs.length c → c < xs.length + ys.length → (∀ i t, xs[i]? = some t → ∃ b o, a = some ⟨b, o, none⟩ ∧ w.cell? ⟨b, o + i, none⟩ = some (.string t)) →
      ∃ v' w', (Builtin.append_ #[22, 22] ty #[v, u]).run Tryd.prog w = .ok v' w' ∧ RowF w' B v' (xs ++ ys) ∧ w.grownBy w' v.ownBlock ∧ ∀ k, v'.ownBlock = some k → v.ownBlock = some k ∨ w.heap.size ≤ k := by
    rintro a c rfl hc hx
    have hsx : Src Tryd.prog i.size 22 (.slice a xs.length c) xs.length (xs.map Value.string) w := by
      rw [h1]; exact Rd.src (P := Tryd.prog) Tryd.underlying22 ⟨a, c, rfl, hx⟩
    have hrun := run_append_grow_src (P := Tryd.prog) w 22 22 ty 9 i _ Tryd.underlying22 hi hz a xs.length c (xs.map Value.string) hsx.cellsD u ys.length (ys.map Value.string) hs1 hc (by omega) (growslice_fits hc (by rw [h2]; omega))
    have hge := grownCap_ge w (xs.length + ys.length) c 9
    have hcm := grownCap_le_maxLen w (xs.length + ys.length) c 9 (by unfold maxLen; omega)
    refine ⟨_, _, hrun, .inr ⟨w.heap.size, 0, _, by rw [List.length_append], hB, ⟨_, World.alloc_heap_new w.drew _⟩, by rw [List.length_append]; exact hge, hcm, fun j t e => ?_, fun j hj => ?_⟩, ⟨rfl, rfl, rfl, by rw [World.size_alloc]; exact Nat.le_succ _, fun k hk _ => Below.heap_alloc w.drew _ k hk⟩, fun k e => .inr ?_⟩
    · have e1 : (w.drew.alloc (.cells ((xs.map Value.string ++ ys.map Value.string).toArray ++ Builtin.zeroCells (Value.string ⟨#[]⟩).cells (grownCap w (xs.length + ys.length) c 9 - (xs.length + ys.length))) 9)).cell? ⟨w.heap.size, 0 + j, none⟩ = _ := World.cell?_alloc_new w.drew _ _ (0 + j)
      refine e1.trans ?_
      have hj : j < (xs ++ ys).length := (List.getElem?_eq_some_iff.1 e).1
      rw [Nat.zero_add, ← List.map_append, Array.getElem?_append_left (by simpa using hj), List.getElem?_toArray, List.getElem?_map, e]
      rfl
    · have e1 : (w.drew.alloc (.cells ((xs.map Value.string ++ ys.map Value.string).toArray ++ Builtin.zeroCells (Value.string ⟨#[]⟩).cells (grownCap w (xs.length + ys.length) c 9 - (xs.length + ys.length))) 9)).cell? ⟨w.heap.size, 0 + j, none⟩ = _ := World.cell?_alloc_new w.drew _ _ (0 + j)
      rw [e1, Nat.zero_add]
      have hsz : ((xs.map Value.string ++ ys.map Value.string).toArray ++ Builtin.zeroCells (Value.string ⟨#[]⟩).cells (grownCap w (xs.length + ys.length) c 9 - (xs.length + ys.length))).size = grownCap w (xs.length + ys.length) c 9 := by
        rw [Array.size_append, size_zeroCells]
        simp [Value.cells]
        omega
      rw [Array.getElem?_eq_getElem (by rw [hsz]; exact hj)]
      rfl
    · injection e with e
      exact Nat.le_of_eq e
  rcases h with ⟨rfl, rfl⟩ | ⟨g, off, c, rfl, hg, h⟩
  · exact grow none 0 rfl (by simpa using hpos) (fun i t e => by simp at e)
  · by_cases hr : xs.length + ys.length ≤ c
    · have hrun := run_append_room_src (P := Tryd.prog) w 22 22 ty 9 i Tryd.underlying22 hi g off xs.length c u ys.length (ys.map Value.string) hs1 hr
        (fun j hj => by rw [h1, Nat.mul_one, Nat.add_assoc]; rw [List.length_map] at hj; exact h.sp _ (by omega)) (fun j hj => h.ty.loose _)
      rw [h1, Nat.mul_one] at hrun
      refine ⟨_, _, hrun, .inr ⟨g, off, c, by rw [List.length_append], hg, h.room hr⟩, grown_sets _ _ _ _, fun k e => .inl e⟩
    · exact grow _ c rfl (by omega) (fun i t e => ⟨g, off, rfl, h.at_ i t e⟩)

theorem cell_obj {w : World} {p o : Nat} {cs : Array Value} {t : TypeId} {fr : Nat × Nat} {u : Value} (h : w.heap[p]? = some (.cells cs t fr)) (hu : cs[o]? = some u) : w.cell? ⟨p, o, none⟩ = some u := by
  simp [World.cell?, h, hu]
/-- the flight at p -/
structure Fl (w : World) (B p : Nat) (v : Value) (xs : List ByteArray) : Prop where
  cell : w.cell? ⟨p, 0, none⟩ = some v
  ty : ∃ cs, w.heap[p]? = some (.cells cs 50 (0, 0))
  row : RowF w B v xs
  low : B ≤ p
def ItF (p : Nat) (v : Value) (k : Nat) : Prop := k = p ∨ v.ownBlock = some k
theorem Fl.lt {w : World} {B p : Nat} {v : Value} {xs : List ByteArray} (h : Fl w B p v xs) : p < w.heap.size := by
  obtain ⟨cs, hc⟩ := h.ty
  exact (Array.getElem?_eq_some_iff.1 hc).1
theorem Fl.its {w : World} {B p : Nat} {v : Value} {xs : List ByteArray} (h : Fl w B p v xs) {k : Nat} (hk : ItF p v k) : B ≤ k ∧ k < w.heap.size := by
  rcases hk with rfl | hk
  · exact ⟨h.low, h.lt⟩
  · exact h.row.lt k hk
theorem Fl.loose {w : World} {B p : Nat} {v : Value} {xs : List ByteArray} (h : Fl w B p v xs) : Loose w p := fun o => by
  obtain ⟨cs, hc⟩ := h.ty
  simp [World.frozen?, hc]
theorem Fl.apart {w : World} {B p : Nat} {v : Value} {xs : List ByteArray} (h : Fl w B p v xs) {g : Nat} (hg : TyS w g) : g ≠ p := by
  rintro rfl
  obtain ⟨cs, hc⟩ := h.ty
  obtain ⟨cur, hg⟩ := hg
  rw [hc] at hg
  injection hg with hg
  injection hg with _ e _
  exact absurd e (by decide)
theorem Fl.keep {w w' : World} {B p : Nat} {v : Value} {xs : List ByteArray} (h : Fl w B p v xs) (hb : ∀ k, ItF p v k → w'.heap[k]? = w.heap[k]?) : Fl w' B p v xs :=
  ⟨(World.cell?_of_block (a := ⟨p, 0, none⟩) (hb p (.inl rfl))).trans h.cell, by
    obtain ⟨cs, hc⟩ := h.ty
    exact ⟨cs, (hb p (.inl rfl)).trans hc⟩, h.row.keep fun g hg => hb g (.inr hg), h.low⟩
theorem Fl.later {w w' : World} {B p : Nat} {v : Value} {xs : List ByteArray} (h : Fl w B p v xs) (hb : Below w.heap.size w w') : Fl w' B p v xs := h.keep fun k hk => hb.block k (h.its hk).2
theorem Fl.onl {w w' : World} {F : Nat → Prop} {B p : Nat} {v : Value} {xs : List ByteArray} (h : Fl w B p v xs) (ho : Onl F w w') (hF : ∀ k, ItF p v k → ¬ F k) : Fl w' B p v xs := h.keep fun k hk => ho.block k (h.its hk).2 (hF k hk)
/-- what a call leaves -/
structure Mv (w w' : World) (B p : Nat) (v v' : Value) (xs : List ByteArray) : Prop where
  fl : Fl w' B p v' xs
  onl : Onl (ItF p v) w w'
  new : ∀ k, v'.ownBlock = some k → v.ownBlock = some k ∨ w.heap.size ≤ k
theorem Mv.below {w w' : World} {B p : Nat} {v v' : Value} {xs ys : List ByteArray} (h : Mv w w' B p v v' ys) (hf : Fl w B p v xs) (hB : B ≤ w.heap.size) : Below B w w' := h.onl.below (fun k hk => (hf.its hk).1) hB
theorem Mv.refl {w w' : World} {B p : Nat} {v : Value} {xs : List ByteArray} (hf : Fl w B p v xs) (hb : Below w.heap.size w w') : Mv w w' B p v v xs := ⟨hf.later hb, Onl.of_below hb, fun k e => .inl e⟩
theorem Mv.trans {w w1 w2 : World} {B p : Nat} {v v1 v2 : Value} {xs ys : List ByteArray} (h : Mv w w1 B p v v1 xs) (k : Mv w1 w2 B p v1 v2 ys) : Mv w w2 B p v v2 ys :=
  ⟨k.fl, h.onl.fresh k.onl fun i hi => by
    rcases hi with rfl | hi
    · exact .inl (.inl rfl)
    · exact (h.new i hi).imp .inr id, fun j e => by
    rcases k.new j e with e | e
    · exact h.new j e
    · exact .inr (Nat.le_trans h.onl.size e)⟩
/-- a store into the flight's cell -/
theorem Fl.put {w w' : World} {B p : Nat} {v v' : Value} {xs ys : List ByteArray} (h : Fl w B p v xs) (hg : w.grownBy w' v.ownBlock) (hr : RowF w' B v' ys) (hn : ∀ k, v'.ownBlock = some k → v.ownBlock = some k ∨ w.heap.size ≤ k) : Mv w (w'.setCell ⟨p, 0, none⟩ v') B p v v' ys := by
  have hp : w'.heap[p]? = w.heap[p]? := hg.block p h.lt (fun e => (h.apart (h.row.ty p e.symm)) rfl)
  obtain ⟨cs, hc⟩ := h.ty
  have hc' := hp.trans hc
  have hlt : 0 < cs.size := by
    have := h.cell
    simp only [World.cell?, hc] at this
    exact (Array.getElem?_eq_some_iff.1 this).1
  have hh : (w'.setCell ⟨p, 0, none⟩ v').heap[p]? = some (.cells (cs.setIfInBounds 0 v') 50 (0, 0)) := by
    rw [setCell_eq]; simp [mapBlock, Array.getElem?_modify, hc', onCells]
  have hrow : RowF (w'.setCell ⟨p, 0, none⟩ v') B v' ys := hr.keep fun g hgb => Below.heap_setCell _ _ _ _ (fun e => by
    have e : g = p := e
    obtain ⟨cur, ht⟩ := hr.ty g hgb
    rw [e, hc'] at ht
    injection ht with ht
    injection ht with _ e2 _
    exact absurd e2 (by decide))
  refine ⟨⟨?_, ⟨_, hh⟩, hrow, h.low⟩, ?_, hn⟩
  · exact cell_obj hh (by simp [hlt])
  · exact Onl.set ((grown_onl hg).mono fun k e => .inr e) (.inl rfl) 0 v'
end Go.Proofs.YtpnbgdbkiokooaaDoor.Fl
