import Derived.Test.YthenfioddnkjbaaGreatDoorDOnl
import Derived.Deep.Upon
import Derived.RangeFuncRecord
import Derived.Laws.CopyOwn
import Derived.Laws.AppendOwn
/- A row of elements of any kind (k cells each), anywhere in its block. -/
namespace Go.Proofs.YthenfioddnkjbaaGreatDoor.Bg
open Go.RowKit Go.Sort Go.Proofs.YthenfioddnkjbaaGreatDoor
set_option linter.unusedVariables false

/-- a kind of elements: their type, the slice's type, how many cells and bytes, the zero, and an element's cells -/
structure El (α : Type) where
  ty : TypeId
  sl : TypeId
  k : Nat
  by_ : Nat
  z : Value
  cs : α → List Value
structure El.Ok {α : Type} (E : El α) : Prop where
  und : Tryz.prog.underlying E.sl = some (.slice E.ty)
  info : ∃ i, Tryz.prog.info? E.ty = some i ∧ i.zero = some E.z ∧ i.size = E.k ∧ i.bytes = E.by_
  len : ∀ x, (E.cs x).length = E.k
  one : ∀ x, ∀ u ∈ E.cs x, u.oneCell' = true
  pos : 0 < E.k
  zc : E.z.cells.size = E.k
  le : E.by_ ≤ 64
section
variable {α : Type} {E : El α}
def El.flat (E : El α) (xs : List α) : List Value := xs.flatMap E.cs
theorem El.flat_append (E : El α) (xs ys : List α) : E.flat (xs ++ ys) = E.flat xs ++ E.flat ys := by simp [El.flat]
theorem El.Ok.flat_len (h : E.Ok) (xs : List α) : (E.flat xs).length = xs.length * E.k := by
  induction xs with
  | nil => simp [El.flat]
  | cons x xs ih =>
    have e : E.flat (x :: xs) = E.cs x ++ E.flat xs := rfl
    rw [e, List.length_append, h.len, ih, List.length_cons, Nat.add_mul]; omega
theorem El.Ok.flat_one (h : E.Ok) (xs : List α) : ∀ u ∈ E.flat xs, u.oneCell' = true := fun u hu => by
  obtain ⟨x, _, hx⟩ := List.mem_flatMap.1 hu
  exact h.one x u hx
theorem El.Ok.flat_get (h : E.Ok) : ∀ (xs : List α) (i o : Nat) (x : α), xs[i]? = some x → o < E.k → (E.flat xs)[i * E.k + o]? = (E.cs x)[o]?
  | [], i, o, x, hx, _ => by simp at hx
  | y :: ys, 0, o, x, hx, ho => by
    have hx : y = x := by simpa using hx
    subst hx
    show (E.cs y ++ E.flat ys)[0 * E.k + o]? = _
    rw [Nat.zero_mul, Nat.zero_add, List.getElem?_append_left (by rw [h.len]; exact ho)]
  | y :: ys, i + 1, o, x, hx, ho => by
    have hx : ys[i]? = some x := by simpa using hx
    show (E.cs y ++ E.flat ys)[(i + 1) * E.k + o]? = _
    have e : (i + 1) * E.k + o - (E.cs y).length = i * E.k + o := by rw [h.len, Nat.add_mul]; omega
    rw [List.getElem?_append_right (by rw [h.len, Nat.add_mul]; omega), e]
    exact El.Ok.flat_get h ys i o x hx ho

/-- a block of such elements, not frozen -/
def TyE (E : El α) (w : World) (g : Nat) : Prop := ∃ cur, w.heap[g]? = some (.cells cur E.ty (0, 0))
theorem TyE.set {w : World} {g : Nat} (h : TyE E w g) (b o : Nat) (v : Value) : TyE E (w.setCell ⟨b, o, none⟩ v) g := by
  obtain ⟨cur, hc⟩ := h
  rw [setCell_eq]
  by_cases e : b = g
  · subst e
    exact ⟨cur.setIfInBounds o v, by simp [mapBlock, Array.getElem?_modify, hc, onCells]⟩
  · exact ⟨cur, by simp [mapBlock, Array.getElem?_modify, e, hc]⟩
theorem TyE.sets {g b : Nat} : ∀ (vs : List Value) (o : Nat) (w : World), TyE E w g → TyE E (w.setCells b o vs) g
  | [], _, _, h => h
  | v :: r, o, w, h => TyE.sets r (o + 1) _ (h.set b o v)
theorem TyE.loose {w : World} {g : Nat} (h : TyE E w g) (o : Nat) : w.frozen? ⟨g, o, none⟩ = false := by
  obtain ⟨cur, hc⟩ := h
  simp [World.frozen?, hc]
theorem TyE.lt {w : World} {g : Nat} (h : TyE E w g) : g < w.heap.size := by
  obtain ⟨cur, hc⟩ := h
  exact (Array.getElem?_eq_some_iff.1 hc).1
theorem TyE.keep {w w' : World} {g : Nat} (h : TyE E w g) (hb : w'.heap[g]? = w.heap[g]?) : TyE E w' g := by
  obtain ⟨cur, hc⟩ := h
  exact ⟨cur, hb.trans hc⟩

/-- elements that can be read -/
def Rd (E : El α) (w : World) (v : Value) (xs : List α) : Prop := ∃ a c, v = .slice a xs.length c ∧ ∀ j u, (E.flat xs)[j]? = some u → ∃ b o, a = some ⟨b, o, none⟩ ∧ w.cell? ⟨b, o + j, none⟩ = some u
theorem Rd.later {w w' : World} {v : Value} {xs : List α} (h : Rd E w v xs) (hb : Below w.heap.size w w') : Rd E w' v xs := by
  obtain ⟨a, c, rfl, h⟩ := h
  refine ⟨a, c, rfl, fun i t e => ?_⟩
  obtain ⟨b, o, ha, hc⟩ := h i t e
  exact ⟨b, o, ha, cell_later hb hc⟩
theorem Rd.src (hE : E.Ok) {tx e' : TypeId} (hk : Tryz.prog.underlying tx = some (.slice e')) {w : World} {v : Value} {xs : List α} (h : Rd E w v xs) : Src Tryz.prog E.k tx v xs.length (E.flat xs) w := by
  obtain ⟨a, c, rfl, h⟩ := h
  cases a with
  | some ad =>
    refine Src.ofSlice w hk ad xs.length c _ (hE.flat_len xs) (fun j u hj => ?_) (hE.flat_one xs)
    obtain ⟨b, o, e, hc⟩ := h j u hj
    have e := Option.some.inj e
    rw [e, Addr.add_lit]
    exact hc
  | none =>
    cases xs with
    | nil => exact Src.ofNil w hk c
    | cons x xs =>
      have h0 : 0 < (E.flat (x :: xs)).length := by rw [hE.flat_len, List.length_cons, Nat.add_mul]; have := hE.pos; omega
      obtain ⟨b, o, e, _⟩ := h 0 _ (List.getElem?_eq_getElem h0)
      cases e

structure RowAt (E : El α) (w : World) (g off c : Nat) (xs : List α) : Prop where
  ty : TyE E w g
  le : xs.length ≤ c
  mx : c ≤ maxLen
  at_ : ∀ j u, (E.flat xs)[j]? = some u → w.cell? ⟨g, off + j, none⟩ = some u
  sp : ∀ j, j < c * E.k → (w.cell? ⟨g, off + j, none⟩).isSome = true
theorem RowAt.keep {w w' : World} {g off c : Nat} {xs : List α} (h : RowAt E w g off c xs) (hb : w'.heap[g]? = w.heap[g]?) : RowAt E w' g off c xs :=
  ⟨h.ty.keep hb, h.le, h.mx, fun i t e => (World.cell?_of_block (a := ⟨g, off + i, none⟩) hb).trans (h.at_ i t e), fun i hi => by
    rw [World.cell?_of_block (a := ⟨g, off + i, none⟩) hb]; exact h.sp i hi⟩
/-- a row of one's own, anywhere in its block -/
def RowF (E : El α) (w : World) (B : Nat) (v : Value) (xs : List α) : Prop := (v = .slice none 0 0 ∧ xs = []) ∨ ∃ g off c, v = .slice (some ⟨g, off, none⟩) xs.length c ∧ B ≤ g ∧ RowAt E w g off c xs
theorem RowF.nil (w : World) (B : Nat) : RowF E w B (.slice none 0 0) [] := .inl ⟨rfl, rfl⟩
theorem RowF.slice {w : World} {B : Nat} {v : Value} {xs : List α} (h : RowF E w B v xs) : ∃ a c, v = .slice a xs.length c ∧ xs.length ≤ c ∧ c ≤ maxLen := by
  rcases h with ⟨rfl, rfl⟩ | ⟨g, off, c, rfl, _, h⟩
  · exact ⟨none, 0, rfl, Nat.le_refl _, Nat.zero_le _⟩
  · exact ⟨_, _, rfl, h.le, h.mx⟩
theorem RowF.lt {w : World} {B : Nat} {v : Value} {xs : List α} (h : RowF E w B v xs) (g : Nat) (hg : v.ownBlock = some g) : B ≤ g ∧ g < w.heap.size := by
  rcases h with ⟨rfl, rfl⟩ | ⟨g', off, c, rfl, hb, h⟩
  · cases hg
  · injection hg with hg
    have hg : g' = g := hg
    subst hg
    exact ⟨hb, h.ty.lt⟩
theorem RowF.ty {w : World} {B : Nat} {v : Value} {xs : List α} (h : RowF E w B v xs) (g : Nat) (hg : v.ownBlock = some g) : TyE E w g := by
  rcases h with ⟨rfl, rfl⟩ | ⟨g', off, c, rfl, hb, h⟩
  · cases hg
  · injection hg with hg
    have hg : g' = g := hg
    subst hg
    exact h.ty
theorem RowF.keep {w w' : World} {B : Nat} {v : Value} {xs : List α} (h : RowF E w B v xs) (hb : ∀ g, v.ownBlock = some g → w'.heap[g]? = w.heap[g]?) : RowF E w' B v xs := by
  rcases h with h | ⟨g, off, c, rfl, hg, h⟩
  · exact .inl h
  · exact .inr ⟨g, off, c, rfl, hg, h.keep (hb g rfl)⟩
theorem RowF.later {w w' : World} {B : Nat} {v : Value} {xs : List α} (h : RowF E w B v xs) (hb : Below w.heap.size w w') : RowF E w' B v xs := h.keep fun g hg => hb.block g (h.lt g hg).2
theorem RowF.base {w : World} {B B' : Nat} {v : Value} {xs : List α} (h : RowF E w B v xs) (hb : B' ≤ B) : RowF E w B' v xs := h.imp id fun ⟨g, off, c, e, hg, h⟩ => ⟨g, off, c, e, Nat.le_trans hb hg, h⟩
theorem RowAt.rd {w : World} {g off c : Nat} {xs : List α} (h : RowAt E w g off c xs) : Rd E w (.slice (some ⟨g, off, none⟩) xs.length c) xs := ⟨_, _, rfl, fun i t e => ⟨g, off, rfl, h.at_ i t e⟩⟩
theorem RowF.rd {w : World} {B : Nat} {v : Value} {xs : List α} (h : RowF E w B v xs) : Rd E w v xs := by
  rcases h with ⟨rfl, rfl⟩ | ⟨g, off, c, rfl, _, h⟩
  · exact ⟨none, 0, rfl, fun i t e => by simp [El.flat] at e⟩
  · exact h.rd

theorem grown_sets (w : World) (g o : Nat) (vs : List Value) : w.grownBy (w.setCells g o vs) (some g) := by
  induction vs generalizing o w with
  | nil => exact ⟨rfl, rfl, rfl, Nat.le_refl _, fun _ _ _ => rfl⟩
  | cons v r ih =>
    have h := ih (w.setCell ⟨g, o, none⟩ v) (o + 1)
    have hs : (w.setCell ⟨g, o, none⟩ v).heap.size = w.heap.size := by simp [World.setCell]
    exact ⟨h.os, h.tape, h.output, by have := h.size; rw [hs] at this; exact this, fun k hk hn => (h.block k (by rw [hs]; exact hk) hn).trans (Below.heap_setCell _ _ _ _ (fun e => hn (by rw [e])))⟩

/-- elements laid into the row behind its last one, where there is room -/
theorem RowAt.room (hE : E.Ok) {w : World} {g off c : Nat} {xs ys : List α} (h : RowAt E w g off c xs) (hr : xs.length + ys.length ≤ c) : RowAt E (w.setCells g (off + xs.length * E.k) (E.flat ys)) g off c (xs ++ ys) := by
  have hrk : xs.length * E.k + ys.length * E.k ≤ c * E.k := by rw [← Nat.add_mul]; exact Nat.mul_le_mul_right _ hr
  have hlx := hE.flat_len xs
  have hly := hE.flat_len ys
  have hin := World.cell?_setCells_in g (E.flat ys) (off + xs.length * E.k) w (fun j hj => by
    rw [hly] at hj
    rw [Nat.add_assoc]
    exact h.sp _ (by omega))
  have hout : ∀ i, i < xs.length * E.k ∨ xs.length * E.k + ys.length * E.k ≤ i → (w.setCells g (off + xs.length * E.k) (E.flat ys)).cell? ⟨g, off + i, none⟩ = w.cell? ⟨g, off + i, none⟩ := fun i hi => World.cell?_setCells_out g _ _ _ _ (fun _ _ => by simp only [hly]; omega)
  refine ⟨TyE.sets _ _ _ h.ty, by rw [List.length_append]; exact hr, h.mx, fun i t e => ?_, fun i hi => ?_⟩
  · rw [El.flat_append] at e
    by_cases hlt : i < xs.length * E.k
    · rw [hout i (.inl hlt)]
      rw [List.getElem?_append_left (by omega)] at e
      exact h.at_ i t e
    · rw [List.getElem?_append_right (by omega), hlx] at e
      obtain ⟨hj, e⟩ := List.getElem?_eq_some_iff.1 e
      have := hin (i - xs.length * E.k) hj
      rw [show off + xs.length * E.k + (i - xs.length * E.k) = off + i by omega, e] at this
      exact this
  · by_cases hin' : xs.length * E.k ≤ i ∧ i < xs.length * E.k + ys.length * E.k
    · have := hin (i - xs.length * E.k) (by rw [hly]; omega)
      rw [show off + xs.length * E.k + (i - xs.length * E.k) = off + i by omega] at this
      rw [this]; rfl
    · rw [hout i (by omega)]; exact h.sp i hi

/-- append, both arms -/
theorem run_append_F (hE : E.Ok) {w : World} {B : Nat} {v : Value} {xs : List α} (h : RowF E w B v xs) {u : Value} {ys : List α} (hu : Rd E w u ys) (ty : TypeId) (hl : (xs.length + ys.length) * 64 ≤ 140737488355328) (hB : B ≤ w.heap.size) :
    ∃ v' w', (Builtin.append_ #[E.sl, E.sl] ty #[v, u]).run Tryz.prog w = .ok v' w' ∧ RowF E w' B v' (xs ++ ys) ∧ w.grownBy w' v.ownBlock ∧ ∀ k, v'.ownBlock = some k → v.ownBlock = some k ∨ w.heap.size ≤ k := by
  obtain ⟨i, hi, hz, h1, h2⟩ := hE.info
  have hby : (xs.length + ys.length) * i.bytes ≤ 140737488355328 := by rw [h2]; exact Nat.le_trans (Nat.mul_le_mul_left _ hE.le) hl
  have hs := hu.src hE hE.und
  have hs1 : Src Tryz.prog i.size E.sl u ys.length (E.flat ys) w := by rw [h1]; exact hs
  by_cases h0 : ys = []
  · subst h0
    obtain ⟨a, c, rfl, hle, hmx⟩ := h.slice
    refine ⟨_, _, run_append_nothing (P := Tryz.prog) w _ _ ty _ i hE.und hi a xs.length c hle u hs1, ?_, ⟨rfl, rfl, rfl, Nat.le_refl _, fun _ _ _ => rfl⟩, fun k e => .inl e⟩
    rw [List.append_nil]; exact h
  have hpos : 0 < ys.length := List.length_pos_iff.2 h0
  have grow : ∀ (a : Option Addr) (c : Nat), v = .slice a xs.length c → c < xs.length + ys.length → Rd E w v xs →
      ∃ v' w', (Builtin.append_ #[E.sl, E.sl] ty #[v, u]).run Tryz.prog w = .ok v' w' ∧ RowF E w' B v' (xs ++ ys) ∧ w.grownBy w' v.ownBlock ∧ ∀ k, v'.ownBlock = some k → v.ownBlock = some k ∨ w.heap.size ≤ k := by
    rintro a c rfl hc hx
    have hsx : Src Tryz.prog i.size E.sl (.slice a xs.length c) xs.length (E.flat xs) w := by rw [h1]; exact hx.src hE hE.und
    have hrun := run_append_grow_src (P := Tryz.prog) w E.sl E.sl ty E.ty i _ hE.und hi hz a xs.length c (E.flat xs) hsx.cellsD u ys.length (E.flat ys) hs1 hc (by omega) (growslice_fits hc hby)
    have hge := grownCap_ge w (xs.length + ys.length) c E.ty
    have hcm := grownCap_le_maxLen w (xs.length + ys.length) c E.ty (by unfold maxLen; omega)
    generalize grownCap w (xs.length + ys.length) c E.ty = N at hrun hge hcm
    obtain ⟨cur, hcur⟩ : ∃ cur, cur = (E.flat xs ++ E.flat ys).toArray ++ Builtin.zeroCells E.z.cells (N - (xs.length + ys.length)) := ⟨_, rfl⟩
    rw [← hcur] at hrun
    have hlen : (E.flat xs ++ E.flat ys).length = (xs.length + ys.length) * E.k := by rw [List.length_append, hE.flat_len, hE.flat_len, Nat.add_mul]
    have hcs : cur.size = N * E.k := by
      rw [hcur, Array.size_append, size_zeroCells, hE.zc, List.size_toArray, hlen, ← Nat.add_mul, Nat.add_sub_cancel' hge]
    have hcell : ∀ j, (w.drew.alloc (.cells cur E.ty)).cell? ⟨w.heap.size, 0 + j, none⟩ = cur[j]? := fun j => by
      rw [Nat.zero_add]; exact World.cell?_alloc_new w.drew _ _ j
    refine ⟨_, _, hrun, .inr ⟨w.heap.size, 0, N, by rw [List.length_append], hB, ⟨_, World.alloc_heap_new w.drew _⟩, by rw [List.length_append]; exact hge, hcm, fun j t e => ?_, fun j hj => ?_⟩, ⟨rfl, rfl, rfl, by rw [World.size_alloc]; exact Nat.le_succ _, fun k hk _ => Below.heap_alloc w.drew _ k hk⟩, fun k e => .inr ?_⟩
    · rw [hcell]
      rw [El.flat_append] at e
      have hj : j < (E.flat xs ++ E.flat ys).length := (List.getElem?_eq_some_iff.1 e).1
      rw [hcur, Array.getElem?_append_left (by simpa using hj), List.getElem?_toArray, e]
    · rw [hcell, Array.getElem?_eq_getElem (by rw [hcs]; exact hj)]
      rfl
    · injection e with e
      exact Nat.le_of_eq e
  rcases h with ⟨rfl, rfl⟩ | ⟨g, off, c, rfl, hg, h⟩
  · exact grow none 0 rfl (by simpa using hpos) (RowF.nil w 0).rd
  · by_cases hr : xs.length + ys.length ≤ c
    · have hrk : xs.length * E.k + ys.length * E.k ≤ c * E.k := by rw [← Nat.add_mul]; exact Nat.mul_le_mul_right _ hr
      have hrun := run_append_room_src (P := Tryz.prog) w E.sl E.sl ty E.ty i hE.und hi g off xs.length c u ys.length (E.flat ys) hs1 hr
        (fun j hj => by rw [hE.flat_len] at hj; rw [h1, Nat.add_assoc]; exact h.sp _ (by omega)) (fun j hj => h.ty.loose _)
      rw [h1] at hrun
      refine ⟨_, _, hrun, .inr ⟨g, off, c, by rw [List.length_append], hg, h.room hE hr⟩, grown_sets _ _ _ _, fun k e => .inl e⟩
    · exact grow _ c rfl (by omega) h.rd
theorem cell_obj {w : World} {p o : Nat} {cs : Array Value} {t : TypeId} {fr : Nat × Nat} {u : Value} (h : w.heap[p]? = some (.cells cs t fr)) (hu : cs[o]? = some u) : w.cell? ⟨p, o, none⟩ = some u := by
  simp [World.cell?, h, hu]
end
end Go.Proofs.YthenfioddnkjbaaGreatDoor.Bg
namespace Go.Proofs.YthenfioddnkjbaaGreatDoor
open Go.RowKit Go.Sort
set_option linter.unusedVariables false

/-- append tells more: what the row held is still there -/
theorem run_append_keep {P : Program} (w : World) (base : Nat) (t ty e : TypeId) (i : TypeInfo) (z : Value) (size bytes : Nat) (ht : P.underlying t = some (.slice e)) (hi : P.info? e = some i) (hz : i.zero = some z)
    (hsize : i.size = size) (hby : i.bytes = bytes) (hzs : z.cells.size = size) (hsz : 0 < size) (v : Value) (n : Nat) (xs : List Value) (hown : w.ownsRow base e size v n xs)
    (a : Addr) (m c : Nat) (news : List Value) (hl : news.length = m * size) (hnews : ∀ j u, news[j]? = some u → w.cell? (a.add j) = some u) (h1 : ∀ u ∈ news, u.oneCell' = true)
    (h63 : n + m ≤ maxLen) (hbytes : (n + m) * bytes ≤ 140737488355328) (hbase : base ≤ w.heap.size) (hm : 0 < m) :
    ∃ v' w', (Builtin.append_ #[t, t] ty #[v, .slice (some a) m c]).run P w = .ok v' w' ∧ w'.ownsRow base e size v' (n + m) (xs ++ news) ∧ w.grownBy w' v.ownBlock ∧ w'.ownsRow base e size v n xs ∧
      (v'.ownBlock = v.ownBlock ∨ ∃ k, v'.ownBlock = some k ∧ w.heap.size ≤ k) := by
  obtain ⟨v', w', hr, ho, hg, _⟩ := run_append_own (P := P) w base t ty e i z size bytes ht hi hz hsize hby hzs hsz v n xs hown a m c news hl hnews h1 h63 hbytes hbase
  refine ⟨v', w', hr, ho, hg, ?_⟩
  have hsmall : n + m ≤ 9223372036854775807 := by simp only [maxLen] at h63; omega
  subst hsize
  subst hby
  rcases hown.2 with ⟨rfl, rfl⟩ | ⟨g, cap, cur, rfl, hbg, hgg, hnc, hcm, hcs, htake⟩
  · have hx : xs = [] := List.eq_nil_of_length_eq_zero (by simpa using hown.1)
    subst hx
    refine ⟨World.ownsRow_nil _ _ _ _, .inr ?_⟩
    have h2 := run_append_nil (P := P) w t ty e i z ht hi hz a m c news hl hnews hm (by omega) (by have hb := hbytes; simp only [Nat.zero_add] at hb; omega)
    rw [hr] at h2
    injection h2 with h2 _
    exact ⟨w.heap.size, by rw [h2]; rfl, Nat.le_refl _⟩
  · by_cases hroom : n + m ≤ cap
    · have hfit : n * i.size + news.length ≤ cur.size := by rw [hl, hcs, ← Nat.add_mul]; exact Nat.mul_le_mul_right _ hroom
      have h2 := run_append_room (P := P) w t ty e i ht hi g n cap cur hgg a m c news hl hnews h1 hroom hfit
      rw [hr] at h2
      injection h2 with h2 h3
      subst h2
      subst h3
      refine ⟨⟨hown.1, .inr ⟨g, cap, _, rfl, hbg, setRow_heap w g cur _ e _ hgg, hnc, hcm, ?_, ?_⟩⟩, .inl rfl⟩
      · simp only [List.size_toArray, List.length_append, List.length_take, List.length_drop, Array.length_toList]
        omega
      · rw [htake, List.append_assoc]
        conv => lhs; arg 1; rw [← hown.1]
        exact List.take_left
    · have holds : ∀ j u, xs[j]? = some u → w.cell? ((⟨g, 0, none⟩ : Addr).add j) = some u := hown.cells (g := g) rfl
      have h2 := run_append_grow (P := P) w t ty e i z ht hi hz ⟨g, 0, none⟩ n cap xs hown.1 holds a m c news hl hnews (by omega) (by omega) (growslice_fits (by omega) hbytes)
      rw [hr] at h2
      injection h2 with h2 h3
      subst h2
      subst h3
      refine ⟨⟨hown.1, .inr ⟨g, cap, cur, rfl, hbg, ?_, hnc, hcm, hcs, htake⟩⟩, .inr ⟨w.heap.size, rfl, Nat.le_refl _⟩⟩
      exact (heap_alloc_old w.drew _ (Array.getElem?_eq_some_iff.1 hgg).1).trans hgg

theorem wpList_append_keep {P : Program} (w : World) {ops : Array Oper} {rest : List Oper} {o : Oper} {a : Act} {Q : Exit → Act → World → Prop} (hgd : o.guard = none) (s x : Operand) (t : TypeId)
    (ho : o.op = .call { callee := .builtin .append, args := #[s, x], argTypes := #[t, t] })
    (base : Nat) (e : TypeId) (i : TypeInfo) (z : Value) (size bytes : Nat) (ht : P.underlying t = some (.slice e)) (hi : P.info? e = some i) (hz : i.zero = some z)
    (hsize : i.size = size) (hby : i.bytes = bytes) (hzs : z.cells.size = size) (hsz : 0 < size)
    (v : Value) (n : Nat) (xs : List Value) (hs : a.eval s = v) (hown : w.ownsRow base e size v n xs)
    (ad : Addr) (m c : Nat) (news : List Value) (hx : a.eval x = .slice (some ad) m c) (hl : news.length = m * size) (hnews : ∀ j u, news[j]? = some u → w.cell? (ad.add j) = some u) (h1 : ∀ u ∈ news, u.oneCell' = true)
    (h63 : n + m ≤ maxLen) (hbytes : (n + m) * bytes ≤ 140737488355328) (hbase : base ≤ w.heap.size) (hm : 0 < m)
    (h : ∀ v' w', w'.ownsRow base e size v' (n + m) (xs ++ news) → w.grownBy w' v.ownBlock → w'.ownsRow base e size v n xs → (v'.ownBlock = v.ownBlock ∨ ∃ k, v'.ownBlock = some k ∧ w.heap.size ≤ k) → wpList P ops Q rest (a.put o.dst v') w') : wpList P ops Q (o :: rest) a w := by
  obtain ⟨v', w', hr, h2, h3, h4, h5⟩ := run_append_keep (P := P) w base t o.type e i z size bytes ht hi hz hsize hby hzs hsz v n xs hown ad m c news hl hnews h1 h63 hbytes hbase hm
  refine wpList_plain hgd fun _ hK => ?_
  unfold Oper.wp execOp
  simp only [ho, resolve, invoke, builtin, Sem.run_bind, Sem.run_pure, Result.andThen_ok, List.map_toArray, List.map_cons, List.map_nil, hs, hx, hr]
  exact hK _ _ (h v' w' h2 h3 h4 h5)

/-- two rows at one block: what keeps the longer one keeps the shorter one -/
theorem owns_head {w w' : World} {B e size n m : Nat} {v vk : Value} {xs ys : List Value} (hs : 0 < size) (h0 : w.ownsRow B e size v n xs) (hk : w.ownsRow B e size vk (n + m) (xs ++ ys)) (hk' : w'.ownsRow B e size vk (n + m) (xs ++ ys)) (he : vk.ownBlock = v.ownBlock) : w'.ownsRow B e size v n xs := by
  refine ⟨h0.1, ?_⟩
  rcases h0.2 with hn | ⟨g, cap, cur, rfl, hb, hg, hnc, hcm, hcs, ht⟩
  · exact .inl hn
  rcases hk.2 with ⟨rfl, _⟩ | ⟨g1, cap1, cur1, rfl, hb1, hg1, hnc1, hcm1, hcs1, ht1⟩
  · simp [Value.ownBlock] at he
  have e1 : g1 = g := by simpa [Value.ownBlock] using he
  subst e1
  rw [hg] at hg1
  injection hg1 with hg1
  injection hg1 with hg1 _ _
  subst hg1
  have ec : cap1 = cap := Nat.eq_of_mul_eq_mul_right hs (hcs1.symm.trans hcs)
  subst ec
  rcases hk'.2 with ⟨h, _⟩ | ⟨g2, cap2, cur2, h2, hb2, hg2, hnc2, hcm2, hcs2, ht2⟩
  · cases h
  injection h2 with h2 _ h3
  injection h2 with h2
  injection h2 with h2 _ _
  subst h2
  subst h3
  refine .inr ⟨g1, cap1, cur2, rfl, hb, hg2, hnc, hcm, hcs2, ?_⟩
  have h4 := congrArg (List.take (n * size)) ht2
  rw [List.take_take, Nat.min_eq_left (Nat.mul_le_mul_right _ (Nat.le_add_right _ _))] at h4
  rw [h4, ← h0.1]
  exact List.take_left

end Go.Proofs.YthenfioddnkjbaaGreatDoor
