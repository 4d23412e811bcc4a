import Derived.Test.YthenfioddnkjbaaGreatDoorLKeep
/- A law's book of lists of any kind: blocks are told apart by colours; a book lies at cells oo .. oo + 3 of its object, d (0 or 1) tells two books apart. -/
namespace Go.Proofs.YthenfioddnkjbaaGreatDoor.Bg
open Go.RowKit Go.Sort Go.Proofs.YthenfioddnkjbaaGreatDoor
set_option linter.unusedVariables false
section
variable {α : Type} {E : El α} {M : Nat → Nat → α}

abbrev OwnL (E : El α) (w : World) (B : Nat) (v : Value) (vs : List Value) : Prop := w.ownsRow B E.sl 1 v vs.length vs
def nthV (l : List Value) (i : Nat) : Value := (l[i]?).getD (.slice none 0 0)
def nthX (l : List (List α)) (i : Nat) : List α := (l[i]?).getD []
def nthM (l : List Nat) (i : Nat) : Nat := (l[i]?).getD 0
def marks (M : Nat → Nat → α) (n m : Nat) : List α := (List.range m).map (M n)
theorem marks_len (n m : Nat) : (marks M n m).length = m := by simp [marks]
theorem marks_get {n m i : Nat} (h : i < m) : (marks M n m)[i]? = some (M n i) := by simp [marks, h]
/-- readable elements in blocks of one colour -/
def RdC (E : El α) (w : World) (c : Nat → Nat) (q : Nat) (v : Value) (xs : List α) : Prop := ∃ a k, v = .slice a xs.length k ∧ ∀ j u, (E.flat xs)[j]? = some u → ∃ g o, a = some ⟨g, o, none⟩ ∧ c g = q ∧ w.cell? ⟨g, o + j, none⟩ = some u ∧ TyE E w g
theorem RdC.rd {w : World} {c : Nat → Nat} {q : Nat} {v : Value} {xs : List α} (h : RdC E w c q v xs) : Rd E w v xs := by
  obtain ⟨a, k, e, h⟩ := h
  refine ⟨a, k, e, fun i t hi => ?_⟩
  obtain ⟨g, o, e1, _, e2, _⟩ := h i t hi
  exact ⟨g, o, e1, e2⟩
theorem RdC.onl {w w' : World} {c c' : Nat → Nat} {q q' : Nat} {v : Value} {xs : List α} {S : Nat → Prop} (h : RdC E w c q v xs) (ho : Onl (fun k => S (c k)) w w') (hS : ¬ S q) (hc : ∀ k, k < w.heap.size → c k = q → c' k = q') : RdC E w' c' q' v xs := by
  obtain ⟨a, k, e, h⟩ := h
  refine ⟨a, k, e, fun i t hi => ?_⟩
  obtain ⟨g, o, e1, e2, e3, e4⟩ := h i t hi
  have hn : ¬ S (c g) := fun hs => hS (by rw [← e2]; exact hs)
  exact ⟨g, o, e1, hc g e4.lt e2, ho.cell hn e3, e4.keep (ho.block g e4.lt hn)⟩
/-- a row of one colour -/
def RwC (E : El α) (w : World) (B : Nat) (c : Nat → Nat) (q : Nat) (v : Value) (xs : List α) : Prop := RowF E w B v xs ∧ ∀ g, v.ownBlock = some g → c g = q
theorem RwC.onl {w w' : World} {B : Nat} {c c' : Nat → Nat} {q q' : Nat} {v : Value} {xs : List α} {S : Nat → Prop} (h : RwC E w B c q v xs) (ho : Onl (fun k => S (c k)) w w') (hS : ¬ S q) (hc : ∀ k, k < w.heap.size → c k = q → c' k = q') : RwC E w' B c' q' v xs :=
  ⟨h.1.keep fun g hg => ho.block g (h.1.lt g hg).2 (fun hs => hS (by rw [← h.2 g hg]; exact hs)), fun g hg => hc g (h.1.lt g hg).2 (h.2 g hg)⟩
theorem RwC.rdc {w : World} {B : Nat} {c : Nat → Nat} {q : Nat} {v : Value} {xs : List α} (h : RwC E w B c q v xs) : RdC E w c q v xs := by
  rcases h.1 with ⟨rfl, rfl⟩ | ⟨g, off, k, rfl, _, hr⟩
  · exact ⟨none, 0, rfl, fun i t e => by simp [El.flat] at e⟩
  · exact ⟨_, _, rfl, fun i t e => ⟨g, off, rfl, h.2 g rfl, hr.at_ i t e, hr.ty⟩⟩
end
/-- the book in plain words: its four rows, what they hold; X: the untouched lists, Y: what they held, N: the lengths of the kept ones -/
structure Bv (α : Type) where
  vf : Value
  vw : Value
  vk : Value
  vl : Value
  F : List Value
  Z : List Value
  K : List Value
  L : List Value
  X : List (List α)
  Y : List (List α)
  N : List Nat
/-- the object that holds the books -/
def Obj4 (T : TypeId) (w : World) (b : Nat) : Prop := ∃ cs, w.heap[b]? = some (.cells cs T (0, 0))
theorem Obj4.lt {T : TypeId} {w : World} {b : Nat} (h : Obj4 T w b) : b < w.heap.size := by
  obtain ⟨cs, hc⟩ := h
  exact (Array.getElem?_eq_some_iff.1 hc).1
theorem Obj4.loose {T : TypeId} {w : World} {b : Nat} (h : Obj4 T w b) (o : Nat) : w.frozen? ⟨b, o, none⟩ = false := by
  obtain ⟨cs, hc⟩ := h
  simp [World.frozen?, hc]
theorem Obj4.keep {T : TypeId} {w w' : World} {b : Nat} (h : Obj4 T w b) (hb : w'.heap[b]? = w.heap[b]?) : Obj4 T w' b := by
  obtain ⟨cs, hc⟩ := h
  exact ⟨cs, hb.trans hc⟩
theorem Obj4.set {T : TypeId} {w : World} {b : Nat} (h : Obj4 T w b) (x o : Nat) (v : Value) : Obj4 T (w.setCell ⟨x, o, none⟩ v) b := by
  obtain ⟨cur, hc⟩ := h
  rw [setCell_eq]
  by_cases e : x = b
  · subst e
    exact ⟨cur.setIfInBounds o v, by simp [mapBlock, Array.getElem?_modify, hc, onCells]⟩
  · exact ⟨cur, by simp [mapBlock, Array.getElem?_modify, e, hc]⟩
structure Bk {α : Type} (E : El α) (M : Nat → Nat → α) (T : TypeId) (w : World) (B b oo d : Nat) (c : Nat → Nat) (s : Bv α) : Prop where
  d2 : d < 4
  obj : Obj4 T w b
  c0 : w.cell? ⟨b, oo, none⟩ = some s.vf
  c1 : w.cell? ⟨b, oo + 1, none⟩ = some s.vw
  c2 : w.cell? ⟨b, oo + 2, none⟩ = some s.vk
  c3 : w.cell? ⟨b, oo + 3, none⟩ = some s.vl
  low : B ≤ b
  cb : c b = 28
  rf : OwnL E w B s.vf s.F
  cf : ∀ g, s.vf.ownBlock = some g → c g = 8 + d
  rw_ : OwnL E w B s.vw s.Z
  cw : ∀ g, s.vw.ownBlock = some g → c g = 12 + d
  rk : OwnL E w B s.vk s.K
  ck : ∀ g, s.vk.ownBlock = some g → c g = 16 + d
  rl : OwnL E w B s.vl s.L
  cl : ∀ g, s.vl.ownBlock = some g → c g = 20 + d
  lz : s.Z.length = s.F.length
  lx : s.X.length = s.F.length
  ly : s.Y.length = s.F.length
  lk : s.K.length = s.N.length
  ll : s.N.length ≤ s.L.length
  fr : ∀ i, i < s.F.length → RwC E w B c (64 + 4 * i + d) (nthV s.F i) (nthX s.X i)
  wa : ∀ i, i < s.F.length → RdC E w c (24 + d) (nthV s.Z i) (nthX s.Y i)
  kp : ∀ n, n < s.N.length → RdC E w c (24 + d) (nthV s.K n) (marks M n (nthM s.N n))
  lo : ∀ n, n < s.N.length → RdC E w c (24 + d) (nthV s.L n) (marks M n (nthM s.N n + 70))
section
variable {α : Type} {E : El α} {M : Nat → Nat → α} {T : TypeId}
theorem Bk.lt {w : World} {B b oo d : Nat} {c : Nat → Nat} {s : Bv α} (h : Bk E M T w B b oo d c s) : b < w.heap.size := h.obj.lt
theorem own_col {w w' : World} {B : Nat} {c : Nat → Nat} {q : Nat} {v : Value} {vs : List Value} {S : Nat → Prop} (h : OwnL E w B v vs) (hv : ∀ g, v.ownBlock = some g → c g = q) (ho : Onl (fun k => S (c k)) w w') (hS : ¬ S q) : OwnL E w' B v vs :=
  owns_keep h fun g hg => ho.block g (World.ownsRow.lt h g hg).2 (fun hs => hS (by rw [← hv g hg]; exact hs))
/-- the book stays while others are written: the object's own cells stay, or the object is not written at all -/
theorem Bk.onl {w w' : World} {B b oo d : Nat} {c c' : Nat → Nat} {s : Bv α} {S : Nat → Prop} (h : Bk E M T w B b oo d c s) (ho : Onl (fun k => S (c k)) w w') (hS : ∀ q, q ≠ 28 → (8 ≤ q ∧ q < 28 ∨ 64 ≤ q) → q % 4 = d → ¬ S q) (hob : Obj4 T w' b)
    (hcs : ∀ o, oo ≤ o → o < oo + 4 → w'.cell? ⟨b, o, none⟩ = w.cell? ⟨b, o, none⟩) (hc : ∀ k, k < w.heap.size → c k = 28 ∨ (8 ≤ c k ∧ c k < 28 ∨ 64 ≤ c k) ∧ c k % 4 = d → c' k = c k) : Bk E M T w' B b oo d c' s := by
  have hd := h.d2
  have hl : ∀ {v vs}, OwnL E w B v vs → ∀ g, v.ownBlock = some g → g < w.heap.size := fun h g hg => (World.ownsRow.lt h g hg).2
  have e9 : ∀ k, k < w.heap.size → c k = 24 + d → c' k = 24 + d := fun k hk e => (hc k hk (.inr (by omega))).trans e
  exact ⟨hd, hob, (hcs _ (by omega) (by omega)).trans h.c0, (hcs _ (by omega) (by omega)).trans h.c1, (hcs _ (by omega) (by omega)).trans h.c2, (hcs _ (by omega) (by omega)).trans h.c3, h.low, (hc b h.lt (.inl h.cb)).trans h.cb,
    own_col h.rf h.cf ho (hS _ (by omega) (by omega) (by omega)), fun g hg => (hc g (hl h.rf g hg) (.inr (by rw [h.cf g hg]; omega))).trans (h.cf g hg),
    own_col h.rw_ h.cw ho (hS _ (by omega) (by omega) (by omega)), fun g hg => (hc g (hl h.rw_ g hg) (.inr (by rw [h.cw g hg]; omega))).trans (h.cw g hg),
    own_col h.rk h.ck ho (hS _ (by omega) (by omega) (by omega)), fun g hg => (hc g (hl h.rk g hg) (.inr (by rw [h.ck g hg]; omega))).trans (h.ck g hg),
    own_col h.rl h.cl ho (hS _ (by omega) (by omega) (by omega)), fun g hg => (hc g (hl h.rl g hg) (.inr (by rw [h.cl g hg]; omega))).trans (h.cl g hg),
    h.lz, h.lx, h.ly, h.lk, h.ll,
    fun i hi => (h.fr i hi).onl ho (hS _ (by omega) (by omega) (by omega)) (fun k hk e => (hc k hk (.inr (by omega))).trans e),
    fun i hi => (h.wa i hi).onl ho (hS _ (by omega) (by omega) (by omega)) e9,
    fun n hn => (h.kp n hn).onl ho (hS _ (by omega) (by omega) (by omega)) e9, fun n hn => (h.lo n hn).onl ho (hS _ (by omega) (by omega) (by omega)) e9⟩
theorem Bk.after {w w' : World} {B b oo d : Nat} {c : Nat → Nat} {s : Bv α} (h : Bk E M T w B b oo d c s) (hb : Below w.heap.size w w') : Bk E M T w' B b oo d c s :=
  h.onl (S := fun _ => False) (Onl.of_below hb) (fun _ _ _ _ h => h) (h.obj.keep (hb.block b h.lt)) (fun o _ _ => World.cell?_of_block (a := ⟨b, o, none⟩) (hb.block b h.lt)) (fun _ _ _ => rfl)
theorem nthV_app {l : List Value} {z : Value} {i : Nat} : nthV (l ++ [z]) i = if i < l.length then nthV l i else if i = l.length then z else .slice none 0 0 := by
  unfold nthV
  by_cases h : i < l.length
  · rw [if_pos h, List.getElem?_append_left h]
  · rw [if_neg h, List.getElem?_append_right (by omega)]
    by_cases e : i = l.length
    · rw [if_pos e, e]; simp
    · rw [if_neg e, List.getElem?_eq_none (by simp; omega)]; rfl
theorem nthX_app {l : List (List α)} {z : List α} {i : Nat} : nthX (l ++ [z]) i = if i < l.length then nthX l i else if i = l.length then z else [] := by
  unfold nthX
  by_cases h : i < l.length
  · rw [if_pos h, List.getElem?_append_left h]
  · rw [if_neg h, List.getElem?_append_right (by omega)]
    by_cases e : i = l.length
    · rw [if_pos e, e]; simp
    · rw [if_neg e, List.getElem?_eq_none (by simp; omega)]; rfl
end
end Go.Proofs.YthenfioddnkjbaaGreatDoor.Bg
/- keep: one list more in the book. -/
namespace Go.Proofs.YthenfioddnkjbaaGreatDoor.Bg
open Go.RowKit Go.Sort Go.Proofs.YthenfioddnkjbaaGreatDoor
set_option linter.unusedVariables false

/-- the type of lists of such lists -/
structure El.Ok2 {α : Type} (E : El α) (ss : TypeId) : Prop where
  und : Tryz.prog.underlying ss = some (.slice E.sl)
  info : ∃ i, Tryz.prog.info? E.sl = some i ∧ i.zero = some (.slice none 0 0) ∧ i.size = 1 ∧ i.bytes = 24
section
variable {α : Type} {E : El α} {M : Nat → Nat → α} {T ss : TypeId}
/-- one list more at the end of a row of lists -/
theorem outer_one (hS : E.Ok2 ss) {w wx : World} {B q : Nat} {v z : Value} {vs : List Value} (h : OwnL E w B v vs) (hz : z.oneCell' = true) (hb : Below w.heap.size w wx) (hq : wx.heap[q]? = some (.cells #[z] E.sl (0, 0))) (hl : (vs.length + 1) * 64 ≤ 140737488355328) (hB : B ≤ w.heap.size) :
    ∃ a n c w', (Builtin.append_ #[ss, ss] ss #[v, .slice (some ⟨q, 0, none⟩) 1 1]).run Tryz.prog wx = .ok (.slice a n c) w' ∧ OwnL E w' B (.slice a n c) (vs ++ [z]) ∧ w.grownBy w' v.ownBlock ∧ ∀ k, (Value.slice a n c).ownBlock = some k → v.ownBlock = some k ∨ w.heap.size ≤ k := by
  obtain ⟨i0, hi0, hz0, hz1, hz2⟩ := hS.info
  have hx : OwnL E wx B v vs := owns_keep h fun g hg => hb.block g (World.ownsRow.lt h g hg).2
  obtain ⟨v', w', hr, hrow, hg, _, hn⟩ := run_append_keep (P := Tryz.prog) wx B ss ss E.sl i0 (.slice none 0 0) 1 24 hS.und hi0 hz0 hz1 hz2 rfl (by decide) v vs.length vs hx ⟨q, 0, none⟩ 1 1 [z] rfl (fun j u hj => by
      match j, hj with
      | 0, hj => simp at hj; subst hj; exact cell_obj hq rfl
      | j + 1, hj => simp at hj) (fun u hu => by simp at hu; subst hu; exact hz) (by unfold maxLen; omega) (by omega) (Nat.le_trans hB hb.size) (by decide)
  obtain ⟨a, c, rfl⟩ := owns_slice hrow
  refine ⟨a, _, c, w', hr, ?_, ⟨hg.os.trans hb.os, hg.tape.trans hb.tape, hg.output.trans hb.output, Nat.le_trans hb.size hg.size, fun k hk hne => (hg.block k (Nat.lt_of_lt_of_le hk hb.size) hne).trans (hb.block k hk)⟩, fun k e => ?_⟩
  · show World.ownsRow _ _ _ _ _ (vs ++ [z]).length (vs ++ [z])
    rw [List.length_append]; exact hrow
  · rcases hn with h1 | ⟨j, h1, h2⟩
    · exact .inl (h1.symm.trans e)
    · rw [h1] at e
      injection e with e
      exact .inr (by have := hb.size; omega)
/-- the book with one list more -/
def Bv.push (s : Bv α) (vf vw z zz : Value) (xs : List α) : Bv α := { s with vf := vf, vw := vw, F := s.F ++ [z], Z := s.Z ++ [zz], X := s.X ++ [xs], Y := s.Y ++ [xs] }
theorem one_slice {z : Value} {a : Option Addr} {n k : Nat} (h : z = .slice a n k) : z.oneCell' = true := by subst h; rfl
theorem ne_off {b i j : Nat} (h : i ≠ j) : (⟨b, i, none⟩ : Addr) ≠ ⟨b, j, none⟩ := fun e => h (by injection e)
/-- what keep leaves -/
structure Kp (E : El α) (M : Nat → Nat → α) (T : TypeId) (w w' : World) (B b oo d : Nat) (c c' : Nat → Nat) (s s' : Bv α) (q : Nat) (xs : List α) : Prop where
  bk : Bk E M T w' B b oo d c' s'
  onl : Onl (fun k => c k = 8 + d ∨ c k = 12 + d ∨ c k = 28) w w'
  oc : ∀ o, o < oo ∨ oo + 4 ≤ o → w'.cell? ⟨b, o, none⟩ = w.cell? ⟨b, o, none⟩
  col : ∀ k, k < w.heap.size → c k ≠ q → c' k = c k
  X : s'.X = s.X ++ [xs]
  Y : s'.Y = s.Y ++ [xs]
  N : s'.N = s.N
  L : s'.L = s.L
  F : s'.F.length = s.F.length + 1
  bl : Below B w w'
theorem keep_plain (hE : E.Ok) (hS : E.Ok2 ss) {w : World} {B b oo d q : Nat} {c : Nat → Nat} {s : Bv α} {z : Value} {xs : List α} (h : Bk E M T w B b oo d c s) (hz : RwC E w B c q z xs) (hq : 32 ≤ q ∧ q < 64) (hB : B ≤ w.heap.size) (hl : xs.length * 64 ≤ 140737488355328) (hF : (s.F.length + 1) * 64 ≤ 140737488355328) :
    ∃ a1 n1 c1 w1 a2 n2 c2 w3 a3 n3 c3 w5, (Builtin.append_ #[ss, ss] ss #[s.vf, .slice (some ⟨w.heap.size, 0, none⟩) 1 1]).run Tryz.prog (w.alloc (.cells #[z] E.sl)) = .ok (.slice a1 n1 c1) w1 ∧
      w1.cell? ⟨b, oo, none⟩ = some s.vf ∧ w1.cell? ⟨b, oo + 1, none⟩ = some s.vw ∧ w1.frozen? ⟨b, oo, none⟩ = false ∧
      (Builtin.append_ #[E.sl, E.sl] E.sl #[.slice none 0 0, z]).run Tryz.prog (w1.setCell ⟨b, oo, none⟩ (.slice a1 n1 c1)).drew = .ok (.slice a2 n2 c2) w3 ∧ w3.cell? ⟨b, oo + 1, none⟩ = some s.vw ∧
      (Builtin.append_ #[ss, ss] ss #[s.vw, .slice (some ⟨w3.heap.size, 0, none⟩) 1 1]).run Tryz.prog (w3.alloc (.cells #[.slice a2 n2 c2] E.sl)) = .ok (.slice a3 n3 c3) w5 ∧
      w5.cell? ⟨b, oo + 1, none⟩ = some s.vw ∧ w5.frozen? ⟨b, oo + 1, none⟩ = false ∧ Hid (∃ c' s', Kp E M T w (w5.setCell ⟨b, oo + 1, none⟩ (.slice a3 n3 c3)) B b oo d c c' s s' q xs) := by
  have hd := h.d2
  obtain ⟨za, zk, hzv, _, _⟩ := hz.1.slice
  have hba : Below w.heap.size w (w.alloc (.cells #[z] E.sl)) := Below.al (Below.refl _ _) _
  obtain ⟨a1, n1, c1, w1, hr1, hrow1, hg1, hn1⟩ := outer_one hS h.rf (one_slice hzv) hba (World.alloc_heap_new _ _) hF hB
  have hs1 := hg1.size
  have hvfb : s.vf.ownBlock ≠ some b := fun e => by have h1 := h.cf b e; have h2 := h.cb; omega
  have hb1 : w1.heap[b]? = w.heap[b]? := hg1.block b h.lt (fun e => hvfb e.symm)
  have hc1 : ∀ o, w1.cell? ⟨b, o, none⟩ = w.cell? ⟨b, o, none⟩ := fun o => World.cell?_of_block (a := ⟨b, o, none⟩) hb1
  have hO1 := h.obj.keep hb1
  have hlt1 : ∀ {k : Nat}, k < w.heap.size → k < w1.heap.size := fun hk => Nat.lt_of_lt_of_le hk hs1
  obtain ⟨w2, hw2⟩ : ∃ w2, w2 = w1.setCell ⟨b, oo, none⟩ (.slice a1 n1 c1) := ⟨_, rfl⟩
  have hs2 : w2.heap.size = w1.heap.size := by rw [hw2]; simp [World.setCell]
  have hO2 : Obj4 T w2 b := by rw [hw2]; exact hO1.set _ _ _
  have hc20 : w2.cell? ⟨b, oo, none⟩ = some (.slice a1 n1 c1) := by rw [hw2]; exact World.cell?_setCell_same _ _ _ ((hc1 oo).trans h.c0)
  have hc2 : ∀ o, o ≠ oo → w2.cell? ⟨b, o, none⟩ = w.cell? ⟨b, o, none⟩ := fun o ho => by rw [hw2, World.cell?_setCell_other _ _ _ _ (ne_off (Ne.symm ho))]; exact hc1 o
  have hk2 : ∀ k, k ≠ b → w2.heap[k]? = w1.heap[k]? := fun k hk => by rw [hw2]; exact Below.heap_setCell _ _ _ _ hk
  have ho2 : Onl (fun k => c k = 8 + d ∨ c k = 12 + d ∨ c k = 28) w w2 := by
    rw [hw2]
    exact Onl.set ((grown_onl hg1).mono fun k e => .inl (h.cf k e)) (.inr (.inr h.cb)) _ _
  have hz2' : RwC E w2 B c q z xs := hz.onl (S := fun k => k = 8 + d ∨ k = 12 + d ∨ k = 28) ho2 (fun e => by omega) (fun k _ e => e)
  obtain ⟨v2, w3, hr2, hrow2, hg2, hn2⟩ := run_append_F hE (w := w2.drew) (B := w2.heap.size) (RowF.nil _ _) (u := z) (ys := xs) ((hz2'.1.keep (w' := w2.drew) fun _ _ => rfl).rd) E.sl (by simpa using hl) (Nat.le_refl _)
  obtain ⟨a2, k2, rfl, _, _⟩ := hrow2.slice
  rw [List.nil_append] at hrow2 hn2 hr2
  have hb23 : Below w2.heap.size w2 w3 := ⟨hg2.os, hg2.tape, hg2.output, hg2.size, fun k hk => hg2.block k hk (fun e => by cases e)⟩
  have hltb2 : b < w2.heap.size := by rw [hs2]; exact hlt1 h.lt
  have hb3 : w3.heap[b]? = w2.heap[b]? := hb23.block b hltb2
  have hc3 : ∀ o, w3.cell? ⟨b, o, none⟩ = w2.cell? ⟨b, o, none⟩ := fun o => World.cell?_of_block (a := ⟨b, o, none⟩) hb3
  have hO3 := hO2.keep hb3
  have ho3 : Onl (fun k => c k = 8 + d ∨ c k = 12 + d ∨ c k = 28) w w3 := ho2.on hb23
  have hw3 : OwnL E w3 B s.vw s.Z := own_col (S := fun k => k = 8 + d ∨ k = 28) h.rw_ h.cw (by
    have o1 : Onl (fun k => c k = 8 + d ∨ c k = 28) w w2 := by
      rw [hw2]
      exact Onl.set ((grown_onl hg1).mono fun k e => .inl (h.cf k e)) (.inr h.cb) _ _
    exact o1.on hb23) (by omega)
  have hb34 : Below w3.heap.size w3 (w3.alloc (.cells #[.slice a2 xs.length k2] E.sl)) := Below.al (Below.refl _ _) _
  obtain ⟨a3, n3, c3, w5, hr3, hrow3, hg3, hn3⟩ := outer_one hS hw3 (one_slice rfl) hb34 (World.alloc_heap_new _ _) (by rw [h.lz]; exact hF) (Nat.le_trans hB ho3.size)
  have hvwb : s.vw.ownBlock ≠ some b := fun e => by have h1 := h.cw b e; have h2 := h.cb; omega
  have hb5 : w5.heap[b]? = w3.heap[b]? := hg3.block b hO3.lt (fun e => hvwb e.symm)
  have hc5 : ∀ o, w5.cell? ⟨b, o, none⟩ = w2.cell? ⟨b, o, none⟩ := fun o => (World.cell?_of_block (a := ⟨b, o, none⟩) hb5).trans (hc3 o)
  have hO5 := hO3.keep hb5
  have hw51 : w5.cell? ⟨b, oo + 1, none⟩ = some s.vw := ((hc5 _).trans (hc2 _ (by omega))).trans h.c1
  obtain ⟨w6, hw6⟩ : ∃ w6, w6 = w5.setCell ⟨b, oo + 1, none⟩ (.slice a3 n3 c3) := ⟨_, rfl⟩
  have hO6 : Obj4 T w6 b := by rw [hw6]; exact hO5.set _ _ _
  have hc61 : w6.cell? ⟨b, oo + 1, none⟩ = some (.slice a3 n3 c3) := by rw [hw6]; exact World.cell?_setCell_same _ _ _ hw51
  have hc6 : ∀ o, o ≠ oo + 1 → w6.cell? ⟨b, o, none⟩ = w2.cell? ⟨b, o, none⟩ := fun o ho => by rw [hw6, World.cell?_setCell_other _ _ _ _ (ne_off (Ne.symm ho))]; exact hc5 o
  have hk6 : ∀ k, k ≠ b → w6.heap[k]? = w5.heap[k]? := fun k hk => by rw [hw6]; exact Below.heap_setCell _ _ _ _ hk
  have ho6 : Onl (fun k => c k = 8 + d ∨ c k = 12 + d ∨ c k = 28) w w6 := by
    rw [hw6]
    exact Onl.set (ho3.fresh (grown_onl hg3) (fun i hi => .inl (.inr (.inl (h.cw i hi))))) (.inr (.inr h.cb)) _ _
  have hs3 := hb23.size
  have hs5 := hg3.size
  have hB2 : Below B w w2 := by rw [hw2]; exact ((grown_onl hg1).below (fun k e => (World.ownsRow.lt h.rf k e).1) hB).setCell h.low _
  have hB3 : Below B w w3 := hB2.trans (hb23.mono (Nat.le_trans hB hB2.size))
  have hB6 : Below B w w6 := by rw [hw6]; exact (hB3.trans ((grown_onl hg3).below (fun k e => (World.ownsRow.lt h.rw_ k e).1) (Nat.le_trans hB hB3.size))).setCell h.low _
  -- the colours
  obtain ⟨cc, hcc⟩ : ∃ cc : Nat → Nat, cc = fun k => if k < w.heap.size then (if c k = q then 64 + 4 * s.F.length + d else c k) else if k < w2.heap.size then 8 + d else if k < w3.heap.size then 24 + d else 12 + d := ⟨_, rfl⟩
  have cold : ∀ k, k < w.heap.size → c k ≠ q → cc k = c k := fun k hk hne => by rw [hcc]; simp [hk, hne]
  have cq : ∀ k, k < w.heap.size → c k = q → cc k = 64 + 4 * s.F.length + d := fun k hk e => by rw [hcc]; simp [hk, e]
  have keepS : ∀ {v : Value} {vs : List Value} {q' : Nat}, OwnL E w B v vs → (∀ g, v.ownBlock = some g → c g = q') → q' ≠ 8 + d → q' ≠ 12 + d → q' ≠ 28 → OwnL E w6 B v vs := fun hv hq' h4 h5 h8 => own_col (S := fun k => k = 8 + d ∨ k = 12 + d ∨ k = 28) hv hq' ho6 (by omega)
  have colS : ∀ {v : Value} {vs : List Value} {q' : Nat}, OwnL E w B v vs → (∀ g, v.ownBlock = some g → c g = q') → q' ≠ q → ∀ g, v.ownBlock = some g → cc g = q' := fun hv hq' hne g hg => by rw [cold g (World.ownsRow.lt hv g hg).2 (by rw [hq' g hg]; exact hne)]; exact hq' g hg
  have e9 : ∀ k, k < w.heap.size → c k = 24 + d → cc k = 24 + d := fun k hk e => by rw [cold k hk (by omega)]; exact e
  have hF1 : OwnL E w1 B (.slice a1 n1 c1) (s.F ++ [z]) := hrow1
  have hne1 : ∀ g, (Value.slice a1 n1 c1).ownBlock = some g → g ≠ b ∧ s.vw.ownBlock ≠ some g ∧ g < w1.heap.size := fun g hg => by
    have hlt := (World.ownsRow.lt hF1 g hg).2
    rcases hn1 g hg with h1 | h1
    · refine ⟨fun e => hvfb (by rw [h1, e]), fun e => ?_, hlt⟩
      have e1 := h.cf g h1
      have e2 := h.cw g e
      omega
    · refine ⟨fun e => by have := h.lt; omega, fun e => ?_, hlt⟩
      have := (World.ownsRow.lt h.rw_ g e).2
      omega
  refine ⟨a1, n1, c1, w1, a2, xs.length, k2, w3, a3, n3, c3, w5, hr1, (hc1 _).trans h.c0, (hc1 _).trans h.c1, hO1.loose _, by rw [← hw2]; exact hr2, ((hc3 _).trans (hc2 _ (by omega))).trans h.c1, hr3, hw51, hO5.loose _, cc, s.push (.slice a1 n1 c1) (.slice a3 n3 c3) z (.slice a2 xs.length k2) xs, ?_⟩
  rw [← hw6]
  refine ⟨⟨hd, hO6, (hc6 _ (by omega)).trans hc20, hc61, ((hc6 _ (by omega)).trans (hc2 _ (by omega))).trans h.c2, ((hc6 _ (by omega)).trans (hc2 _ (by omega))).trans h.c3, h.low, by rw [cold b h.lt (by rw [h.cb]; omega)]; exact h.cb, ?_, fun g hg => ?_, ?_, fun g hg => ?_, keepS h.rk h.ck (by omega) (by omega) (by omega), colS h.rk h.ck (by omega), keepS h.rl h.cl (by omega) (by omega) (by omega), colS h.rl h.cl (by omega), ?_, ?_, ?_, h.lk, h.ll, fun i hi => ?_, fun i hi => ?_, fun n hn => (h.kp n hn).onl (S := fun k => k = 8 + d ∨ k = 12 + d ∨ k = 28) ho6 (by omega) e9, fun n hn => (h.lo n hn).onl (S := fun k => k = 8 + d ∨ k = 12 + d ∨ k = 28) ho6 (by omega) e9⟩, ho6, fun o ho => (hc6 o (by omega)).trans (hc2 o (by omega)), cold, rfl, rfl, rfl, rfl, by simp [Bv.push], hB6⟩
  · refine owns_keep hF1 fun g hg => ?_
    obtain ⟨e1, e2, e3⟩ := hne1 g hg
    rw [hk6 g e1, hg3.block g (by omega) (fun e => e2 e.symm), hb23.block g (by omega), hk2 g e1]
  · obtain ⟨e1, e2, e3⟩ := hne1 g hg
    rcases hn1 g hg with h1 | h1
    · rw [cold g (World.ownsRow.lt h.rf g h1).2 (by rw [h.cf g h1]; omega)]; exact h.cf g h1
    · rw [hcc]
      simp only
      rw [if_neg (by omega), if_pos (by omega)]
  · refine owns_keep hrow3 fun g hg => hk6 g (fun e => ?_)
    have hlt := (World.ownsRow.lt hrow3 g hg).2
    rcases hn3 g hg with h1 | h1
    · exact hvwb (by rw [h1, e])
    · have := hO3.lt; omega
  · rcases hn3 g hg with h1 | h1
    · rw [cold g (World.ownsRow.lt h.rw_ g h1).2 (by rw [h.cw g h1]; omega)]; exact h.cw g h1
    · rw [hcc]
      simp only
      rw [if_neg (by omega), if_neg (by omega), if_neg (by omega)]
  · simp [Bv.push, h.lz]
  · simp [Bv.push, h.lx]
  · simp [Bv.push, h.ly]
  · show RwC E w6 B cc (64 + 4 * i + d) (nthV (s.F ++ [z]) i) (nthX (s.X ++ [xs]) i)
    have hi : i < s.F.length + 1 := by simpa [Bv.push] using hi
    rw [nthV_app, nthX_app, h.lx]
    by_cases hlt : i < s.F.length
    · rw [if_pos hlt, if_pos hlt]
      exact (h.fr i hlt).onl (S := fun k => k = 8 + d ∨ k = 12 + d ∨ k = 28) ho6 (by omega) (fun k hk e => by rw [cold k hk (by omega)]; exact e)
    · have e : i = s.F.length := by omega
      rw [if_neg hlt, if_neg hlt, if_pos e, if_pos e, e]
      exact hz.onl (S := fun k => k = 8 + d ∨ k = 12 + d ∨ k = 28) ho6 (by omega) cq
  · show RdC E w6 cc (24 + d) (nthV (s.Z ++ [.slice a2 xs.length k2]) i) (nthX (s.Y ++ [xs]) i)
    have hi : i < s.F.length + 1 := by simpa [Bv.push] using hi
    rw [nthV_app, nthX_app, h.ly, h.lz]
    by_cases hlt : i < s.F.length
    · rw [if_pos hlt, if_pos hlt]
      exact (h.wa i hlt).onl (S := fun k => k = 8 + d ∨ k = 12 + d ∨ k = 28) ho6 (by omega) e9
    · have e : i = s.F.length := by omega
      rw [if_neg hlt, if_neg hlt, if_pos e, if_pos e]
      have hrow6 : RowF E w6 w2.heap.size (.slice a2 xs.length k2) xs := hrow2.keep fun g hg => by
        have h1 := hrow2.lt g hg
        have hlb := h.lt
        rw [hk6 g (by omega)]
        exact hg3.block g h1.2 (fun e => by
          have := (World.ownsRow.lt h.rw_ g e.symm).2
          omega)
      refine RwC.rdc (B := w2.heap.size) ⟨hrow6, fun g hg => ?_⟩
      have h1 := hrow2.lt g hg
      rw [hcc]
      simp only
      rw [if_neg (by omega), if_neg (by omega), if_pos h1.2]
end
end Go.Proofs.YthenfioddnkjbaaGreatDoor.Bg
/- Lists that are written into, and lengthened. -/
namespace Go.Proofs.YthenfioddnkjbaaGreatDoor.Bg
open Go.RowKit Go.Sort Go.Proofs.YthenfioddnkjbaaGreatDoor
set_option linter.unusedVariables false

/-- z begins as v does, or lies elsewhere -/
def Pf (v z : Value) (n n0 : Nat) : Prop := (∃ a n1 c1 n2 c2, v = .slice a n1 c1 ∧ z = .slice a n2 c2 ∧ n0 ≤ n) ∨ ∀ g, z.ownBlock = some g → v.ownBlock ≠ some g
theorem Pf.start {v : Value} {a : Option Addr} {n c : Nat} (h : v = .slice a n c) (m : Nat) : Pf v v m m := .inl ⟨a, n, c, n, c, h, h, Nat.le_refl _⟩
theorem some_setc {w : World} {b o g k : Nat} {v : Value} : ((w.setCell ⟨b, o, none⟩ v).cell? ⟨g, k, none⟩).isSome = (w.cell? ⟨g, k, none⟩).isSome := by
  by_cases e : (⟨b, o, none⟩ : Addr) = ⟨g, k, none⟩
  · injection e with e1 e2
    subst e1 e2
    cases h : w.cell? ⟨b, o, none⟩ with
    | some x => rw [World.cell?_setCell_same _ _ _ h]; rfl
    | none =>
      rw [setCell_eq]
      simp only [World.cell?] at h ⊢
      simp only [mapBlock, Array.getElem?_modify, if_true]
      cases hb : w.heap[b]? with
      | none => simp
      | some ob =>
        cases ob <;> simp_all [onCells]
  · rw [World.cell?_setCell_other _ _ _ _ e]
theorem some_sets {g k : Nat} (b : Nat) : ∀ (vs : List Value) (o : Nat) (w : World), ((w.setCells b o vs).cell? ⟨g, k, none⟩).isSome = (w.cell? ⟨g, k, none⟩).isSome
  | [], _, _ => rfl
  | v :: r, o, w => (some_sets b r (o + 1) (w.setCell ⟨b, o, none⟩ v)).trans some_setc
section
variable {α : Type} {E : El α} {M : Nat → Nat → α} {T ss : TypeId}
/-- what lies in the head of a row stays while elements are laid behind it -/
theorem append_pre (hE : E.Ok) {w : World} {B B0 : Nat} {v : Value} {xs : List α} (h : RowF E w B v xs) {u : Value} {ys : List α} (hu : Rd E w u ys) {ty : TypeId} (hl : (xs.length + ys.length) * 64 ≤ 140737488355328)
    {v' : Value} {w' : World} (hr : (Builtin.append_ #[E.sl, E.sl] ty #[v, u]).run Tryz.prog w = .ok v' w') {z : Value} {x0 : List α} (hz0 : RowF E w B0 z x0) (hp : Pf v z xs.length x0.length) : RowF E w' B0 z x0 ∧ Pf v' z (xs.length + ys.length) x0.length := by
  obtain ⟨i, hi, hz, h1, h2⟩ := hE.info
  have hby : (xs.length + ys.length) * i.bytes ≤ 140737488355328 := by rw [h2]; exact Nat.le_trans (Nat.mul_le_mul_left _ hE.le) hl
  have hs := hu.src hE hE.und
  have hs1 : Src Tryz.prog i.size E.sl u ys.length (E.flat ys) w := by rw [h1]; exact hs
  by_cases h0 : ys = []
  · subst h0
    obtain ⟨a, c, rfl, hle, hmx⟩ := h.slice
    have hrun := run_append_nothing (P := Tryz.prog) w _ _ ty _ i hE.und hi a xs.length c hle u hs1
    rw [hr] at hrun
    injection hrun with e1 e2
    subst e1 e2
    exact ⟨hz0, hp⟩
  have hpos : 0 < ys.length := List.length_pos_iff.2 h0
  have grow : ∀ (a : Option Addr) (c : Nat), v = .slice a xs.length c → c < xs.length + ys.length → Rd E w v xs → RowF E w' B0 z x0 ∧ Pf v' z (xs.length + ys.length) x0.length := by
    rintro a c rfl hc hx
    have hsx : Src Tryz.prog i.size E.sl (.slice a xs.length c) xs.length (E.flat xs) w := by rw [h1]; exact hx.src hE hE.und
    have hrun := run_append_grow_src (P := Tryz.prog) w E.sl E.sl ty E.ty i _ hE.und hi hz a xs.length c (E.flat xs) hsx.cellsD u ys.length (E.flat ys) hs1 hc (by omega) (growslice_fits hc hby)
    rw [hr] at hrun
    injection hrun with e1 e2
    subst e1 e2
    refine ⟨hz0.keep fun g hg => Below.heap_alloc w.drew _ g (hz0.lt g hg).2, .inr fun g hg e => ?_⟩
    injection e with e
    have h3 := (hz0.lt g hg).2
    have e : w.heap.size = g := e
    omega
  rcases h with ⟨rfl, rfl⟩ | ⟨g, off, c, rfl, hg, h⟩
  · exact grow none 0 rfl (by simpa using hpos) (RowF.nil w 0).rd
  · by_cases hrm : xs.length + ys.length ≤ c
    · have hrk : xs.length * E.k + ys.length * E.k ≤ c * E.k := by rw [← Nat.add_mul]; exact Nat.mul_le_mul_right _ hrm
      have hrun := run_append_room_src (P := Tryz.prog) w E.sl E.sl ty E.ty i hE.und hi g off xs.length c u ys.length (E.flat ys) hs1 hrm
        (fun j hj => by rw [hE.flat_len] at hj; rw [h1, Nat.add_assoc]; exact h.sp _ (by omega)) (fun j hj => h.ty.loose _)
      rw [h1, hr] at hrun
      injection hrun with e1 e2
      subst e1 e2
      rcases hp with ⟨a, n1, c1, n2, c2, e1, rfl, hle⟩ | hne
      · injection e1 with e1 _ _
        subst e1
        refine ⟨?_, .inl ⟨_, _, _, _, _, rfl, rfl, by omega⟩⟩
        rcases hz0 with ⟨e, _⟩ | ⟨g2, off2, c3, e, hb, hr2⟩
        · cases e
        · injection e with e1 e2 e3
          have e1 := Option.some.inj e1
          injection e1 with e4 e5
          subst e4 e5 e3
          refine .inr ⟨g, off, _, by rw [← e2], hb, TyE.sets _ _ _ hr2.ty, hr2.le, hr2.mx, fun i t e => ?_, fun i hi => ?_⟩
          · have hi := (List.getElem?_eq_some_iff.1 e).1
            rw [hE.flat_len] at hi
            have hle2 : x0.length * E.k ≤ xs.length * E.k := Nat.mul_le_mul_right _ hle
            rw [World.cell?_setCells_out g _ _ _ _ (fun _ _ => .inl (by show off + i < off + xs.length * E.k; omega))]
            exact hr2.at_ i t e
          · rw [some_sets g]; exact hr2.sp i hi
      · refine ⟨hz0.keep fun k hk => (grown_sets w g _ _).block k (hz0.lt k hk).2 (fun e => hne k hk (by rw [e]; rfl)), .inr hne⟩
    · exact grow _ c rfl (by omega) h.rd
/-- an element written into its place -/
theorem RowF.put (hE : E.Ok) {w : World} {B g off n c : Nat} {xs : List α} (h : RowF E w B (.slice (some ⟨g, off, none⟩) n c) xs) {k : Nat} (hk : k < xs.length) (t : α) : RowF E (w.setCells g (off + k * E.k) (E.cs t)) B (.slice (some ⟨g, off, none⟩) n c) (xs.set k t) := by
  rcases h with ⟨e, _⟩ | ⟨g2, off2, c2, e, hb, hr⟩
  · cases e
  · injection e with e1 e2 e3
    have e1 := Option.some.inj e1
    injection e1 with e4 e5
    subst e4 e5 e3
    have hkk : k * E.k + E.k ≤ xs.length * E.k := by
      have h1 : (k + 1) * E.k ≤ xs.length * E.k := Nat.mul_le_mul_right _ hk
      rw [Nat.add_mul] at h1; omega
    have hck : xs.length * E.k ≤ c * E.k := Nat.mul_le_mul_right _ hr.le
    have hin := World.cell?_setCells_in g (E.cs t) (off + k * E.k) w (fun j hj => by
      rw [hE.len] at hj
      rw [Nat.add_assoc]
      exact hr.sp _ (by omega))
    refine .inr ⟨g, off, _, by rw [List.length_set, ← e2], hb, TyE.sets _ _ _ hr.ty, by rw [List.length_set]; exact hr.le, hr.mx, fun j u e => ?_, fun i hi => by rw [some_sets g]; exact hr.sp i hi⟩
    have hpos := hE.pos
    have hjl := (List.getElem?_eq_some_iff.1 e).1
    rw [hE.flat_len, List.length_set] at hjl
    have hdm := Nat.div_add_mod j E.k
    have hm := Nat.mod_lt j hpos
    have hq : j / E.k < xs.length := (Nat.div_lt_iff_lt_mul hpos).2 hjl
    rw [Nat.mul_comm] at hdm
    by_cases ek : k = j / E.k
    · have hx : (xs.set k t)[j / E.k]? = some t := by rw [List.getElem?_set, if_pos ek, if_pos hk]
      have hf := hE.flat_get (xs.set k t) (j / E.k) (j % E.k) t hx hm
      rw [hdm, e] at hf
      obtain ⟨hj2, e2⟩ := List.getElem?_eq_some_iff.1 hf.symm
      have := hin (j % E.k) hj2
      rw [e2, ek, Nat.add_assoc, hdm] at this
      rw [ek]
      exact this
    · have hx : (xs.set k t)[j / E.k]? = some xs[j / E.k] := by rw [List.getElem?_set, if_neg ek]; exact List.getElem?_eq_getElem hq
      have hf := hE.flat_get (xs.set k t) (j / E.k) (j % E.k) _ hx hm
      have hf2 := hE.flat_get xs (j / E.k) (j % E.k) _ (List.getElem?_eq_getElem hq) hm
      rw [hdm, e] at hf
      rw [hdm, ← hf] at hf2
      rw [World.cell?_setCells_out g _ _ _ _ (fun _ _ => ?_)]
      · exact hr.at_ j u hf2
      · show off + j < off + k * E.k ∨ off + k * E.k + (E.cs t).length ≤ off + j
        rw [hE.len]
        rcases Nat.lt_or_ge (j / E.k) k with h1 | h1
        · have h2 : (j / E.k + 1) * E.k ≤ k * E.k := Nat.mul_le_mul_right _ h1
          rw [Nat.add_mul] at h2
          omega
        · have h2 : (k + 1) * E.k ≤ j / E.k * E.k := Nat.mul_le_mul_right _ (by omega)
          rw [Nat.add_mul] at h2
          omega
/-- one of the untouched lists changed: the book is the same but for it -/
theorem Bk.putX {w w' : World} {B b oo d : Nat} {c c' : Nat → Nat} {s : Bv α} {i : Nat} (h : Bk E M T w B b oo d c s) (ho : Onl (fun k => c k = 64 + 4 * i + d) w w') (hc : ∀ k, k < w.heap.size → c' k = c k) {xs : List α} (hi : i < s.F.length) (hr : RwC E w' B c' (64 + 4 * i + d) (nthV s.F i) xs) : Bk E M T w' B b oo d c' { s with X := s.X.set i xs } := by
  have hd := h.d2
  have h9 : ∀ q : Nat, q ≤ 60 → ¬ q = 64 + 4 * i + d := fun q h => by omega
  have hl : ∀ {v vs}, OwnL E w B v vs → ∀ g, v.ownBlock = some g → g < w.heap.size := fun h g hg => (World.ownsRow.lt h g hg).2
  have e9 : ∀ k, k < w.heap.size → c k = 24 + d → c' k = 24 + d := fun k hk e => (hc k hk).trans e
  have hbb : w'.heap[b]? = w.heap[b]? := ho.block b h.lt (by rw [h.cb]; omega)
  have hcb : ∀ o, w'.cell? ⟨b, o, none⟩ = w.cell? ⟨b, o, none⟩ := fun o => World.cell?_of_block (a := ⟨b, o, none⟩) hbb
  refine ⟨hd, h.obj.keep hbb, (hcb _).trans h.c0, (hcb _).trans h.c1, (hcb _).trans h.c2, (hcb _).trans h.c3, h.low, (hc b h.lt).trans h.cb,
    own_col (S := fun q => q = 64 + 4 * i + d) h.rf h.cf ho (h9 _ (by omega)), fun g hg => (hc g (hl h.rf g hg)).trans (h.cf g hg),
    own_col (S := fun q => q = 64 + 4 * i + d) h.rw_ h.cw ho (h9 _ (by omega)), fun g hg => (hc g (hl h.rw_ g hg)).trans (h.cw g hg),
    own_col (S := fun q => q = 64 + 4 * i + d) h.rk h.ck ho (h9 _ (by omega)), fun g hg => (hc g (hl h.rk g hg)).trans (h.ck g hg),
    own_col (S := fun q => q = 64 + 4 * i + d) h.rl h.cl ho (h9 _ (by omega)), fun g hg => (hc g (hl h.rl g hg)).trans (h.cl g hg),
    h.lz, by rw [List.length_set]; exact h.lx, h.ly, h.lk, h.ll, fun j hj => ?_,
    fun j hj => (h.wa j hj).onl (S := fun q => q = 64 + 4 * i + d) ho (h9 _ (by omega)) e9,
    fun n hn => (h.kp n hn).onl (S := fun q => q = 64 + 4 * i + d) ho (h9 _ (by omega)) e9, fun n hn => (h.lo n hn).onl (S := fun q => q = 64 + 4 * i + d) ho (h9 _ (by omega)) e9⟩
  show RwC E w' B c' (64 + 4 * j + d) (nthV s.F j) (nthX (s.X.set i xs) j)
  by_cases e : j = i
  · subst e
    have : nthX (s.X.set j xs) j = xs := by
      unfold nthX
      rw [List.getElem?_set, if_pos rfl, if_pos (by rw [h.lx]; exact hi)]; rfl
    rw [this]; exact hr
  · have : nthX (s.X.set i xs) j = nthX s.X j := by
      unfold nthX
      rw [List.getElem?_set, if_neg (fun e2 => e e2.symm)]
    rw [this]
    exact (h.fr j hj).onl (S := fun q => q = 64 + 4 * i + d) ho (by omega) (fun k hk e1 => (hc k hk).trans e1)
end
end Go.Proofs.YthenfioddnkjbaaGreatDoor.Bg
/- The book: lists lengthened, and kept. -/
namespace Go.Proofs.YthenfioddnkjbaaGreatDoor.Bg
open Go.RowKit Go.Sort Go.Proofs.YthenfioddnkjbaaGreatDoor
set_option linter.unusedVariables false

def ext (w : World) (c : Nat → Nat) (a : Nat) : Nat → Nat := fun k => if k < w.heap.size then c k else a
theorem ext_old {w : World} {c : Nat → Nat} {a k : Nat} (h : k < w.heap.size) : ext w c a k = c k := by simp [ext, h]
theorem ext_new {w : World} {c : Nat → Nat} {a k : Nat} (h : w.heap.size ≤ k) : ext w c a k = a := by
  unfold ext; rw [if_neg (by omega)]
section
variable {α : Type} {E : El α} {M : Nat → Nat → α} {T ss : TypeId}
theorem OwnL.at {w : World} {B n k : Nat} {a : Option Addr} {vs : List Value} (h : OwnL E w B (.slice a n k) vs) {i : Nat} (hi : i < vs.length) : ∃ g, a = some ⟨g, 0, none⟩ ∧ w.cell? ⟨g, i, none⟩ = some (nthV vs i) := by
  rcases h.2 with ⟨e, h0⟩ | ⟨g, cap, cur, e, _⟩
  · omega
  · injection e with e1 e2 e3
    subst e1 e3
    have e2 : n = vs.length := e2
    subst e2
    refine ⟨g, rfl, ?_⟩
    rw [World.ownsRow.cellAt h i (by omega), nthV, List.getElem?_eq_getElem hi]; rfl
theorem OwnL.cap {w : World} {B n k : Nat} {a : Option Addr} {vs : List Value} (h : OwnL E w B (.slice a n k) vs) : n = vs.length ∧ n ≤ k ∧ k ≤ 9223372036854775807 := by
  rcases h.2 with ⟨e, h0⟩ | ⟨g, cap, cur, e, _, _, h1, h2, _⟩
  · injection e with e1 e2 e3
    exact ⟨by rw [e2, h0], by omega, by omega⟩
  · injection e with e1 e2 e3
    subst e3
    unfold maxLen at h2
    exact ⟨e2, by rw [e2]; exact h1, by omega⟩
theorem set_self {l : List (List α)} {i : Nat} (hi : i < l.length) : l.set i (nthX l i) = l := by
  apply List.ext_getElem?
  intro j
  rw [List.getElem?_set]
  by_cases e : i = j
  · subst e
    rw [if_pos rfl, if_pos hi, nthX, List.getElem?_eq_getElem hi]; rfl
  · rw [if_neg e]
theorem rd_at (hE : E.Ok) {w : World} {q : Nat} {t : α} (hq : w.heap[q]? = some (.cells (E.cs t).toArray E.ty (0, 0))) : Rd E w (.slice (some ⟨q, 0, none⟩) 1 1) [t] := by
  refine ⟨_, _, rfl, fun j u e => ⟨q, 0, rfl, ?_⟩⟩
  have e : (E.cs t)[j]? = some u := by simpa [El.flat] using e
  rw [Nat.zero_add]
  exact cell_obj hq (by simpa using e)
/-- one element more at the row's end -/
theorem run_one (hE : E.Ok) {w wx : World} {B q : Nat} {v : Value} {xs : List α} (h : RowF E w B v xs) (t : α) (hb : Below w.heap.size w wx) (hq : wx.heap[q]? = some (.cells (E.cs t).toArray E.ty (0, 0))) (hl : (xs.length + 1) * 64 ≤ 140737488355328) (hB : B ≤ w.heap.size) :
    ∃ a n c w', (Builtin.append_ #[E.sl, E.sl] E.sl #[v, .slice (some ⟨q, 0, none⟩) 1 1]).run Tryz.prog wx = .ok (.slice a n c) w' ∧ n = xs.length + 1 ∧ Hid (RowF E w' B (.slice a n c) (xs ++ [t])) ∧ Hid (w.grownBy w' v.ownBlock) ∧ Hid (∀ k, (Value.slice a n c).ownBlock = some k → v.ownBlock = some k ∨ w.heap.size ≤ k) := by
  obtain ⟨v', w', hr, hrow, hg, hn⟩ := run_append_F hE (h.later hb) (rd_at hE hq) E.sl (by simpa using hl) (Nat.le_trans hB hb.size)
  obtain ⟨a, c, rfl, _, _⟩ := hrow.slice
  refine ⟨a, _, c, w', hr, by simp, hrow, ⟨hg.os.trans hb.os, hg.tape.trans hb.tape, hg.output.trans hb.output, Nat.le_trans hb.size hg.size, fun k hk hne => (hg.block k (Nat.lt_of_lt_of_le hk hb.size) hne).trans (hb.block k hk)⟩, fun k e => (hn k e).imp id (Nat.le_trans hb.size)⟩
/-- A: one element more on a list that is lengthened -/
theorem Bk.grow (hE : E.Ok) {w wx : World} {B b oo d i q : Nat} {c : Nat → Nat} {s : Bv α} {gv : Value} {ys : List α} (h : Bk E M T w B b oo d c s) (hi : i < s.F.length) (hg : RwC E w B c (64 + 4 * i + d) gv ys) (hp : Pf gv (nthV s.F i) ys.length (nthX s.X i).length) (t : α) (hb : Below w.heap.size w wx) (hq : wx.heap[q]? = some (.cells (E.cs t).toArray E.ty (0, 0))) (hl : (ys.length + 1) * 64 ≤ 140737488355328) (hB : B ≤ w.heap.size) :
    ∃ a n k w', (Builtin.append_ #[E.sl, E.sl] E.sl #[gv, .slice (some ⟨q, 0, none⟩) 1 1]).run Tryz.prog wx = .ok (.slice a n k) w' ∧ Hid (Bk E M T w' B b oo d (ext w c (64 + 4 * i + d)) s ∧ RwC E w' B (ext w c (64 + 4 * i + d)) (64 + 4 * i + d) (.slice a n k) (ys ++ [t]) ∧ Pf (.slice a n k) (nthV s.F i) (ys ++ [t]).length (nthX s.X i).length ∧ Onl (fun k => c k = 64 + 4 * i + d) w w' ∧ Below B w w') := by
  obtain ⟨a, n, k, w', hr, _, hrow, hgr, hnw⟩ := run_one hE hg.1 t hb hq hl hB
  obtain ⟨hF, hPf⟩ := append_pre hE (hg.1.later hb) (rd_at hE hq) (by simpa using hl) hr ((h.fr i hi).1.later hb) hp
  have ho : Onl (fun k => c k = 64 + 4 * i + d) w w' := (grown_onl hgr.out).mono fun k e => hg.2 k e
  have hc : ∀ k, k < w.heap.size → ext w c (64 + 4 * i + d) k = c k := fun k hk => ext_old hk
  have hcol : ∀ g, (Value.slice a n k).ownBlock = some g → ext w c (64 + 4 * i + d) g = 64 + 4 * i + d := fun g hgb => by
    rcases hnw.out g hgb with h1 | h1
    · rw [hc g (hg.1.lt g h1).2]; exact hg.2 g h1
    · exact ext_new h1
  have hbk := h.putX ho hc hi (xs := nthX s.X i) ⟨hF, fun g hgb => by rw [hc g ((h.fr i hi).1.lt g hgb).2]; exact (h.fr i hi).2 g hgb⟩
  rw [set_self (by rw [h.lx]; exact hi)] at hbk
  exact ⟨a, n, k, w', hr, hbk, ⟨hrow.out, hcol⟩, by simpa using hPf, ho, (grown_onl hgr.out).below (fun k e => (hg.1.lt k e).1) hB⟩
/-- B: the lengthened list goes into the book -/
theorem Bk.addL (hS : E.Ok2 ss) {w : World} {B b oo d : Nat} {c : Nat → Nat} {s : Bv α} {a0 : Option Addr} {n0 k0 : Nat} (h : Bk E M T w B b oo d c s) (hl : (s.L.length + 1) * 64 ≤ 140737488355328) (hB : B ≤ w.heap.size) :
    ∃ a n k w', (Builtin.append_ #[ss, ss] ss #[s.vl, .slice (some ⟨w.heap.size, 0, none⟩) 1 1]).run Tryz.prog (w.alloc (.cells #[.slice a0 n0 k0] E.sl)) = .ok (.slice a n k) w' ∧ w'.cell? ⟨b, oo + 3, none⟩ = some s.vl ∧ w'.frozen? ⟨b, oo + 3, none⟩ = false ∧
      Hid (Bk E M T (w'.setCell ⟨b, oo + 3, none⟩ (.slice a n k)) B b oo d (ext w c (20 + d)) { s with vl := .slice a n k, L := s.L ++ [.slice a0 n0 k0] } ∧ Onl (fun k => c k = 20 + d ∨ c k = 28) w (w'.setCell ⟨b, oo + 3, none⟩ (.slice a n k)) ∧ Below B w (w'.setCell ⟨b, oo + 3, none⟩ (.slice a n k)) ∧ ∀ o, o < oo ∨ oo + 4 ≤ o → (w'.setCell ⟨b, oo + 3, none⟩ (.slice a n k)).cell? ⟨b, o, none⟩ = w.cell? ⟨b, o, none⟩) := by
  have hd := h.d2
  have hba : Below w.heap.size w (w.alloc (.cells #[.slice a0 n0 k0] E.sl)) := Below.al (Below.refl _ _) _
  obtain ⟨a, n, k, w', hr, hrow, hg, hn⟩ := outer_one hS h.rl (one_slice (rfl : Value.slice a0 n0 k0 = _)) hba (World.alloc_heap_new _ _) hl hB
  have hvb : s.vl.ownBlock ≠ some b := fun e => by have h1 := h.cl b e; have h2 := h.cb; omega
  have hb1 : w'.heap[b]? = w.heap[b]? := hg.block b h.lt (fun e => hvb e.symm)
  have hc1 : ∀ o, w'.cell? ⟨b, o, none⟩ = w.cell? ⟨b, o, none⟩ := fun o => World.cell?_of_block (a := ⟨b, o, none⟩) hb1
  have hO1 := h.obj.keep hb1
  have hc3 : (w'.setCell ⟨b, oo + 3, none⟩ (.slice a n k)).cell? ⟨b, oo + 3, none⟩ = some (.slice a n k) := World.cell?_setCell_same _ _ _ ((hc1 _).trans h.c3)
  have hcx : ∀ o, o ≠ oo + 3 → (w'.setCell ⟨b, oo + 3, none⟩ (.slice a n k)).cell? ⟨b, o, none⟩ = w.cell? ⟨b, o, none⟩ := fun o ho => by rw [World.cell?_setCell_other _ _ _ _ (ne_off (Ne.symm ho))]; exact hc1 o
  have ho : Onl (fun k => c k = 20 + d ∨ c k = 28) w (w'.setCell ⟨b, oo + 3, none⟩ (.slice a n k)) := Onl.set ((grown_onl hg).mono fun k e => .inl (h.cl k e)) (.inr h.cb) _ _
  have hc : ∀ k, k < w.heap.size → ext w c (20 + d) k = c k := fun k hk => ext_old hk
  have e9 : ∀ k, k < w.heap.size → c k = 24 + d → ext w c (20 + d) k = 24 + d := fun k hk e => (hc k hk).trans e
  have hl' : ∀ {v vs}, OwnL E w B v vs → ∀ g, v.ownBlock = some g → g < w.heap.size := fun h g hg => (World.ownsRow.lt h g hg).2
  refine ⟨a, n, k, w', hr, (hc1 _).trans h.c3, hO1.loose _, ⟨hd, hO1.set _ _ _, (hcx _ (by omega)).trans h.c0, (hcx _ (by omega)).trans h.c1, (hcx _ (by omega)).trans h.c2, hc3, h.low, (hc b h.lt).trans h.cb,
    own_col (S := fun q => q = 20 + d ∨ q = 28) h.rf h.cf ho (by omega), fun g hg => (hc g (hl' h.rf g hg)).trans (h.cf g hg),
    own_col (S := fun q => q = 20 + d ∨ q = 28) h.rw_ h.cw ho (by omega), fun g hg => (hc g (hl' h.rw_ g hg)).trans (h.cw g hg),
    own_col (S := fun q => q = 20 + d ∨ q = 28) h.rk h.ck ho (by omega), fun g hg => (hc g (hl' h.rk g hg)).trans (h.ck g hg), ?_, fun g hg => ?_,
    h.lz, h.lx, h.ly, h.lk, by have := h.ll; simp; omega, fun j hj => (h.fr j hj).onl (S := fun q => q = 20 + d ∨ q = 28) ho (by omega) (fun k hk e1 => (hc k hk).trans e1),
    fun j hj => (h.wa j hj).onl (S := fun q => q = 20 + d ∨ q = 28) ho (by omega) e9,
    fun n hn => (h.kp n hn).onl (S := fun q => q = 20 + d ∨ q = 28) ho (by omega) e9, fun m hm => ?_⟩, ho, ((grown_onl hg).below (fun k e => (World.ownsRow.lt h.rl k e).1) hB).setCell h.low _, fun o ho => hcx o (by omega)⟩
  · refine owns_keep hrow fun g hgb => Below.heap_setCell _ _ _ _ (fun e => ?_)
    have e : g = b := e
    rcases hn g hgb with h1 | h1
    · exact hvb (by rw [h1, e])
    · have := h.lt; omega
  · rcases hn g hg with h1 | h1
    · exact (hc g (hl' h.rl g h1)).trans (h.cl g h1)
    · exact ext_new h1
  · show RdC E _ _ (24 + d) (nthV (s.L ++ [.slice a0 n0 k0]) m) _
    have := h.ll
    have hm : m < s.N.length := hm
    rw [nthV_app, if_pos (by omega)]
    exact (h.lo m hm).onl (S := fun q => q = 20 + d ∨ q = 28) ho (by omega) e9
/-- rows of lists joined -/
theorem outer_many (hS : E.Ok2 ss) {w : World} {B B2 : Nat} {v u : Value} {vs us : List Value} (h : OwnL E w B v vs) (k : OwnL E w B2 u us) (hone : ∀ x ∈ us, x.oneCell' = true) (hl : (vs.length + us.length) * 64 ≤ 140737488355328) (hB : B ≤ w.heap.size) :
    ∃ a n c w', (Builtin.append_ #[ss, ss] ss #[v, u]).run Tryz.prog w.drew = .ok (.slice a n c) w' ∧ OwnL E w' B (.slice a n c) (vs ++ us) ∧ w.grownBy w' v.ownBlock ∧ ∀ k, (Value.slice a n c).ownBlock = some k → v.ownBlock = some k ∨ w.heap.size ≤ k := by
  obtain ⟨i0, hi0, hz0, hz1, hz2⟩ := hS.info
  have hx : OwnL E w.drew B v vs := owns_keep h fun _ _ => rfl
  obtain ⟨au, ku, hu⟩ := owns_slice k
  obtain ⟨av, kv, hv⟩ := owns_slice h
  by_cases h0 : us = []
  · subst h0
    subst hu
    subst hv
    have hsrc : Src Tryz.prog i0.size ss (.slice au 0 ku) 0 [] w.drew := by
      rw [hz1]
      cases au with
      | none => exact Src.ofNil _ hS.und ku
      | some ad => exact Src.ofSlice _ hS.und ad 0 ku [] rfl (fun j u hj => by simp at hj) (fun u hu => by cases hu)
    have hcap := OwnL.cap h
    exact ⟨_, _, _, _, run_append_nothing (P := Tryz.prog) w.drew _ _ _ _ i0 hS.und hi0 av vs.length kv hcap.2.1 _ hsrc, by rw [List.append_nil]; exact hx, ⟨rfl, rfl, rfl, Nat.le_refl _, fun _ _ _ => rfl⟩, fun k e => .inl e⟩
  · have hpos : 0 < us.length := List.length_pos_iff.2 h0
    subst hu
    obtain ⟨g, rfl, _⟩ := OwnL.at k hpos
    obtain ⟨v', w', hr, hrow, hg, _, hn⟩ := run_append_keep (P := Tryz.prog) w.drew B ss ss E.sl i0 (.slice none 0 0) 1 24 hS.und hi0 hz0 hz1 hz2 rfl (by decide) v vs.length vs hx ⟨g, 0, none⟩ us.length ku us (by omega) (fun j x hj => by
        rw [Addr.add_lit, Nat.zero_add]
        have hjl := (List.getElem?_eq_some_iff.1 hj).1
        obtain ⟨g2, e, hc⟩ := OwnL.at k hjl
        have e1 : g = g2 := congrArg Addr.block (Option.some.inj e)
        rw [← e1, nthV, hj] at hc
        exact hc) hone (by unfold maxLen; omega) (by omega) hB hpos
    obtain ⟨a, c, rfl⟩ := owns_slice hrow
    refine ⟨a, _, c, w', hr, ?_, ⟨hg.os, hg.tape, hg.output, hg.size, hg.block⟩, fun k e => ?_⟩
    · show World.ownsRow _ _ _ _ _ (vs ++ us).length (vs ++ us)
      rw [List.length_append]; exact hrow
    · rcases hn with h1 | ⟨j, h1, h2⟩
      · exact .inl (h1.symm.trans e)
      · rw [h1] at e
        injection e with e
        exact .inr (by have h2 : w.heap.size ≤ j := h2; omega)
theorem nthV_two {l m : List Value} {i : Nat} : nthV (l ++ m) i = if i < l.length then nthV l i else nthV m (i - l.length) := by
  unfold nthV
  by_cases h : i < l.length
  · rw [if_pos h, List.getElem?_append_left h]
  · rw [if_neg h, List.getElem?_append_right (by omega)]
theorem nthM_two {l m : List Nat} {i : Nat} : nthM (l ++ m) i = if i < l.length then nthM l i else nthM m (i - l.length) := by
  unfold nthM
  by_cases h : i < l.length
  · rw [if_pos h, List.getElem?_append_left h]
  · rw [if_neg h, List.getElem?_append_right (by omega)]
/-- the book when all lists are kept -/
def Bv.end_ (s : Bv α) (vk : Value) (ls : List Nat) : Bv α := ⟨.slice none 0 0, .slice none 0 0, vk, s.vl, [], [], s.K ++ s.F, s.L, [], [], s.N ++ ls⟩
/-- the three stores at the end -/
abbrev endW (w' : World) (b oo : Nat) (v : Value) : World := ((w'.setCell ⟨b, oo + 2, none⟩ v).setCell ⟨b, oo, none⟩ (.slice none 0 0)).setCell ⟨b, oo + 1, none⟩ (.slice none 0 0)
theorem Bk.done (hS : E.Ok2 ss) {w : World} {B b oo d : Nat} {c : Nat → Nat} {s : Bv α} {ls : List Nat} (h : Bk E M T w B b oo d c s) (hls : ls.length = s.F.length) (hLN : s.L.length = s.N.length + s.F.length) (hX : ∀ j, j < s.F.length → nthX s.X j = marks M (s.N.length + j) (nthM ls j)) (hG : ∀ j, j < s.F.length → RdC E w c (64 + 4 * j + d) (nthV s.L (s.N.length + j)) (marks M (s.N.length + j) (nthM ls j + 70))) (hl : (s.K.length + s.F.length) * 64 ≤ 140737488355328) (hB : B ≤ w.heap.size) :
    ∃ a n k w', (Builtin.append_ #[ss, ss] ss #[s.vk, s.vf]).run Tryz.prog w.drew = .ok (.slice a n k) w' ∧ w'.cell? ⟨b, oo, none⟩ = some s.vf ∧ w'.cell? ⟨b, oo + 1, none⟩ = some s.vw ∧ w'.cell? ⟨b, oo + 2, none⟩ = some s.vk ∧ (∀ o, w'.frozen? ⟨b, o, none⟩ = false) ∧
      Hid (∃ c', Bk E M T (endW w' b oo (.slice a n k)) B b oo d c' (s.end_ (.slice a n k) ls) ∧ Onl (fun k => c k = 16 + d ∨ c k = 28) w (endW w' b oo (.slice a n k)) ∧ (∀ k, k < w.heap.size → ¬ (64 ≤ c k ∧ c k % 4 = d) → c' k = c k) ∧ Below B w (endW w' b oo (.slice a n k)) ∧ ∀ o, o < oo ∨ oo + 4 ≤ o → (endW w' b oo (.slice a n k)).cell? ⟨b, o, none⟩ = w.cell? ⟨b, o, none⟩) := by
  have hd := h.d2
  obtain ⟨a, n, k, w', hr, hrow, hg, hn⟩ := outer_many hS h.rk h.rf (fun x hx => by
    obtain ⟨i, hi, rfl⟩ := List.getElem_of_mem hx
    have h1 := (h.fr i hi).1.slice
    obtain ⟨a, k, e, _⟩ := h1
    rw [nthV, List.getElem?_eq_getElem hi] at e
    exact one_slice e) hl hB
  have hvb : s.vk.ownBlock ≠ some b := fun e => by have h1 := h.ck b e; have h2 := h.cb; omega
  have hb1 : w'.heap[b]? = w.heap[b]? := hg.block b h.lt (fun e => hvb e.symm)
  have hc1 : ∀ o, w'.cell? ⟨b, o, none⟩ = w.cell? ⟨b, o, none⟩ := fun o => World.cell?_of_block (a := ⟨b, o, none⟩) hb1
  have hO1 := h.obj.keep hb1
  obtain ⟨w4, hw4⟩ : ∃ w4, w4 = endW w' b oo (.slice a n k) := ⟨_, rfl⟩
  have hO4 : Obj4 T w4 b := by rw [hw4]; exact ((hO1.set _ _ _).set _ _ _).set _ _ _
  have q1 : w4.cell? ⟨b, oo + 1, none⟩ = some (.slice none 0 0) := by
    rw [hw4]
    exact World.cell?_setCell_same _ _ _ (cell_setc (ne_off (by omega)) (cell_setc (ne_off (by omega)) ((hc1 _).trans h.c1)))
  have q0 : w4.cell? ⟨b, oo, none⟩ = some (.slice none 0 0) := by
    rw [hw4]
    exact cell_setc (ne_off (by omega)) (World.cell?_setCell_same _ _ _ (cell_setc (ne_off (by omega)) ((hc1 _).trans h.c0)))
  have q2 : w4.cell? ⟨b, oo + 2, none⟩ = some (.slice a n k) := by
    rw [hw4]
    exact cell_setc (ne_off (by omega)) (cell_setc (ne_off (by omega)) (World.cell?_setCell_same _ _ _ ((hc1 _).trans h.c2)))
  have qx : ∀ o, o ≠ oo → o ≠ oo + 1 → o ≠ oo + 2 → w4.cell? ⟨b, o, none⟩ = w.cell? ⟨b, o, none⟩ := fun o h0 h1 h2 => by
    rw [hw4, World.cell?_setCell_other _ _ _ _ (ne_off (Ne.symm h1)), World.cell?_setCell_other _ _ _ _ (ne_off (Ne.symm h0)), World.cell?_setCell_other _ _ _ _ (ne_off (Ne.symm h2))]; exact hc1 o
  have hk4 : ∀ j, j ≠ b → w4.heap[j]? = w'.heap[j]? := fun j hj => by
    rw [hw4, Below.heap_setCell _ _ _ _ hj, Below.heap_setCell _ _ _ _ hj, Below.heap_setCell _ _ _ _ hj]
  have ho : Onl (fun j => c j = 16 + d ∨ c j = 28) w w4 := by
    rw [hw4]
    exact Onl.set (Onl.set (Onl.set ((grown_onl hg).mono fun j e => .inl (h.ck j e)) (.inr h.cb) _ _) (.inr h.cb) _ _) (.inr h.cb) _ _
  obtain ⟨cc, hcc⟩ : ∃ cc : Nat → Nat, cc = fun j => if j < w.heap.size then (if 64 ≤ c j ∧ c j % 4 = d then 24 + d else c j) else 16 + d := ⟨_, rfl⟩
  have cold : ∀ j, j < w.heap.size → ¬ (64 ≤ c j ∧ c j % 4 = d) → cc j = c j := fun j hj hlt => by
    rw [hcc]; simp only; rw [if_pos hj, if_neg hlt]
  have c20 : ∀ j, j < w.heap.size → ∀ q, 64 ≤ q ∧ q % 4 = d → c j = q → cc j = 24 + d := fun j hj q hq e => by
    rw [hcc]; simp only; rw [if_pos hj, if_pos (by rw [e]; exact hq)]
  have e9 : ∀ j, j < w.heap.size → c j = 24 + d → cc j = 24 + d := fun j hj e => by rw [cold j hj (by omega)]; exact e
  have hl' : ∀ {v vs}, OwnL E w B v vs → ∀ g, v.ownBlock = some g → g < w.heap.size := fun h g hg => (World.ownsRow.lt h g hg).2
  refine ⟨a, n, k, w', hr, (hc1 _).trans h.c0, (hc1 _).trans h.c1, (hc1 _).trans h.c2, fun o => hO1.loose o, cc, ?_⟩
  rw [← hw4]
  refine ⟨⟨hd, hO4, q0, q1, q2, (qx _ (by omega) (by omega) (by omega)).trans h.c3, h.low, by rw [cold b h.lt (by rw [h.cb]; omega)]; exact h.cb, World.ownsRow_nil _ _ _ _, (fun g e => by cases e), World.ownsRow_nil _ _ _ _, (fun g e => by cases e), ?_, fun g hgb => ?_,
    own_col (S := fun q => q = 16 + d ∨ q = 28) h.rl h.cl ho (by omega), fun g hgb => by rw [cold g (hl' h.rl g hgb) (by rw [h.cl g hgb]; omega)]; exact h.cl g hgb,
    rfl, rfl, rfl, by simp [Bv.end_, h.lk, hls], by simp [Bv.end_, hls, hLN], (fun i hi => by simp [Bv.end_] at hi), (fun i hi => by simp [Bv.end_] at hi), fun m hm => ?_, fun m hm => ?_⟩, ho, cold, by
    rw [hw4]
    exact ((((grown_onl hg).below (fun k e => (World.ownsRow.lt h.rk k e).1) hB).setCell h.low _).setCell h.low _).setCell h.low _, fun o ho => qx o (by omega) (by omega) (by omega)⟩
  · refine owns_keep hrow fun g hgb => hk4 g (fun e => ?_)
    rcases hn g hgb with h1 | h1
    · exact hvb (by rw [h1, e])
    · have := h.lt; omega
  · rcases hn g hgb with h1 | h1
    · rw [cold g (hl' h.rk g h1) (by rw [h.ck g h1]; omega)]; exact h.ck g h1
    · rw [hcc]; simp only; rw [if_neg (by omega)]
  · show RdC E w4 cc (24 + d) (nthV (s.K ++ s.F) m) (marks M m (nthM (s.N ++ ls) m))
    have hm : m < s.N.length + s.F.length := by simpa [Bv.end_, hls] using hm
    rw [nthV_two, nthM_two, h.lk]
    by_cases hlt : m < s.N.length
    · rw [if_pos hlt, if_pos hlt]
      exact (h.kp m hlt).onl (S := fun q => q = 16 + d ∨ q = 28) ho (by omega) e9
    · rw [if_neg hlt, if_neg hlt]
      have h1 := (h.fr (m - s.N.length) (by omega)).rdc
      rw [hX _ (by omega), show s.N.length + (m - s.N.length) = m by omega] at h1
      exact h1.onl (S := fun q => q = 16 + d ∨ q = 28) ho (by omega) (fun j hj e => c20 j hj _ (by omega) e)
  · show RdC E w4 cc (24 + d) (nthV s.L m) (marks M m (nthM (s.N ++ ls) m + 70))
    have hm : m < s.N.length + s.F.length := by simpa [Bv.end_, hls] using hm
    rw [nthM_two]
    by_cases hlt : m < s.N.length
    · rw [if_pos hlt]
      exact (h.lo m hlt).onl (S := fun q => q = 16 + d ∨ q = 28) ho (by omega) e9
    · rw [if_neg hlt]
      have h1 := hG (m - s.N.length) (by omega)
      rw [show s.N.length + (m - s.N.length) = m by omega] at h1
      exact h1.onl (S := fun q => q = 16 + d ∨ q = 28) ho (by omega) (fun j hj e => c20 j hj _ (by omega) e)
end
end Go.Proofs.YthenfioddnkjbaaGreatDoor.Bg
/- The stages of settle. -/
namespace Go.Proofs.YthenfioddnkjbaaGreatDoor.Bg
open Go.RowKit Go.Sort Go.Proofs.YthenfioddnkjbaaGreatDoor
set_option linter.unusedVariables false
section
variable {α : Type} {E : El α} {M : Nat → Nat → α} {T ss : TypeId}

/-- what the untouched lists hold while they are written full -/
def cont (M : Nat → Nat → α) (s : Bv α) (fr i k j : Nat) : List α := if j < i then marks M (fr + j) (nthX s.X j).length else if j = i then (marks M (fr + i) (nthX s.X i).length).take k ++ (nthX s.X i).drop k else nthX s.X j
theorem cont_zero (s : Bv α) (fr j : Nat) : cont M s fr 0 0 j = nthX s.X j := by
  unfold cont
  rw [if_neg (by omega)]
  by_cases e : j = 0
  · rw [if_pos e, e]; simp
  · rw [if_neg e]
theorem cont_next (s : Bv α) (fr i j : Nat) : cont M s fr i (nthX s.X i).length j = cont M s fr (i + 1) 0 j := by
  unfold cont
  by_cases h : j < i
  · rw [if_pos h, if_pos (by omega)]
  · rw [if_neg h]
    by_cases e : j = i
    · subst e
      rw [if_pos rfl, if_pos (by omega), List.drop_of_length_le (Nat.le_refl _), List.append_nil, List.take_of_length_le (by rw [marks_len]; exact Nat.le_refl _)]
    · rw [if_neg e, if_neg (by omega)]
      by_cases e2 : j = i + 1
      · rw [if_pos e2, e2]; simp
      · rw [if_neg e2]
theorem cont_len {s : Bv α} {fr i k j : Nat} (hk : k ≤ (nthX s.X i).length) : (cont M s fr i k j).length = (nthX s.X j).length := by
  unfold cont
  by_cases h : j < i
  · rw [if_pos h, marks_len]
  · rw [if_neg h]
    by_cases e : j = i
    · subst e
      rw [if_pos rfl, List.length_append, List.length_take, marks_len, List.length_drop]; omega
    · rw [if_neg e]
theorem cont_set {s : Bv α} {fr i k : Nat} (hk : k < (nthX s.X i).length) : (cont M s fr i k i).set k (M (fr + i) k) = cont M s fr i (k + 1) i := by
  unfold cont
  rw [if_neg (by omega), if_pos rfl, if_neg (by omega), if_pos rfl]
  have hm : (marks M (fr + i) (nthX s.X i).length).length = (nthX s.X i).length := marks_len _ _
  have ht : ((marks M (fr + i) (nthX s.X i).length).take k).length = k := by rw [List.length_take]; omega
  rw [List.set_append_right _ _ (by omega), ht, Nat.sub_self]
  have hd : (nthX s.X i).drop k = (nthX s.X i)[k] :: (nthX s.X i).drop (k + 1) := List.drop_eq_getElem_cons hk
  have hs : (marks M (fr + i) (nthX s.X i).length).take (k + 1) = (marks M (fr + i) (nthX s.X i).length).take k ++ [M (fr + i) k] := by
    rw [List.take_add_one, marks_get hk]; rfl
  rw [hd, List.set_cons_zero, hs, List.append_assoc]
  rfl
theorem cont_other {s : Bv α} {fr i k k' j : Nat} (h : j ≠ i) : cont M s fr i k j = cont M s fr i k' j := by
  unfold cont
  rw [if_neg h, if_neg h]
/-- the object's cells outside of the book -/
def Oc (w w' : World) (b oo : Nat) : Prop := ∀ o, o < oo ∨ oo + 4 ≤ o → w'.cell? ⟨b, o, none⟩ = w.cell? ⟨b, o, none⟩
theorem Oc.refl (w : World) (b oo : Nat) : Oc w w b oo := fun _ _ => rfl
theorem Oc.trans {w w1 w2 : World} {b oo : Nat} (h : Oc w w1 b oo) (k : Oc w1 w2 b oo) : Oc w w2 b oo := fun o ho => (k o ho).trans (h o ho)
theorem Oc.block {w w' : World} {b oo : Nat} (h : w'.heap[b]? = w.heap[b]?) : Oc w w' b oo := fun o _ => World.cell?_of_block (a := ⟨b, o, none⟩) h
def S2 (E : El α) (M : Nat → Nat → α) (T : TypeId) (w wr : World) (B b oo d : Nat) (c : Nat → Nat) (s : Bv α) (fr i k : Nat) : Prop := ∃ X', Bk E M T wr B b oo d c { s with X := X' } ∧ (∀ j, j < s.F.length → nthX X' j = cont M s fr i k j) ∧ Onl (fun k => 64 ≤ c k ∧ c k % 4 = d) w wr ∧ Below B w wr
variable {w wr : World} {B b oo d : Nat} {c : Nat → Nat} {s : Bv α} {fr i k : Nat}
theorem S2.start (h : Bk E M T w B b oo d c s) {wr : World} (hb : Below w.heap.size w wr) (hB : B ≤ w.heap.size) : S2 E M T w wr B b oo d c s fr 0 0 := ⟨s.X, h.after hb, fun j hj => (cont_zero s fr j).symm, Onl.of_below hb, hb.mono hB⟩
theorem S2.next (h : S2 E M T w wr B b oo d c s fr i (nthX s.X i).length) : S2 E M T w wr B b oo d c s fr (i + 1) 0 := by
  obtain ⟨X', h1, h2, h3, h4⟩ := h
  exact ⟨X', h1, fun j hj => by rw [h2 j hj, cont_next], h3, h4⟩
theorem S2.row (h : S2 E M T w wr B b oo d c s fr i k) {j : Nat} (hj : j < s.F.length) : RowF E wr B (nthV s.F j) (cont M s fr i k j) := by
  obtain ⟨X', h1, h2, h3, h4⟩ := h
  have := (h1.fr j hj).1
  rw [h2 j hj] at this
  exact this
theorem onl_sets {F : Nat → Prop} {g : Nat} (hg : F g) : ∀ (vs : List Value) (o : Nat) (w : World), Onl F w (w.setCells g o vs)
  | [], _, w => Onl.refl _ _
  | v :: r, o, w => (Onl.set (F := F) (Onl.refl _ w) (p := g) hg o v).trans (onl_sets hg r (o + 1) _)
theorem S2.put (hE : E.Ok) (h : S2 E M T w wr B b oo d c s fr i k) (hi : i < s.F.length) (hk : k < (nthX s.X i).length) {wz : World} (hb : Below wr.heap.size wr wz) {g off n kk : Nat} (hv : nthV s.F i = .slice (some ⟨g, off, none⟩) n kk) (hBw : B ≤ wr.heap.size) :
    S2 E M T w (wz.setCells g (off + k * E.k) (E.cs (M (fr + i) k))) B b oo d c s fr i (k + 1) := by
  obtain ⟨X', h1, h2, h3, hBB⟩ := h
  have hd := h1.d2
  have h1z := h1.after hb
  have hrow := h1z.fr i hi
  have hlen : k < (nthX X' i).length := by rw [h2 i hi, cont_len (by omega)]; exact hk
  have hgo : c g = 64 + 4 * i + d := hrow.2 g (by show (nthV s.F i).ownBlock = _; rw [hv]; rfl)
  have ho : Onl (fun x => c x = 64 + 4 * i + d) wz (wz.setCells g (off + k * E.k) (E.cs (M (fr + i) k))) := onl_sets (F := fun x => c x = 64 + 4 * i + d) hgo _ _ _
  have hput : RwC E (wz.setCells g (off + k * E.k) (E.cs (M (fr + i) k))) B c (64 + 4 * i + d) (nthV s.F i) ((nthX X' i).set k (M (fr + i) k)) := by
    refine ⟨?_, hrow.2⟩
    have h4 : RowF E wz B (nthV s.F i) (nthX X' i) := hrow.1
    rw [hv] at h4 ⊢
    exact h4.put hE hlen _
  have hbk := h1z.putX (c' := c) ho (fun _ _ => rfl) hi hput
  have hgl := (hrow.1.lt g (by show (nthV s.F i).ownBlock = _; rw [hv]; rfl)).1
  refine ⟨X'.set i ((nthX X' i).set k (M (fr + i) k)), hbk, fun j hj => ?_, (h3.on hb).trans (ho.mono fun x hx => by omega), hBB.trans ((hb.mono hBw).trans ((onl_sets (F := fun x => x = g) rfl _ _ _).below (fun x hx => by rw [hx]; exact hgl) (Nat.le_trans hBw hb.size)))⟩
  have hl : X'.length = s.F.length := h1.lx
  unfold nthX
  rw [List.getElem?_set]
  by_cases e : i = j
  · subst e
    rw [if_pos rfl, if_pos (by omega)]
    show (nthX X' i).set k _ = _
    rw [h2 i hi, cont_set hk]
  · rw [if_neg e]
    show nthX X' j = _
    rw [h2 j hj, cont_other (fun e2 => e e2.symm)]
/-- the third stage: what is fixed -/
structure Eqv (s s' : Bv α) : Prop where
  vf : s'.vf = s.vf
  vw : s'.vw = s.vw
  vk : s'.vk = s.vk
  F : s'.F = s.F
  K : s'.K = s.K
  N : s'.N = s.N
/-- the colours that the book d may write -/
abbrev Mn (d q : Nat) : Prop := q = 28 ∨ (8 ≤ q ∧ q < 28 ∨ 64 ≤ q) ∧ q % 4 = d
structure S3 (E : El α) (M : Nat → Nat → α) (T : TypeId) (w wr : World) (B b oo d : Nat) (c c' : Nat → Nat) (s s' : Bv α) (i : Nat) : Prop where
  bk : Bk E M T wr B b oo d c' s'
  eq : Eqv s s'
  X : ∀ j, j < s.F.length → nthX s'.X j = marks M (s.N.length + j) (nthX s.X j).length
  L : s'.L.length = s.N.length + i
  G : ∀ j, j < i → RdC E wr c' (64 + 4 * j + d) (nthV s'.L (s.N.length + j)) (marks M (s.N.length + j) ((nthX s.X j).length + 70))
  col : ∀ k, k < w.heap.size → c' k = c k
  onl : Onl (fun k => Mn d (c k)) w wr
  bl : Below B w wr
  oc : Oc w wr b oo
variable {c' : Nat → Nat} {s' : Bv α} {gv : Value} {a0 : Option Addr} {n0 k0 : Nat}
theorem S3.start (h0 : Bk E M T w B b oo d c s) (h : S2 E M T w wr B b oo d c s s.N.length s.F.length 0) (hL : s.L.length = s.N.length) : ∃ s', S3 E M T w wr B b oo d c c s s' 0 ∧ s'.vl = s.vl := by
  obtain ⟨X', h1, h2, h3, h4⟩ := h
  have hd := h0.d2
  refine ⟨_, ⟨h1, ⟨rfl, rfl, rfl, rfl, rfl, rfl⟩, fun j hj => ?_, hL, fun j hj => by omega, fun _ _ => rfl, h3.mono fun x hx => .inr ⟨.inr hx.1, hx.2⟩, h4, Oc.block (h3.block b h0.lt (by rw [h0.cb]; omega))⟩, rfl⟩
  show nthX X' j = _
  rw [h2 j hj, cont, if_pos hj]
theorem S3.after (h : S3 E M T w wr B b oo d c c' s s' i) {wz : World} (hb : Below wr.heap.size wr wz) (hB : B ≤ w.heap.size) : S3 E M T w wz B b oo d c c' s s' i :=
  ⟨h.bk.after hb, h.eq, h.X, h.L, fun j hj => (h.G j hj).onl (S := fun _ => False) (Onl.of_below hb) (fun h => h) (fun _ _ e => e), h.col, h.onl.on hb, h.bl.trans (hb.mono (Nat.le_trans hB h.onl.size)), h.oc.trans (Oc.block (hb.block b h.bk.lt))⟩
/-- a list on its way to be lengthened -/
structure S4 (E : El α) (M : Nat → Nat → α) (T : TypeId) (w wr : World) (B b oo d : Nat) (c c' : Nat → Nat) (s s' : Bv α) (i k : Nat) (gv : Value) : Prop where
  st : S3 E M T w wr B b oo d c c' s s' i
  row : RwC E wr B c' (64 + 4 * i + d) gv (marks M (s.N.length + i) ((nthX s.X i).length + k))
  pre : Pf gv (nthV s.F i) ((nthX s.X i).length + k) (nthX s.X i).length
theorem S4.start (h : S3 E M T w wr B b oo d c c' s s' i) (hi : i < s.F.length) : S4 E M T w wr B b oo d c c' s s' i 0 (nthV s.F i) := by
  have h1 := h.bk.fr i (by rw [h.eq.F]; exact hi)
  rw [h.eq.F, h.X i hi] at h1
  obtain ⟨a, k, e, _⟩ := h1.1.slice
  exact ⟨h, h1, Pf.start e _⟩
theorem marks_snoc (n m : Nat) : marks M n m ++ [M n m] = marks M n (m + 1) := by
  simp [marks, List.range_succ]
theorem S4.grow (hE : E.Ok) (h : S4 E M T w wr B b oo d c c' s s' i k gv) (hi : i < s.F.length) {wx : World} {q : Nat} (hb : Below wr.heap.size wr wx) (hq : wx.heap[q]? = some (.cells (E.cs (M (s.N.length + i) ((nthX s.X i).length + k))).toArray E.ty (0, 0))) (hl : ((nthX s.X i).length + k + 1) * 64 ≤ 140737488355328) (hB : B ≤ w.heap.size) :
    ∃ a n kk w', (Builtin.append_ #[E.sl, E.sl] E.sl #[gv, .slice (some ⟨q, 0, none⟩) 1 1]).run Tryz.prog wx = .ok (.slice a n kk) w' ∧ Hid (∃ c2, S4 E M T w w' B b oo d c c2 s s' i (k + 1) (.slice a n kk)) := by
  have hd := h.st.bk.d2
  have hF := h.st.eq.F
  have hi' : i < s'.F.length := by rw [hF]; exact hi
  have hxi := h.st.X i hi
  obtain ⟨a, n, kk, w', hr, hbk, hrow, hpf, ho, hbl⟩ := h.st.bk.grow hE hi' h.row (by rw [hF, hxi, marks_len, marks_len]; exact h.pre) _ hb hq (by rw [marks_len]; exact hl) (Nat.le_trans hB h.st.onl.size)
  rw [marks_snoc] at hrow hpf
  rw [hF, hxi, marks_len, marks_len] at hpf
  refine ⟨a, n, kk, w', hr, _, ⟨hbk, h.st.eq, h.st.X, h.st.L, fun j hj => (h.st.G j hj).onl (S := fun x => x = 64 + 4 * i + d) ho (by omega) (fun x hx e => by rw [ext_old hx]; exact e), fun x hx => (ext_old (Nat.lt_of_lt_of_le hx h.st.onl.size)).trans (h.st.col x hx), h.st.onl.fresh ho (fun x hx => ?_), h.st.bl.trans hbl, h.st.oc.trans (Oc.block (ho.block b h.st.bk.lt (by rw [h.st.bk.cb]; omega)))⟩, hrow, hpf⟩
  by_cases hlt : x < w.heap.size
  · exact .inl (by have := h.st.col x hlt; show Mn d (c x); unfold Mn; omega)
  · exact .inr (by omega)
theorem S4.done (hS : E.Ok2 ss) (h : S4 E M T w wr B b oo d c c' s s' i 70 (.slice a0 n0 k0)) (hi : i < s.F.length) (hl : (s.N.length + i + 1) * 64 ≤ 140737488355328) (hB : B ≤ w.heap.size) :
    ∃ a n kk w', (Builtin.append_ #[ss, ss] ss #[s'.vl, .slice (some ⟨wr.heap.size, 0, none⟩) 1 1]).run Tryz.prog (wr.alloc (.cells #[.slice a0 n0 k0] E.sl)) = .ok (.slice a n kk) w' ∧ w'.cell? ⟨b, oo + 3, none⟩ = some s'.vl ∧ w'.frozen? ⟨b, oo + 3, none⟩ = false ∧ Hid (∃ c2 s2, S3 E M T w (w'.setCell ⟨b, oo + 3, none⟩ (.slice a n kk)) B b oo d c c2 s s2 (i + 1)) := by
  have hd := h.st.bk.d2
  obtain ⟨a, n, kk, w', hr, y1, y2, hbk, ho, hbl, hoc⟩ := h.st.bk.addL hS (a0 := a0) (n0 := n0) (k0 := k0) (by rw [h.st.L]; exact hl) (Nat.le_trans hB h.st.onl.size)
  refine ⟨a, n, kk, w', hr, y1, y2, _, _, ⟨hbk, ⟨h.st.eq.vf, h.st.eq.vw, h.st.eq.vk, h.st.eq.F, h.st.eq.K, h.st.eq.N⟩, h.st.X, by simp [h.st.L]; omega, fun j hj => ?_, fun x hx => (ext_old (Nat.lt_of_lt_of_le hx h.st.onl.size)).trans (h.st.col x hx), h.st.onl.fresh ho (fun x hx => ?_), h.st.bl.trans hbl, h.st.oc.trans hoc⟩⟩
  · show RdC E _ _ _ (nthV (s'.L ++ [.slice a0 n0 k0]) (s.N.length + j)) _
    rw [nthV_app, h.st.L]
    by_cases hlt : j < i
    · rw [if_pos (by omega)]
      exact (h.st.G j hlt).onl (S := fun x => x = 20 + d ∨ x = 28) ho (by omega) (fun x hx e => by rw [ext_old hx]; exact e)
    · have e : j = i := by omega
      subst e
      rw [if_neg (by omega), if_pos rfl]
      exact h.row.rdc.onl (S := fun x => x = 20 + d ∨ x = 28) ho (by omega) (fun x hx e => by rw [ext_old hx]; exact e)
  · by_cases hlt : x < w.heap.size
    · exact .inl (by have := h.st.col x hlt; show Mn d (c x); unfold Mn; omega)
    · exact .inr (by omega)
end
end Go.Proofs.YthenfioddnkjbaaGreatDoor.Bg
/- What settle and whole read, and what settle leaves. -/
namespace Go.Proofs.YthenfioddnkjbaaGreatDoor.Bg
open Go.RowKit Go.Sort Go.Proofs.YthenfioddnkjbaaGreatDoor
set_option linter.unusedVariables false
section
variable {α : Type} {E : El α} {M : Nat → Nat → α} {T ss : TypeId}
/-- what settle leaves -/
structure Sd (E : El α) (M : Nat → Nat → α) (T : TypeId) (W w w' : World) (b oo d : Nat) (c c' : Nat → Nat) (s s' : Bv α) : Prop where
  bk : Bk E M T w' W.heap.size b oo d c' s'
  F : s'.F = []
  L : s'.L.length = s'.N.length
  N : s'.N.length = s.N.length + s.F.length
  onl : Onl (fun k => Mn d (c k)) w w'
  col : ∀ k, k < w.heap.size → ¬ (64 ≤ c k ∧ c k % 4 = d) → c' k = c k
  bl : Below W.heap.size w w'
  oc : Oc w w' b oo
  M : (∀ n, n < s.N.length → nthM s.N n ≤ 1073741824) → ∀ n, n < s'.N.length → nthM s'.N n ≤ 1073741824
theorem Bk.freshAt {w : World} {B b oo d n k : Nat} {c : Nat → Nat} {s : Bv α} {a : Option Addr} (h : Bk E M T w B b oo d c s) (hv : s.vf = .slice a n k) {i : Nat} (hi : i < s.F.length) : ∃ g a1 k1, a = some ⟨g, 0, none⟩ ∧ w.cell? ⟨g, i, none⟩ = some (.slice a1 (nthX s.X i).length k1) ∧ nthV s.F i = .slice a1 (nthX s.X i).length k1 := by
  have h1 := h.rf
  rw [hv] at h1
  obtain ⟨g, e, hc⟩ := OwnL.at h1 hi
  obtain ⟨a1, k1, e1, _⟩ := (h.fr i hi).1.slice
  exact ⟨g, a1, k1, e, by rw [hc, e1], e1⟩
theorem Bk.wasAt {w : World} {B b oo d n k : Nat} {c : Nat → Nat} {s : Bv α} {a : Option Addr} (h : Bk E M T w B b oo d c s) (hv : s.vw = .slice a n k) {i : Nat} (hi : i < s.F.length) : ∃ g a1 k1, a = some ⟨g, 0, none⟩ ∧ w.cell? ⟨g, i, none⟩ = some (.slice a1 (nthX s.Y i).length k1) ∧ nthV s.Z i = .slice a1 (nthX s.Y i).length k1 := by
  have h1 := h.rw_
  rw [hv] at h1
  obtain ⟨g, e, hc⟩ := OwnL.at h1 (by rw [h.lz]; exact hi)
  obtain ⟨a1, k1, e1, _⟩ := h.wa i hi
  exact ⟨g, a1, k1, e, by rw [hc, e1], e1⟩
/-- one element of a row that can be read -/
theorem Rd.el (hE : E.Ok) {w : World} {a : Option Addr} {n c : Nat} {xs : List α} (h : Rd E w (.slice a n c) xs) {i : Nat} {x : α} (hx : xs[i]? = some x) : ∃ b off, a = some ⟨b, off, none⟩ ∧ ∀ o u, (E.cs x)[o]? = some u → w.cell? ⟨b, off + (i * E.k + o), none⟩ = some u := by
  obtain ⟨a', c', e, h⟩ := h
  injection e with e1 _ _
  subst e1
  have hp := hE.pos
  have h0 := hE.flat_get xs i 0 x hx hp
  have hl : 0 < (E.cs x).length := by rw [hE.len]; exact hp
  rw [List.getElem?_eq_getElem hl] at h0
  obtain ⟨b, off, ea, _⟩ := h _ _ h0
  refine ⟨b, off, ea, fun o u hu => ?_⟩
  have ho : o < E.k := by rw [← hE.len x]; exact (List.getElem?_eq_some_iff.1 hu).1
  obtain ⟨b2, off2, ea2, hc⟩ := h _ u ((hE.flat_get xs i o x hx ho).trans hu)
  rw [ea] at ea2
  have e2 := Option.some.inj ea2
  have e3 : b = b2 := congrArg Addr.block e2
  have e4 : off = off2 := congrArg Addr.off e2
  rw [e3, e4]
  exact hc
end
end Go.Proofs.YthenfioddnkjbaaGreatDoor.Bg
/- What whole reads and leaves. -/
namespace Go.Proofs.YthenfioddnkjbaaGreatDoor.Bg
open Go.RowKit Go.Sort Go.Proofs.YthenfioddnkjbaaGreatDoor
set_option linter.unusedVariables false
section
variable {α : Type} {E : El α} {M : Nat → Nat → α} {T ss : TypeId}
/-- the book, sound, and its bounds -/
structure Bq (E : El α) (M : Nat → Nat → α) (T : TypeId) (W w : World) (b oo d : Nat) (c : Nat → Nat) (s : Bv α) (m : Nat) : Prop where
  bk : Bk E M T w W.heap.size b oo d c s
  L : s.L.length = s.N.length
  XY : ∀ i, i < s.F.length → nthX s.Y i = nthX s.X i
  x : ∀ i, i < s.F.length → (nthX s.X i).length ≤ 1073741824
  M : ∀ n, n < s.N.length → nthM s.N n ≤ 1073741824
  le : s.N.length + s.F.length ≤ m
/-- what whole leaves -/
structure Wd (E : El α) (M : Nat → Nat → α) (T : TypeId) (W w w' : World) (b oo d : Nat) (c c' : Nat → Nat) (s s' : Bv α) (m : Nat) : Prop where
  bq : Bq E M T W w' b oo d c' s' m
  onl : Onl (fun k => Mn d (c k)) w w'
  col : ∀ k, k < w.heap.size → ¬ (64 ≤ c k ∧ c k % 4 = d) → c' k = c k
  bl : Below W.heap.size w w'
  oc : Oc w w' b oo
theorem Bq.after {W w w2 : World} {b oo d m : Nat} {c : Nat → Nat} {s : Bv α} (h : Bq E M T W w b oo d c s m) (hb : Below w.heap.size w w2) : Bq E M T W w2 b oo d c s m := ⟨h.bk.after hb, h.L, h.XY, h.x, h.M, h.le⟩
theorem Wd.after {W w w' w2 : World} {b oo d m : Nat} {c c' : Nat → Nat} {s s' : Bv α} (h : Wd E M T W w w' b oo d c c' s s' m) (hb : Below w'.heap.size w' w2) (hW : W.heap.size ≤ w.heap.size) : Wd E M T W w w2 b oo d c c' s s' m :=
  ⟨h.bq.after hb, h.onl.on hb, h.col, h.bl.trans (hb.mono (Nat.le_trans hW h.onl.size)), h.oc.trans (Oc.block (hb.block b h.bq.bk.lt))⟩
theorem Bq.still {W w w2 : World} {b oo d m : Nat} {c : Nat → Nat} {s : Bv α} (h : Bq E M T W w b oo d c s m) (hb : Below w.heap.size w w2) (hW : W.heap.size ≤ w.heap.size) : Wd E M T W w w2 b oo d c c s s m :=
  ⟨h.after hb, Onl.of_below hb, fun _ _ _ => rfl, hb.mono hW, Oc.block (hb.block b h.bk.lt)⟩
theorem Sd.wd {W w w' : World} {b oo d m : Nat} {c c' : Nat → Nat} {s s' : Bv α} (h : Sd E M T W w w' b oo d c c' s s') (hq : Bq E M T W w b oo d c s m) : Wd E M T W w w' b oo d c c' s s' m :=
  ⟨⟨h.bk, h.L, fun i hi => by rw [h.F] at hi; simp at hi, fun i hi => by rw [h.F] at hi; simp at hi, h.M hq.M, by rw [h.N, h.F]; exact hq.le⟩, h.onl, h.col, h.bl, h.oc⟩
theorem Bk.keptAt (hE : E.Ok) {w : World} {B b oo d n k : Nat} {c : Nat → Nat} {s : Bv α} {a : Option Addr} (h : Bk E M T w B b oo d c s) (hv : s.vk = .slice a n k) {i : Nat} (hi : i < s.N.length) : ∃ g a1 k1, a = some ⟨g, 0, none⟩ ∧ w.cell? ⟨g, i, none⟩ = some (.slice a1 (nthM s.N i) k1) ∧ ∀ j, j < nthM s.N i → ∃ g1 o1, a1 = some ⟨g1, o1, none⟩ ∧ ∀ o u, (E.cs (M i j))[o]? = some u → w.cell? ⟨g1, o1 + (j * E.k + o), none⟩ = some u := by
  have h1 := h.rk
  rw [hv] at h1
  obtain ⟨g, e, hc⟩ := OwnL.at h1 (by rw [h.lk]; exact hi)
  have h2 := (h.kp i hi).rd
  obtain ⟨a1, k1, e1, hr⟩ := h.kp i hi
  rw [e1] at h2
  rw [marks_len] at e1
  exact ⟨g, a1, k1, e, by rw [hc, e1], fun j hj => h2.el hE (marks_get hj)⟩
theorem Bk.longAt (hE : E.Ok) {w : World} {B b oo d n k : Nat} {c : Nat → Nat} {s : Bv α} {a : Option Addr} (h : Bk E M T w B b oo d c s) (hv : s.vl = .slice a n k) {i : Nat} (hi : i < s.N.length) : ∃ g a1 k1, a = some ⟨g, 0, none⟩ ∧ w.cell? ⟨g, i, none⟩ = some (.slice a1 (nthM s.N i + 70) k1) ∧ ∀ j, j < nthM s.N i + 70 → ∃ g1 o1, a1 = some ⟨g1, o1, none⟩ ∧ ∀ o u, (E.cs (M i j))[o]? = some u → w.cell? ⟨g1, o1 + (j * E.k + o), none⟩ = some u := by
  have h1 := h.rl
  rw [hv] at h1
  obtain ⟨g, e, hc⟩ := OwnL.at h1 (Nat.lt_of_lt_of_le hi h.ll)
  have h2 := (h.lo i hi).rd
  obtain ⟨a1, k1, e1, hr⟩ := h.lo i hi
  rw [e1] at h2
  rw [marks_len] at e1
  exact ⟨g, a1, k1, e, by rw [hc, e1], fun j hj => h2.el hE (marks_get hj)⟩
end
end Go.Proofs.YthenfioddnkjbaaGreatDoor.Bg
