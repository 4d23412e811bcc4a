import Derived.Test.YtpnbgdbkiokooaaDoorFrDrain
import Derived.Test.YtpnbgdbkiokooaaDoorFxSame
import Derived.Test.YtpnbgdbkiokooaaDoorLKeep
/- Two flights of the program's, two of the document's, and the book: blocks are told apart by colours. -/
namespace Go.Proofs.YtpnbgdbkiokooaaDoor.Fl
open Go.RowKit Go.Sort Go.Proofs.YtpnbgdbkiokooaaDoor
set_option linter.unusedVariables false

abbrev OwnV (w : World) (B : Nat) (v : Value) (vs : List Value) : Prop := w.ownsRow B 22 1 v vs.length vs
def nthV (l : List Value) (i : Nat) : Value := (l[i]?).getD (.slice none 0 0)
def nthX (l : List (List ByteArray)) (i : Nat) : List ByteArray := (l[i]?).getD []
def nthM (l : List Nat) (i : Nat) : Nat := (l[i]?).getD 0
def marks (n m : Nat) : List ByteArray := (List.range m).map fun (i : Nat) => markB (n : Int) (i : Int)
theorem marks_len (n m : Nat) : (marks n m).length = m := by simp [marks]
theorem marks_get {n m i : Nat} (h : i < m) : nthT (marks n m) i = markB n i := by simp [nthT, marks, h]
/-- readable texts in blocks of one colour -/
def RdC (w : World) (c : Nat → Nat) (q : Nat) (v : Value) (xs : List ByteArray) : Prop := ∃ a k, v = .slice a xs.length k ∧ ∀ i t, xs[i]? = some t → ∃ g o, a = some ⟨g, o, none⟩ ∧ c g = q ∧ w.cell? ⟨g, o + i, none⟩ = some (.string t)
theorem RdC.rd {w : World} {c : Nat → Nat} {q : Nat} {v : Value} {xs : List ByteArray} (h : RdC w c q v xs) : Rd w v xs := by
  obtain ⟨a, k, e, h⟩ := h
  refine ⟨a, k, e, fun i t hi => ?_⟩
  obtain ⟨g, o, e1, _, e2⟩ := h i t hi
  exact ⟨g, o, e1, e2⟩
theorem RdC.onl {w w' : World} {c c' : Nat → Nat} {q q' : Nat} {v : Value} {xs : List ByteArray} {S : Nat → Prop} (h : RdC w c q v xs) (ho : Onl (fun k => S (c k)) w w') (hS : ¬ S q) (hc : ∀ k, k < w.heap.size → c k = q → c' k = q') : RdC w' c' q' v xs := by
  obtain ⟨a, k, e, h⟩ := h
  refine ⟨a, k, e, fun i t hi => ?_⟩
  obtain ⟨g, o, e1, e2, e3⟩ := h i t hi
  exact ⟨g, o, e1, hc g (World.block_lt_of_cell? _ _ e3) e2, ho.cell (fun hs => hS (by rw [← e2]; exact hs)) e3⟩
/-- a row of one colour -/
def RwC (w : World) (B : Nat) (c : Nat → Nat) (q : Nat) (v : Value) (xs : List ByteArray) : Prop := RowF w B v xs ∧ ∀ g, v.ownBlock = some g → c g = q
theorem RwC.onl {w w' : World} {B : Nat} {c c' : Nat → Nat} {q q' : Nat} {v : Value} {xs : List ByteArray} {S : Nat → Prop} (h : RwC w B c q v xs) (ho : Onl (fun k => S (c k)) w w') (hS : ¬ S q) (hc : ∀ k, k < w.heap.size → c k = q → c' k = q') : RwC w' B c' q' v xs :=
  ⟨h.1.keep fun g hg => ho.block g (h.1.lt g hg).2 (fun hs => hS (by rw [← h.2 g hg]; exact hs)), fun g hg => hc g (h.1.lt g hg).2 (h.2 g hg)⟩
theorem RwC.rdc {w : World} {B : Nat} {c : Nat → Nat} {q : Nat} {v : Value} {xs : List ByteArray} (h : RwC w B c q v xs) : RdC w c q v xs := by
  rcases h.1 with ⟨rfl, rfl⟩ | ⟨g, off, k, rfl, _, hr⟩
  · exact ⟨none, 0, rfl, fun i t e => by simp at e⟩
  · exact ⟨_, _, rfl, fun i t e => ⟨g, off, rfl, h.2 g rfl, hr.at_ i t e⟩⟩
/-- the book in plain words: its four rows, what they hold; X: the untouched lists, Y: what they held, N: the lengths of the kept ones -/
structure Bv where
  vf : Value
  vw : Value
  vk : Value
  vl : Value
  F : List Value
  Z : List Value
  K : List Value
  L : List Value
  X : List (List ByteArray)
  Y : List (List ByteArray)
  N : List Nat
structure Bk (w : World) (B b : Nat) (c : Nat → Nat) (s : Bv) : Prop where
  blk : w.heap[b]? = some (.cells #[s.vf, s.vw, s.vk, s.vl] 43 (0, 0))
  low : B ≤ b
  cb : c b = 8
  rf : OwnV w B s.vf s.F
  cf : ∀ g, s.vf.ownBlock = some g → c g = 4
  rw_ : OwnV w B s.vw s.Z
  cw : ∀ g, s.vw.ownBlock = some g → c g = 5
  rk : OwnV w B s.vk s.K
  ck : ∀ g, s.vk.ownBlock = some g → c g = 6
  rl : OwnV w B s.vl s.L
  cl : ∀ g, s.vl.ownBlock = some g → c g = 7
  lz : s.Z.length = s.F.length
  lx : s.X.length = s.F.length
  ly : s.Y.length = s.F.length
  lk : s.K.length = s.N.length
  ll : s.N.length ≤ s.L.length
  fr : ∀ i, i < s.F.length → RwC w B c (20 + i) (nthV s.F i) (nthX s.X i)
  wa : ∀ i, i < s.F.length → RdC w c 9 (nthV s.Z i) (nthX s.Y i)
  kp : ∀ n, n < s.N.length → RdC w c 9 (nthV s.K n) (marks n (nthM s.N n))
  lo : ∀ n, n < s.N.length → RdC w c 9 (nthV s.L n) (marks n (nthM s.N n + 70))
theorem Bk.lt {w : World} {B b : Nat} {c : Nat → Nat} {s : Bv} (h : Bk w B b c s) : b < w.heap.size := (Array.getElem?_eq_some_iff.1 h.blk).1
theorem own_col {w w' : World} {B : Nat} {c : Nat → Nat} {q : Nat} {v : Value} {vs : List Value} {S : Nat → Prop} (h : OwnV w B v vs) (hv : ∀ g, v.ownBlock = some g → c g = q) (ho : Onl (fun k => S (c k)) w w') (hS : ¬ S q) : OwnV w' B v vs :=
  owns_keep h fun g hg => ho.block g (World.ownsRow.lt h g hg).2 (fun hs => hS (by rw [← hv g hg]; exact hs))
/-- the book stays while others are written -/
theorem Bk.onl {w w' : World} {B b : Nat} {c c' : Nat → Nat} {s : Bv} {S : Nat → Prop} (h : Bk w B b c s) (ho : Onl (fun k => S (c k)) w w') (hS : ∀ q, 4 ≤ q → q ≤ 9 → ¬ S q) (hS2 : ∀ q, 20 ≤ q → ¬ S q) (hc : ∀ k, k < w.heap.size → (4 ≤ c k ∧ c k ≤ 9) ∨ 20 ≤ c k → c' k = c k) : Bk w' B b c' s := by
  have hl : ∀ {v vs}, OwnV w B v vs → ∀ g, v.ownBlock = some g → g < w.heap.size := fun h g hg => (World.ownsRow.lt h g hg).2
  have e9 : ∀ k, k < w.heap.size → c k = 9 → c' k = 9 := fun k hk e => (hc k hk (.inl (by omega))).trans e
  exact ⟨(ho.block b h.lt (by rw [h.cb]; exact hS 8 (by omega) (by omega))).trans h.blk, h.low, (hc b h.lt (.inl (by rw [h.cb]; omega))).trans h.cb,
    own_col h.rf h.cf ho (hS 4 (by omega) (by omega)), fun g hg => (hc g (hl h.rf g hg) (.inl (by rw [h.cf g hg]; omega))).trans (h.cf g hg),
    own_col h.rw_ h.cw ho (hS 5 (by omega) (by omega)), fun g hg => (hc g (hl h.rw_ g hg) (.inl (by rw [h.cw g hg]; omega))).trans (h.cw g hg),
    own_col h.rk h.ck ho (hS 6 (by omega) (by omega)), fun g hg => (hc g (hl h.rk g hg) (.inl (by rw [h.ck g hg]; omega))).trans (h.ck g hg),
    own_col h.rl h.cl ho (hS 7 (by omega) (by omega)), fun g hg => (hc g (hl h.rl g hg) (.inl (by rw [h.cl g hg]; omega))).trans (h.cl g hg),
    h.lz, h.lx, h.ly, h.lk, h.ll,
    fun i hi => (h.fr i hi).onl ho (hS2 _ (by omega)) (fun k hk e => (hc k hk (.inr (by omega))).trans e),
    fun i hi => (h.wa i hi).onl ho (hS 9 (by omega) (by omega)) e9,
    fun n hn => (h.kp n hn).onl ho (hS 9 (by omega) (by omega)) e9, fun n hn => (h.lo n hn).onl ho (hS 9 (by omega) (by omega)) e9⟩
def upd {α : Type} (f : Nat → α) (j : Nat) (x : α) : Nat → α := fun i => if i = j then x else f i
theorem upd_same {α : Type} (f : Nat → α) (j : Nat) (x : α) : upd f j x j = x := by simp [upd]
theorem upd_other {α : Type} (f : Nat → α) {i j : Nat} (x : α) (h : i ≠ j) : upd f j x i = f i := by simp [upd, h]
def ext (w : World) (c : Nat → Nat) (a : Nat) : Nat → Nat := fun k => if k < w.heap.size then c k else a
theorem ext_old {w : World} {c : Nat → Nat} {a k : Nat} (h : k < w.heap.size) : ext w c a k = c k := by simp [ext, h]
theorem ext_new {w : World} {c : Nat → Nat} {a k : Nat} (h : w.heap.size ≤ k) : ext w c a k = a := by
  unfold ext; rw [if_neg (by omega)]
abbrev Ent3 := Nat × Value × List ByteArray
structure St (W w : World) (c : Nat → Nat) (p r : Nat → Nat) (v u : Nat → Value) (P R : Nat → List ByteArray) (b : Nat) (s : Bv) (E : List Ent3) : Prop where
  fl : ∀ j, j < 2 → Fl w W.heap.size (p j) (v j) (P j)
  cf : ∀ j, j < 2 → ∀ k, ItF (p j) (v j) k → c k = j
  rf : ∀ j, j < 2 → Rf w W.heap.size (r j) (u j) (R j)
  cr : ∀ j, j < 2 → ∀ k, ItF (r j) (u j) k → c k = 2 + j
  bk : Bk w W.heap.size b c s
  ex : ∀ e ∈ E, RwC w W.heap.size c e.1 e.2.1 e.2.2 ∧ 10 ≤ e.1 ∧ e.1 < 20
  bl : Below W.heap.size W w
section
variable {W w w' : World} {c : Nat → Nat} {p r : Nat → Nat} {v u : Nat → Value} {P R : Nat → List ByteArray} {b : Nat} {s : Bv} {E : List Ent3}
theorem St.fly (h : St W w c p r v u P R b s E) {j : Nat} (hj : j < 2) {v' : Value} {ys : List ByteArray} (m : Mv w w' W.heap.size (p j) (v j) v' ys) : St W w' (ext w c j) p r (upd v j v') u (upd P j ys) R b s E := by
  have ho : Onl (fun k => (fun q => q = j) (c k)) w w' := m.onl.mono fun k hk => h.cf j hj k hk
  have hc : ∀ k, k < w.heap.size → ext w c j k = c k := fun k hk => ext_old hk
  refine ⟨fun i hi => ?_, fun i hi k hk => ?_, fun i hi => ?_, fun i hi k hk => ?_, ?_, fun e he => ?_, h.bl.trans (m.below (h.fl j hj) h.bl.size)⟩
  · by_cases e : i = j
    · subst e; rw [upd_same, upd_same]; exact m.fl
    · rw [upd_other _ _ e, upd_other _ _ e]
      exact (h.fl i hi).onl m.onl (fun k hk hf => e ((h.cf i hi k hk).symm.trans (h.cf j hj k hf)))
  · by_cases e : i = j
    · subst e
      rw [upd_same] at hk
      rcases hk with rfl | hk
      · rw [hc _ (h.fl i hi).lt]; exact h.cf i hi _ (.inl rfl)
      · rcases m.new k hk with h1 | h1
        · rw [hc _ ((h.fl i hi).row.lt k h1).2]; exact h.cf i hi k (.inr h1)
        · exact ext_new h1
    · rw [upd_other _ _ e] at hk
      rw [hc _ ((h.fl i hi).its hk).2]; exact h.cf i hi k hk
  · exact (h.rf i hi).keep fun k hk => m.onl.block k ((h.rf i hi).its hk).2 (fun hf => by have h1 := h.cr i hi k hk; have h2 := h.cf j hj k hf; omega)
  · rw [hc _ ((h.rf i hi).its hk).2]; exact h.cr i hi k hk
  · exact h.bk.onl (S := fun q => q = j) ho (fun q h1 h2 h3 => by omega) (fun q h1 h3 => by omega) (fun k hk _ => hc k hk)
  · obtain ⟨h1, h2, h3⟩ := h.ex e he
    exact ⟨h1.onl (S := fun q => q = j) ho (fun h4 => by omega) (fun k hk e1 => (hc k hk).trans e1), h2, h3⟩
theorem St.rfy (h : St W w c p r v u P R b s E) {j : Nat} (hj : j < 2) {u' : Value} {ys : List ByteArray} (m : Mw w w' W.heap.size (r j) (u j) u' ys) : St W w' (ext w c (2 + j)) p r v (upd u j u') P (upd R j ys) b s E := by
  have ho : Onl (fun k => (fun q => q = 2 + j) (c k)) w w' := m.onl.mono fun k hk => h.cr j hj k hk
  have hc : ∀ k, k < w.heap.size → ext w c (2 + j) k = c k := fun k hk => ext_old hk
  refine ⟨fun i hi => ?_, fun i hi k hk => ?_, fun i hi => ?_, fun i hi k hk => ?_, ?_, fun e he => ?_, h.bl.trans (m.below (h.rf j hj) h.bl.size)⟩
  · exact (h.fl i hi).keep fun k hk => m.onl.block k ((h.fl i hi).its hk).2 (fun hf => by have h1 := h.cf i hi k hk; have h2 := h.cr j hj k hf; omega)
  · rw [hc _ ((h.fl i hi).its hk).2]; exact h.cf i hi k hk
  · by_cases e : i = j
    · subst e; rw [upd_same, upd_same]; exact m.fl
    · rw [upd_other _ _ e, upd_other _ _ e]
      exact (h.rf i hi).onl m.onl (fun k hk hf => e (by have h1 := h.cr i hi k hk; have h2 := h.cr j hj k hf; omega))
  · by_cases e : i = j
    · subst e
      rw [upd_same] at hk
      rcases hk with rfl | hk
      · rw [hc _ (h.rf i hi).lt]; exact h.cr i hi _ (.inl rfl)
      · rcases m.new k hk with h1 | h1
        · rw [hc _ ((h.rf i hi).row.lt k h1).2]; exact h.cr i hi k (.inr h1)
        · exact ext_new h1
    · rw [upd_other _ _ e] at hk
      rw [hc _ ((h.rf i hi).its hk).2]; exact h.cr i hi k hk
  · exact h.bk.onl (S := fun q => q = 2 + j) ho (fun q h1 h2 h3 => by omega) (fun q h1 h3 => by omega) (fun k hk _ => hc k hk)
  · obtain ⟨h1, h2, h3⟩ := h.ex e he
    exact ⟨h1.onl (S := fun q => q = 2 + j) ho (fun h4 => by omega) (fun k hk e1 => (hc k hk).trans e1), h2, h3⟩
/-- new blocks, of any colour -/
theorem St.later (h : St W w c p r v u P R b s E) (hb : Below w.heap.size w w') (a : Nat) : St W w' (ext w c a) p r v u P R b s E := by
  have ho : Onl (fun k => (fun _ => False) (c k)) w w' := Onl.of_below hb
  have hc : ∀ k, k < w.heap.size → ext w c a k = c k := fun k hk => ext_old hk
  exact ⟨fun i hi => (h.fl i hi).later hb, fun i hi k hk => by rw [hc _ ((h.fl i hi).its hk).2]; exact h.cf i hi k hk, fun i hi => (h.rf i hi).later hb, fun i hi k hk => by rw [hc _ ((h.rf i hi).its hk).2]; exact h.cr i hi k hk,
    h.bk.onl (S := fun _ => False) ho (fun _ _ _ h => h) (fun _ _ h => h) (fun k hk _ => hc k hk), fun e he => by
      obtain ⟨h1, h2, h3⟩ := h.ex e he
      exact ⟨h1.onl (S := fun _ => False) ho (fun h => h) (fun k hk e1 => (hc k hk).trans e1), h2, h3⟩, Below.on h.bl hb⟩
/-- a list that was handed out -/
theorem St.add (h : St W w c p r v u P R b s E) (hb : Below w.heap.size w w') {a : Nat} (ha : 10 ≤ a ∧ a < 20) {z : Value} {xs : List ByteArray} (hr : RowF w' w.heap.size z xs) : St W w' (ext w c a) p r v u P R b s ((a, z, xs) :: E) := by
  have h1 := h.later hb a
  refine ⟨h1.fl, h1.cf, h1.rf, h1.cr, h1.bk, fun e he => ?_, h1.bl⟩
  rcases List.mem_cons.1 he with rfl | he
  · exact ⟨⟨hr.base h.bl.size, fun g hg => ext_new (hr.lt g hg).1⟩, ha⟩
  · exact h1.ex e he
/-- other colours for what is new -/
theorem St.recol (h : St W w c p r v u P R b s E) {c' : Nat → Nat} {E' : List Ent3} {n : Nat} (hc : ∀ k, k < n → c' k = c k) (hn : n ≤ w.heap.size) (hp : ∀ k, n ≤ k → ∀ i, i < 2 → ¬ ItF (p i) (v i) k) (hr : ∀ k, n ≤ k → ∀ i, i < 2 → ¬ ItF (r i) (u i) k) (hb : Bk w W.heap.size b c' s) (hE : ∀ e ∈ E', RwC w W.heap.size c' e.1 e.2.1 e.2.2 ∧ 10 ≤ e.1 ∧ e.1 < 20) : St W w c' p r v u P R b s E' :=
  ⟨h.fl, fun i hi k hk => by
      by_cases hlt : k < n
      · rw [hc k hlt]; exact h.cf i hi k hk
      · exact absurd hk (hp k (by omega) i hi), h.rf, fun i hi k hk => by
      by_cases hlt : k < n
      · rw [hc k hlt]; exact h.cr i hi k hk
      · exact absurd hk (hr k (by omega) i hi), hb, hE, h.bl⟩
/-- the book was worked on -/
theorem St.book (h : St W w c p r v u P R b s E) {c' : Nat → Nat} {s' : Bv} {E' : List Ent3} (ho : Onl (fun k => 4 ≤ c k) w w') (hc : ∀ k, k < w.heap.size → c k < 4 → c' k = c k) (hb : Bk w' W.heap.size b c' s') (hE : ∀ e ∈ E', RwC w' W.heap.size c' e.1 e.2.1 e.2.2 ∧ 10 ≤ e.1 ∧ e.1 < 20) (hB : Below W.heap.size W w') : St W w' c' p r v u P R b s' E' :=
  ⟨fun i hi => (h.fl i hi).onl ho (fun k hk hf => by have := h.cf i hi k hk; omega), fun i hi k hk => by
      rw [hc _ ((h.fl i hi).its hk).2 (by rw [h.cf i hi k hk]; omega)]; exact h.cf i hi k hk,
    fun i hi => (h.rf i hi).onl ho (fun k hk hf => by have := h.cr i hi k hk; omega), fun i hi k hk => by
      rw [hc _ ((h.rf i hi).its hk).2 (by rw [h.cr i hi k hk]; omega)]; exact h.cr i hi k hk, hb, hE, hB⟩
end
end Go.Proofs.YtpnbgdbkiokooaaDoor.Fl
