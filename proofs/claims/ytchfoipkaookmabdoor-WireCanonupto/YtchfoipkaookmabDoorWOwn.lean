import Derived.Test.YtchfoipkaookmabDoorWBytes
namespace Go.Proofs.YtchfoipkaookmabDoor
open Go.RowKit Go.Sort
set_option linter.unusedVariables false

/-- of what was there, only the cells o .. o + n - 1 of block b may have changed -/
structure Cel (b o n : Nat) (w w' : World) : Prop where
  os : w'.os = w.os
  tape : w'.tape = w.tape
  output : w'.output = w.output
  size : w.heap.size ≤ w'.heap.size
  block : ∀ k, k < w.heap.size → k ≠ b → w'.heap[k]? = w.heap[k]?
  cells : ∀ i, b < w.heap.size → (i < o ∨ o + n ≤ i) → w'.cell? ⟨b, i, none⟩ = w.cell? ⟨b, i, none⟩
  frz : ∀ i, b < w.heap.size → w'.frozen? ⟨b, i, none⟩ = w.frozen? ⟨b, i, none⟩

theorem Cel.refl (b o n : Nat) (w : World) : Cel b o n w w := ⟨rfl, rfl, rfl, Nat.le_refl _, fun _ _ _ => rfl, fun _ _ _ => rfl, fun _ _ => rfl⟩
theorem Cel.trans {b o n : Nat} {w1 w2 w3 : World} (h : Cel b o n w1 w2) (k : Cel b o n w2 w3) : Cel b o n w1 w3 :=
  ⟨k.os.trans h.os, k.tape.trans h.tape, k.output.trans h.output, Nat.le_trans h.size k.size, fun i hi hp => (k.block i (Nat.lt_of_lt_of_le hi h.size) hp).trans (h.block i hi hp),
    fun i hb hi => (k.cells i (Nat.lt_of_lt_of_le hb h.size) hi).trans (h.cells i hb hi), fun i hb => (k.frz i (Nat.lt_of_lt_of_le hb h.size)).trans (h.frz i hb)⟩
theorem Cel.of_below {b o n : Nat} {w w' : World} (h : Below w.heap.size w w') : Cel b o n w w' :=
  ⟨h.os, h.tape, h.output, h.size, fun k hk _ => h.block k hk, fun i hb _ => h.cell (p := ⟨b, i, none⟩) hb, fun i hb => h.frozen (p := ⟨b, i, none⟩) hb⟩
theorem Cel.on {b o n : Nat} {a w w' : World} (h : Cel b o n a w) (k : Below w.heap.size w w') : Cel b o n a w' := h.trans (Cel.of_below k)
theorem Cel.al {b o n : Nat} {a w : World} (h : Cel b o n a w) (x : Obj) : Cel b o n a (w.alloc x) := h.on (Below.al (Below.refl _ _) x)
theorem Cel.drew {b o n : Nat} {a w : World} (h : Cel b o n a w) : Cel b o n a w.drew := ⟨h.os, h.tape, h.output, h.size, h.block, h.cells, h.frz⟩
theorem Cel.set {b o n : Nat} {a w : World} (h : Cel b o n a w) (i : Nat) (hi : o ≤ i ∧ i < o + n) (v : Value) : Cel b o n a (w.setCell ⟨b, i, none⟩ v) :=
  h.trans ⟨rfl, rfl, rfl, by simp [World.setCell], fun k _ hp => Below.heap_setCell _ _ _ _ hp, fun j _ hj => World.cell?_setCell_other _ _ _ _ (fun e => by have := congrArg Addr.off e; dsimp only at this; omega), fun j _ => World.frozen?_setCell _ _ _ _⟩
/-- a store into a block that is new -/
theorem Cel.setNew {b o n q : Nat} {a w : World} (h : Cel b o n a w) (hq : a.heap.size ≤ q) (i : Nat) (v : Value) : Cel b o n a (w.setCell ⟨q, i, none⟩ v) :=
  ⟨h.os, h.tape, h.output, by simpa [World.setCell] using h.size, fun k hk hp => (Below.heap_setCell _ _ _ _ (by show k ≠ q; omega)).trans (h.block k hk hp),
    fun j hb hj => (World.cell?_setCell_other _ _ _ _ (fun e => by have := congrArg Addr.block e; dsimp only at this; omega)).trans (h.cells j hb hj), fun j hb => (World.frozen?_setCell _ _ _ _).trans (h.frz j hb)⟩
theorem Cel.cell {b o n c i : Nat} {w w' : World} {v : Value} (h : Cel b o n w w') (hc : c ≠ b ∨ i < o ∨ o + n ≤ i) (k : w.cell? ⟨c, i, none⟩ = some v) : w'.cell? ⟨c, i, none⟩ = some v := by
  have hl := World.block_lt_of_cell? _ _ k
  by_cases hb : c = b
  · subst hb
    rw [← k]; exact h.cells i hl (by omega)
  · rw [← k]; exact World.cell?_of_block (a := ⟨c, i, none⟩) (h.block c hl hb)
theorem Cel.loose {b o n c : Nat} {w w' : World} (h : Cel b o n w w') (hs : c < w.heap.size) (k : Loose w c) : Loose w' c := fun i => by
  by_cases hb : c = b
  · subst hb; rw [← k i]; exact h.frz i hs
  · rw [← k i]; exact World.frozen?_of_block (a := ⟨c, i, none⟩) (h.block c hs hb)
theorem Cel.below {b o n B : Nat} {w w' : World} (h : Cel b o n w w') (hb : B ≤ b) (hB : B ≤ w.heap.size) : Below B w w' :=
  ⟨h.os, h.tape, h.output, h.size, fun k hk => h.block k (by omega) (by omega)⟩
theorem Cel.wide {b o n o' n' : Nat} {w w' : World} (h : Cel b o n w w') (h1 : o' ≤ o) (h2 : o + n ≤ o' + n') : Cel b o' n' w w' :=
  ⟨h.os, h.tape, h.output, h.size, h.block, fun i hb hi => h.cells i hb (by omega), h.frz⟩

theorem Loose.setc {w : World} {p : Nat} (h : Loose w p) (a : Addr) (v : Value) : Loose (w.setCell a v) p := fun o => by
  rw [World.frozen?_setCell]; exact h o
theorem cell_setc {w : World} {a b : Addr} {v u : Value} (hne : b ≠ a) (h : w.cell? b = some u) : (w.setCell a v).cell? b = some u := by
  rw [World.cell?_setCell_other _ _ _ _ (fun e => hne e.symm), h]

/-- where a chain begins -/
def ptrOf : List (Nat × List Nat) → Value
  | [] => .pointer none
  | (g, _) :: _ => .pointer (some ⟨g, 0, none⟩)
/-- pieces that were laid down, the last first: block and bytes -/
def Chain (w : World) : List (Nat × List Nat) → Prop
  | [] => True
  | (g, t) :: r => w.cell? ⟨g, 0, none⟩ = some (ptrOf r) ∧ w.cell? ⟨g, 1, none⟩ = some (.string (ofNats t)) ∧ B8 t ∧ Chain w r
def total : List (Nat × List Nat) → List Nat
  | [] => []
  | (_, t) :: r => total r ++ t
/-- an encoder at o of block b, whose pieces lie outside A -/
structure EncAt (w : World) (A : Nat → Prop) (b o : Nat) (bs : List Nat) : Prop where
  self : A b
  ex : ∃ cs, total cs = bs ∧ Chain w cs ∧ (∀ x ∈ cs, ¬ A x.1) ∧ w.cell? ⟨b, o, none⟩ = some (ptrOf cs)
  size : w.cell? ⟨b, o + 1, none⟩ = some (.int .i64 bs.length)
  loose : Loose w b
theorem Chain.keep {w w' : World} {A : Nat → Prop} : ∀ {cs : List (Nat × List Nat)}, Chain w cs → (∀ x ∈ cs, ¬ A x.1) → (∀ k i v, ¬ A k → w.cell? ⟨k, i, none⟩ = some v → w'.cell? ⟨k, i, none⟩ = some v) → Chain w' cs
  | [], _, _, _ => trivial
  | (g, t) :: r, ⟨h1, h2, h3, h4⟩, hA, hk => by
    have hg : ¬ A g := hA (g, t) (by simp)
    exact ⟨hk _ _ _ hg h1, hk _ _ _ hg h2, h3, Chain.keep h4 (fun x hx => hA x (by simp [hx])) hk⟩
theorem Chain.b8 {w : World} : ∀ {cs : List (Nat × List Nat)}, Chain w cs → B8 (total cs)
  | [], _ => B8.nil
  | (_, _) :: _, ⟨_, _, h3, h4⟩ => (Chain.b8 h4).append h3
theorem Chain.lt {w : World} : ∀ {cs : List (Nat × List Nat)}, Chain w cs → ∀ x ∈ cs, x.1 < w.heap.size
  | [], _, x, hx => by simp at hx
  | (g, t) :: r, ⟨h1, h2, h3, h4⟩, x, hx => by
    rcases List.mem_cons.1 hx with h | h
    · subst h; exact World.block_lt_of_cell? _ _ h1
    · exact Chain.lt h4 x h
theorem EncAt.lt {w : World} {A : Nat → Prop} {b o : Nat} {bs : List Nat} (h : EncAt w A b o bs) : b < w.heap.size := World.block_lt_of_cell? _ _ h.size
theorem EncAt.b8 {w : World} {A : Nat → Prop} {b o : Nat} {bs : List Nat} (h : EncAt w A b o bs) : B8 bs := by
  obtain ⟨cs, rfl, hc, _⟩ := h.ex; exact hc.b8
theorem EncAt.keep {w w' : World} {A : Nat → Prop} {b o : Nat} {bs : List Nat} (h : EncAt w A b o bs) {c p n : Nat} (k : Cel c p n w w') (hc : A c) (hd : c ≠ b ∨ o + 2 ≤ p ∨ p + n ≤ o) : EncAt w' A b o bs := by
  obtain ⟨cs, ht, hch, hA, hp⟩ := h.ex
  refine ⟨h.self, ⟨cs, ht, hch.keep hA (fun q i v hq hv => k.cell (.inl (fun e => hq (e ▸ hc))) hv), hA, k.cell (by omega) hp⟩, k.cell (by omega) h.size, k.loose h.lt h.loose⟩
theorem EncAt.later {w w' : World} {A : Nat → Prop} {b o : Nat} {bs : List Nat} (h : EncAt w A b o bs) (k : Below w.heap.size w w') : EncAt w' A b o bs := by
  obtain ⟨cs, ht, hch, hA, hp⟩ := h.ex
  exact ⟨h.self, ⟨cs, ht, hch.keep hA (fun q i v hq hv => cell_later k hv), hA, cell_later k hp⟩, cell_later k h.size, h.loose.later k h.lt⟩
/-- more blocks may be changed, as long as they are new -/
theorem EncAt.more {w : World} {A A' : Nat → Prop} {b o : Nat} {bs : List Nat} (h : EncAt w A b o bs) (hb : A' b) (hA : ∀ k, A' k → A k ∨ w.heap.size ≤ k) : EncAt w A' b o bs := by
  obtain ⟨cs, ht, hch, hA1, hp⟩ := h.ex
  refine ⟨hb, ⟨cs, ht, hch, fun x hx ha => ?_, hp⟩, h.size, h.loose⟩
  rcases hA _ ha with h1 | h1
  · exact hA1 x hx h1
  · have := hch.lt x hx; omega

/-- a decoder at o of block b: what is left, and what stopped it -/
structure DecR (w : World) (b o : Nat) (s : List Nat) (r : Int) : Prop where
  c0 : w.cell? ⟨b, o, none⟩ = some (.string (ofNats s))
  c1 : w.cell? ⟨b, o + 1, none⟩ = some (.int .i64 r)
  b8 : B8 s
  loose : Loose w b
theorem DecR.lt {w : World} {b o : Nat} {s : List Nat} {r : Int} (h : DecR w b o s r) : b < w.heap.size := World.block_lt_of_cell? _ _ h.c0
theorem DecR.keep {w w' : World} {b o : Nat} {s : List Nat} {r : Int} (h : DecR w b o s r) {c p n : Nat} (k : Cel c p n w w') (hd : c ≠ b ∨ o + 2 ≤ p ∨ p + n ≤ o) : DecR w' b o s r :=
  ⟨k.cell (by omega) h.c0, k.cell (by omega) h.c1, h.b8, k.loose h.lt h.loose⟩
theorem DecR.later {w w' : World} {b o : Nat} {s : List Nat} {r : Int} (h : DecR w b o s r) (k : Below w.heap.size w w') : DecR w' b o s r :=
  ⟨cell_later k h.c0, cell_later k h.c1, h.b8, h.loose.later k h.lt⟩
theorem DecR.set0 {w : World} {b o : Nat} {s : List Nat} {r : Int} (h : DecR w b o s r) {t : List Nat} (ht : B8 t) : DecR (w.setCell ⟨b, o, none⟩ (.string (ofNats t))) b o t r :=
  ⟨World.cell?_setCell_same _ _ _ h.c0, cell_setc (by simp) h.c1, ht, h.loose.setc _ _⟩
theorem DecR.set1 {w : World} {b o : Nat} {s : List Nat} {r : Int} (h : DecR w b o s r) (q : Int) : DecR (w.setCell ⟨b, o + 1, none⟩ (.int .i64 q)) b o s q :=
  ⟨cell_setc (by simp) h.c0, World.cell?_setCell_same _ _ _ h.c1, h.b8, h.loose.setc _ _⟩
/-- a decoder -/
def Ds.num : Ds → Int
  | .at _ => 0
  | .stop e => e
def Ds.ok : Ds → Prop
  | .at _ => True
  | .stop e => e ≠ 0
structure DecAt (w : World) (b o : Nat) (d : Ds) : Prop where
  raw : DecR w b o d.left d.num
  ok : d.ok

end Go.Proofs.YtchfoipkaookmabDoor
