import Derived.Test.YtmbmagfdeadibaaDKept
import Derived.Test.YtmbmagfdeadibaaWBytes
import Derived.Laws.BytesArg
/- The document's disk. -/
namespace Go.Proofs.Ytmbmagfdeadibaa
open Go.RowKit Go.Sort
set_option linter.unusedVariables false

def upd {α : Type} (f : Nat → α) (s : Nat) (a : α) : Nat → α := fun i => if i = s then a else f i
theorem upd_same {α : Type} (f : Nat → α) (s : Nat) (a : α) : upd f s a s = a := by simp [upd]
theorem upd_other {α : Type} (f : Nat → α) {s i : Nat} (a : α) (h : i ≠ s) : upd f s a i = f i := by simp [upd, h]
/-- where it lies, and what it holds -/
structure Rf where
  p : Nat
  cap : Nat
  v : Nat → Value
  r : Nat → List Cc
def Rf.has (x : Rf) (k : Nat) : Prop := k = x.p ∨ (x.v 0).ownBlock = some k ∨ (x.v 1).ownBlock = some k
def Rf.put (x : Rf) (s : Nat) (v : Value) (l : List Cc) : Rf := { x with v := upd x.v s v, r := upd x.r s l }
structure RefD (w : World) (x : Rf) : Prop where
  c0 : w.cell? ⟨x.p, 0, none⟩ = some (.int .i64 (x.cap : Int))
  c1 : w.cell? ⟨x.p, 1, none⟩ = some (x.v 0)
  c2 : w.cell? ⟨x.p, 2, none⟩ = some (x.v 1)
  loose : Loose w x.p
  o0 : w.ownsRow 0 72 2 (x.v 0) (x.r 0).length (flatC (x.r 0))
  o1 : w.ownsRow 0 72 2 (x.v 1) (x.r 1).length (flatC (x.r 1))
  n0 : (x.v 0).ownBlock ≠ some x.p
  n1 : (x.v 1).ownBlock ≠ some x.p
  n2 : ∀ g, (x.v 0).ownBlock = some g → (x.v 1).ownBlock ≠ some g
  cl : x.cap ≤ 1048576
  used : (x.r 0).length + (x.r 1).length ≤ x.cap
theorem RefD.lt {w : World} {x : Rf} (h : RefD w x) : x.p < w.heap.size := World.block_lt_of_cell? _ _ h.c0
theorem RefD.has_lt {w : World} {x : Rf} (h : RefD w x) : ∀ k, x.has k → k < w.heap.size := by
  rintro k (rfl | hk | hk)
  · exact h.lt
  · exact (h.o0.lt k hk).2
  · exact (h.o1.lt k hk).2
theorem RefD.keep {w w' : World} {x : Rf} {F : Nat → Prop} (h : RefD w x) (ho : Onl F w w') (hF : ∀ k, x.has k → ¬ F k) : RefD w' x := by
  have fp := hF x.p (.inl rfl)
  exact ⟨ho.cell fp h.c0, ho.cell fp h.c1, ho.cell fp h.c2, ho.loose fp h.lt h.loose, owns_onl h.o0 ho (fun g hg => hF g (.inr (.inl hg))), owns_onl h.o1 ho (fun g hg => hF g (.inr (.inr hg))), h.n0, h.n1, h.n2, h.cl, h.used⟩
theorem RefD.later {w w' : World} {x : Rf} (h : RefD w x) (hb : Below w.heap.size w w') : RefD w' x := h.keep (F := fun _ => False) (Onl.of_below hb) (fun _ _ => id)
/-- a new row is laid into slot 0 or 1 -/
theorem RefD.put0 {w w1 : World} {x : Rf} {v : Value} {l : List Cc} (h : RefD w x) (ho : Onl (fun k => (x.v 0).ownBlock = some k) w w1) (hv : w1.ownsRow 0 72 2 v l.length (flatC l))
    (hn : ∀ g, v.ownBlock = some g → (x.v 0).ownBlock = some g ∨ w.heap.size ≤ g) (hu : l.length + (x.r 1).length ≤ x.cap) : RefD (w1.setCell ⟨x.p, 1, none⟩ v) (x.put 0 v l) ∧ Onl x.has w (w1.setCell ⟨x.p, 1, none⟩ v) ∧ (∀ k, (x.put 0 v l).has k → x.has k ∨ w.heap.size ≤ k) := by
  have fp : ¬ (x.v 0).ownBlock = some x.p := h.n0
  have lp := h.lt
  have hvp : v.ownBlock ≠ some x.p := fun e => by
    rcases hn _ e with h1 | h1
    · exact h.n0 h1
    · omega
  have hv1 : ∀ g, v.ownBlock = some g → (x.v 1).ownBlock ≠ some g := fun g hg e => by
    rcases hn g hg with h1 | h1
    · exact h.n2 g h1 e
    · have := (h.o1.lt g e).2; omega
  have hs : Onl (fun k => k = x.p) w1 (w1.setCell ⟨x.p, 1, none⟩ v) := (Onl.refl (fun k => k = x.p) w1).set (p := x.p) rfl _ _
  have o1 := owns_onl h.o1 ho (fun g hg e => h.n2 g e hg)
  refine ⟨⟨cell_setc (by simp) (ho.cell fp h.c0), ?_, ?_, (ho.loose fp lp h.loose).setc _ _, ?_, ?_, ?_, ?_, ?_, h.cl, ?_⟩, ?_, ?_⟩
  · exact World.cell?_setCell_same _ _ _ (ho.cell fp h.c1)
  · exact cell_setc (by simp) (ho.cell fp h.c2)
  · exact owns_onl hv hs (fun g hg e => hvp (e ▸ hg))
  · exact owns_onl o1 hs (fun g hg e => h.n1 (e ▸ hg))
  · exact hvp
  · exact h.n1
  · exact hv1
  · simpa [Rf.put, upd] using hu
  · exact (ho.mono (fun k e => .inr (.inl e))).trans ((Onl.refl _ _).set (.inl rfl) _ _)
  · rintro k (e | e | e)
    · exact .inl (.inl e)
    · rcases hn k e with h1 | h1
      · exact .inl (.inr (.inl h1))
      · exact .inr h1
    · exact .inl (.inr (.inr e))
theorem RefD.put1 {w w1 : World} {x : Rf} {v : Value} {l : List Cc} (h : RefD w x) (ho : Onl (fun k => (x.v 1).ownBlock = some k) w w1) (hv : w1.ownsRow 0 72 2 v l.length (flatC l))
    (hn : ∀ g, v.ownBlock = some g → (x.v 1).ownBlock = some g ∨ w.heap.size ≤ g) (hu : (x.r 0).length + l.length ≤ x.cap) : RefD (w1.setCell ⟨x.p, 2, none⟩ v) (x.put 1 v l) ∧ Onl x.has w (w1.setCell ⟨x.p, 2, none⟩ v) ∧ (∀ k, (x.put 1 v l).has k → x.has k ∨ w.heap.size ≤ k) := by
  have fp : ¬ (x.v 1).ownBlock = some x.p := h.n1
  have lp := h.lt
  have hvp : v.ownBlock ≠ some x.p := fun e => by
    rcases hn _ e with h1 | h1
    · exact h.n1 h1
    · omega
  have hv1 : ∀ g, (x.v 0).ownBlock = some g → v.ownBlock ≠ some g := fun g e hg => by
    rcases hn g hg with h1 | h1
    · exact h.n2 g e h1
    · have := (h.o0.lt g e).2; omega
  have hs : Onl (fun k => k = x.p) w1 (w1.setCell ⟨x.p, 2, none⟩ v) := (Onl.refl (fun k => k = x.p) w1).set (p := x.p) rfl _ _
  have o0 := owns_onl h.o0 ho (fun g hg e => h.n2 g hg e)
  refine ⟨⟨cell_setc (by simp) (ho.cell fp h.c0), ?_, ?_, (ho.loose fp lp h.loose).setc _ _, ?_, ?_, ?_, ?_, ?_, h.cl, ?_⟩, ?_, ?_⟩
  · exact cell_setc (by simp) (ho.cell fp h.c1)
  · exact World.cell?_setCell_same _ _ _ (ho.cell fp h.c2)
  · exact owns_onl o0 hs (fun g hg e => h.n0 (e ▸ hg))
  · exact owns_onl hv hs (fun g hg e => hvp (e ▸ hg))
  · exact h.n0
  · exact hvp
  · exact hv1
  · simpa [Rf.put, upd] using hu
  · exact (ho.mono (fun k e => .inr (.inr e))).trans ((Onl.refl _ _).set (.inl rfl) _ _)
  · rintro k (e | e | e)
    · exact .inl (.inl e)
    · exact .inl (.inr (.inl e))
    · rcases hn k e with h1 | h1
      · exact .inl (.inr (.inr h1))
      · exact .inr h1

/-- a row that is new -/
theorem RefD.lay0 {w w2 : World} {x : Rf} {v : Value} {l : List Cc} {B n : Nat} (h : RefD w x) (hb : Below w.heap.size w w2) (ho : w2.ownsRow B 72 2 v n (flatC l)) (hB : w.heap.size ≤ B) (hn : l.length = n)
    (hu : l.length + (x.r 1).length ≤ x.cap) : RefD (w2.setCell ⟨x.p, 1, none⟩ v) (x.put 0 v l) ∧ Onl x.has w (w2.setCell ⟨x.p, 1, none⟩ v) ∧ (∀ k, (x.put 0 v l).has k → x.has k ∨ w.heap.size ≤ k) := by
  subst hn
  exact h.put0 (Onl.of_below hb) (owns_zero ho) (fun g hg => .inr (Nat.le_trans hB (ho.lt g hg).1)) hu
/-- a row that is new -/
theorem RefD.lay1 {w w2 : World} {x : Rf} {v : Value} {l : List Cc} {B n : Nat} (h : RefD w x) (hb : Below w.heap.size w w2) (ho : w2.ownsRow B 72 2 v n (flatC l)) (hB : w.heap.size ≤ B) (hn : l.length = n)
    (hu : (x.r 0).length + l.length ≤ x.cap) : RefD (w2.setCell ⟨x.p, 2, none⟩ v) (x.put 1 v l) ∧ Onl x.has w (w2.setCell ⟨x.p, 2, none⟩ v) ∧ (∀ k, (x.put 1 v l).has k → x.has k ∨ w.heap.size ≤ k) := by
  subst hn
  exact h.put1 (Onl.of_below hb) (owns_zero ho) (fun g hg => .inr (Nat.le_trans hB (ho.lt g hg).1)) hu

theorem rright_is {s : Int} {u : Bool} (hu : (s == 0 || s == 1) = u) (w : World) :
    Calls Try.prog 42 #[.int .i64 s] w fun e w' => e = .returned (.bool u) ∧ w' = w := by
  subst hu
  go_enter Try.func42, Try.ntmps42
  go_wp2_with fail
  all_goals go_ret
  all_goals refine ⟨?_, rfl⟩
  all_goals simp_all

/-- a capacity as it counts -/
def fit (c : Int) : Nat := (min (max c 0) 1048576).toNat
def Rf.new (p : Nat) (c : Int) : Rf := ⟨p, fit c, fun _ => .slice none 0 0, fun _ => []⟩
set_option maxHeartbeats 1000000 in
theorem rnew_is (c : Int) (w : World) :
    Calls Try.prog 21 #[.int .i64 c] w fun e w' => ∃ p, e = .returned (.pointer (some ⟨p, 0, none⟩)) ∧ w.heap.size ≤ p ∧ RefD w' (Rf.new p c) ∧ Below w.heap.size w w' := by
  have key : ∀ (w : World) (k : Nat), k ≤ 1048576 → k = fit c → RefD (w.alloc (.cells #[.int .i64 (k : Int), .slice none 0 0, .slice none 0 0] 68)) (Rf.new w.heap.size c) := fun w k hk e => by
    subst e
    exact ⟨by simp [go_sem, Rf.new], by simp [go_sem, Rf.new], by simp [go_sem, Rf.new], fun o => by simp [go_sem, Rf.new], World.ownsRow_nil _ _ _ _, World.ownsRow_nil _ _ _ _, by simp [Rf.new, Value.ownBlock], by simp [Rf.new, Value.ownBlock], fun g hg => by simp [Rf.new, Value.ownBlock] at hg, hk, by simp [Rf.new]⟩
  have HK := hid key
  clear key
  by_cases h0 : c < 0
  · go_enter Try.func21, Try.ntmps21
    go_wp2_with fail
    go_ret
    exact ⟨_, rfl, Nat.le_refl _, HK.out _ 0 (by omega) (by unfold fit; omega), by (repeat (first | exact Below.refl _ _ | assumption | refine Below.drew ?_ | refine Below.al ?_ _ | refine Below.setCell ?_ (by first | exact Nat.le_refl _ | (simp; omega) | (simp; done)) _ | refine Below.on ?_ (by assumption)))⟩
  · by_cases h1 : 1048576 < c
    · go_enter Try.func21, Try.ntmps21
      go_wp2_with fail
      go_ret
      exact ⟨_, rfl, Nat.le_refl _, HK.out _ 1048576 (by omega) (by unfold fit; omega), by (repeat (first | exact Below.refl _ _ | assumption | refine Below.drew ?_ | refine Below.al ?_ _ | refine Below.setCell ?_ (by first | exact Nat.le_refl _ | (simp; omega) | (simp; done)) _ | refine Below.on ?_ (by assumption)))⟩
    · obtain ⟨k, rfl⟩ := Int.eq_ofNat_of_zero_le (by omega : 0 ≤ c)
      have h1' : decide (1048576 < (k : Int)) = false := decide_eq_false h1
      have h0' : decide ((k : Int) < 0) = false := decide_eq_false h0
      have H1 := hid h1
      clear h0 h1
      go_enter Try.func21, Try.ntmps21
      go_wp2_with fail
      go_ret
      exact ⟨_, rfl, Nat.le_refl _, HK.out _ k (by have := H1.out; omega) (by have := H1.out; unfold fit; omega), by (repeat (first | exact Below.refl _ _ | assumption | refine Below.drew ?_ | refine Below.al ?_ _ | refine Below.setCell ?_ (by first | exact Nat.le_refl _ | (simp; omega) | (simp; done)) _ | refine Below.on ?_ (by assumption)))⟩

end Go.Proofs.Ytmbmagfdeadibaa
