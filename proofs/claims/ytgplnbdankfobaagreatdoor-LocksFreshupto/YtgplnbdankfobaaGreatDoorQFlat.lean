import Derived.Test.YtgplnbdankfobaaGreatDoorQPlain
import Derived.Laws.AppendOwn
/- Spans and writes as rows of cells. -/
namespace Go.Proofs.YtgplnbdankfobaaGreatDoor.Lk
open Go.RowKit Go.Sort
set_option linter.unusedVariables false

abbrev encS (x : T2) : List Value := [.string x.1, .string x.2]
abbrev encW (x : Wr) : List Value := [.string x.key, .bool x.del, .string x.val]
theorem cell_objF {w : World} {b o : Nat} {cs : Array Value} {t : TypeId} {z : Nat × Nat} {v : Value} (h : w.heap[b]? = some (.cells cs t z)) (hv : cs[o]? = some v) : w.cell? ⟨b, o, none⟩ = some v := by
  simp [World.cell?, h, hv]
def flat2 (xs : List T2) : List Value := xs.flatMap encS
def flatW (xs : List Wr) : List Value := xs.flatMap encW
theorem flat2_len (xs : List T2) : (flat2 xs).length = xs.length * 2 := by
  induction xs with
  | nil => rfl
  | cons x xs ih => simp only [flat2, List.flatMap_cons, List.length_append, List.length_cons] at ih ⊢; simp at ih ⊢; omega
theorem flatW_len (xs : List Wr) : (flatW xs).length = xs.length * 3 := by
  induction xs with
  | nil => rfl
  | cons x xs ih => simp only [flatW, List.flatMap_cons, List.length_append, List.length_cons] at ih ⊢; simp at ih ⊢; omega
theorem flat2_get : ∀ (xs : List T2) (i o : Nat), i < xs.length → o < 2 → (flat2 xs)[i * 2 + o]? = (encS (nth2 xs i))[o]?
  | x :: xs, 0, o, _, ho => by
    rw [flat2, List.flatMap_cons, List.getElem?_append_left (by simp; omega)]; simp [nth2]
  | x :: xs, i + 1, o, hi, ho => by
    have ih := flat2_get xs i o (by simpa using hi) ho
    rw [flat2, List.flatMap_cons, List.getElem?_append_right (by simp; omega), show (i + 1) * 2 + o - (encS x).length = i * 2 + o by simp; omega]
    rw [show nth2 (x :: xs) (i + 1) = nth2 xs i by simp [nth2]]
    exact ih
theorem flatW_get : ∀ (xs : List Wr) (i o : Nat), i < xs.length → o < 3 → (flatW xs)[i * 3 + o]? = (encW (nthW xs i))[o]?
  | x :: xs, 0, o, _, ho => by
    rw [flatW, List.flatMap_cons, List.getElem?_append_left (by simp; omega)]; simp [nthW]
  | x :: xs, i + 1, o, hi, ho => by
    have ih := flatW_get xs i o (by simpa using hi) ho
    rw [flatW, List.flatMap_cons, List.getElem?_append_right (by simp; omega), show (i + 1) * 3 + o - (encW x).length = i * 3 + o by simp; omega]
    rw [show nthW (x :: xs) (i + 1) = nthW xs i by simp [nthW]]
    exact ih
theorem flat2_one (xs : List T2) : ∀ v ∈ flat2 xs, v.oneCell' = true := by
  intro v hv
  simp only [flat2, List.mem_flatMap, encS] at hv
  obtain ⟨x, _, hv⟩ := hv
  simp at hv
  rcases hv with rfl | rfl <;> rfl
theorem flatW_one (xs : List Wr) : ∀ v ∈ flatW xs, v.oneCell' = true := by
  intro v hv
  simp only [flatW, List.mem_flatMap, encW] at hv
  obtain ⟨x, _, hv⟩ := hv
  simp at hv
  rcases hv with rfl | rfl | rfl <;> rfl
theorem own_cells {w : World} {B n size : Nat} {e : TypeId} {a : Option Addr} {c : Nat} {xs : List Value} (h : w.ownsRow B e size (.slice a n c) n xs) (hn : 0 < n) : ∃ g, a = some ⟨g, 0, none⟩ ∧ B ≤ g ∧ ∀ j v, xs[j]? = some v → w.cell? ⟨g, j, none⟩ = some v := by
  obtain ⟨hl, ⟨e1, rfl⟩ | ⟨g, cap, cur, e1, hB, hh, h1, h2, h3, h4⟩⟩ := h
  · omega
  · injection e1 with e1 _ _
    subst e1
    refine ⟨g, rfl, hB, fun j v hj => (cell_objF hh ?_)⟩
    rw [← h4] at hj
    rw [List.getElem?_take] at hj
    split at hj
    · simpa using hj
    · cases hj
theorem info_of {P : Program} {t : TypeId} {z : Value} {n m : Nat} (h : (P.info? t).map (fun i => (i.zero, i.size, i.bytes)) = some (some z, n, m)) : ∃ i, P.info? t = some i ∧ i.zero = some z ∧ i.size = n ∧ i.bytes = m := by
  cases hi : P.info? t with
  | none => rw [hi] at h; cases h
  | some i =>
    rw [hi] at h
    simp only [Option.map_some, Option.some.injEq, Prod.mk.injEq] at h
    exact ⟨i, rfl, h.1, h.2.1, h.2.2⟩
theorem infoSp : (Tryz.prog.info? 34).map (fun i => (i.zero, i.size, i.bytes)) = some (some (.agg #[.string ⟨#[]⟩, .string ⟨#[]⟩]), 2, 32) := by kernel_rfl
theorem infoWr : (Tryz.prog.info? 64).map (fun i => (i.zero, i.size, i.bytes)) = some (some (.agg #[.string ⟨#[]⟩, .bool false, .string ⟨#[]⟩]), 3, 40) := by kernel_rfl
end Go.Proofs.YtgplnbdankfobaaGreatDoor.Lk
