import Derived.Test.YtbgmbbmnnfmbpabQCompact
import Derived.Test.YtbgmbbmnnfmbpabQLawP
import Derived.Test.YtbgmbbmnnfmbpabLess
/- Blocks, in plain words. -/
namespace Go.Proofs.Ytbgmbbmnnfmbpab.Lk
open Go.RowKit Go.Sort Go.Lib
set_option linter.unusedVariables false

/-- does a transaction block a read of a span at a stamp? -/
def blkB (s : T2) (aw al an : Int) (h : Hd) : Bool := h.ws.any (fun x => insB x.key s) && !lessB aw al an h.w h.l h.n
theorem le_lt {i j k : Ix} (h1 : ltI j i = false) (h2 : ltI j k = true) : ltI i k = true := by
  obtain ⟨a, b⟩ := i
  obtain ⟨c, d⟩ := j
  obtain ⟨e, f⟩ := k
  simp [ltI] at h1 h2 ⊢
  omega
theorem lt_irr (i : Ix) : ltI i i = false := by simp [ltI]
/-- a sorted list, each only once -/
theorem comp_mem {d : Array Ix} : ∀ {j m : Nat}, j < m → d[j]! ∈ compactUpTo d m := by
  intro j
  induction j with
  | zero =>
    intro m hm
    exact List.mem_map.2 ⟨0, List.mem_filter.2 ⟨List.mem_range.2 hm, keeps_lt_one d 0 (by omega)⟩, rfl⟩
  | succ j ih =>
    intro m hm
    by_cases e : d[j + 1]! = d[j]!
    · rw [e]; exact ih (by omega)
    · exact List.mem_map.2 ⟨j + 1, List.mem_filter.2 ⟨List.mem_range.2 hm, keeps_pos (by simpa using e)⟩, rfl⟩
theorem comp_sub {d : Array Ix} {m : Nat} {x : Ix} (h : x ∈ compactUpTo d m) : ∃ j, j < m ∧ d[j]! = x := by
  obtain ⟨j, hj, rfl⟩ := List.mem_map.1 h
  exact ⟨j, List.mem_range.1 (List.mem_filter.1 hj).1, rfl⟩
theorem comp_rise {d : Array Ix} {m : Nat} (hs : ∀ i j, i < j → j < m → ltI d[j]! d[i]! = false) : (compactUpTo d m).Pairwise (fun x y => ltI x y = true) := by
  rw [compactUpTo, List.pairwise_map]
  refine (List.Pairwise.filter _ List.pairwise_lt_range).imp_of_mem ?_
  intro p q hp hq hpq
  obtain ⟨hq1, hq2⟩ := List.mem_filter.1 hq
  have hq1 := List.mem_range.1 hq1
  have hne : d[q]! ≠ d[q - 1]! := by
    simp only [keeps, decide_eq_true_eq] at hq2
    rcases hq2 with h | h
    · omega
    · exact h
  have h1 : ltI d[q - 1]! d[q]! = true := ltI_of (hs (q - 1) q (by omega) hq1) (fun e => hne e.symm)
  by_cases e : p = q - 1
  · rw [e]; exact h1
  · exact le_lt (hs p (q - 1) (by omega) (by omega)) h1
theorem rise_uniq {X Y : List Ix} (hX : X.Pairwise (fun x y => ltI x y = true)) (hY : Y.Pairwise (fun x y => ltI x y = true)) (hm : ∀ i, i ∈ X ↔ i ∈ Y) : X = Y := by
  have asym : ∀ {a b : Ix}, ltI a b = true → ltI b a = true → False := fun {a b} h1 h2 => by
    have := le_lt (i := a) (j := a) (k := b) (lt_irr a) h1
    obtain ⟨x, y⟩ := a
    obtain ⟨z, t⟩ := b
    simp [ltI] at h1 h2
    omega
  have nd : ∀ {l : List Ix}, l.Pairwise (fun x y => ltI x y = true) → l.Nodup := fun h => h.imp fun {a b} h1 e => by
    subst e; rw [lt_irr] at h1; cases h1
  exact List.Perm.eq_of_pairwise (le := fun x y => ltI x y = true) (fun a b _ _ h1 h2 => (asym h1 h2).elim) hX hY ((List.perm_ext_iff_of_nodup (nd hX) (nd hY)).2 hm)
/-- the intents are no more than the writes -/
def sumW (M : List Hd) : Nat := (M.map fun h => h.ws.length).sum
theorem ints_le {M : List Hd} {I : It} (ok : Ok M I) : I.length ≤ sumW M := by
  have h1 : I.map (·.1) ⊆ M.flatMap (fun h => h.ws.map Wr.key) := fun k hk => by
    obtain ⟨⟨k', i⟩, hp, rfl⟩ := List.mem_map.1 hk
    obtain ⟨h, hh, _, x, hx, e⟩ := (ok.tie _ _).1 hp
    exact List.mem_flatMap.2 ⟨h, hh, List.mem_map.2 ⟨x, hx, e⟩⟩
  have h2 := List.Nodup.length_le_of_subset ok.keys h1
  rw [List.length_map, List.length_flatMap] at h2
  simpa [sumW, Function.comp_def] using h2
theorem holdM_sum (M : List Hd) (h : Hd) : sumW (holdM M h) ≤ sumW M + h.ws.length := by
  unfold holdM
  split
  · omega
  · split
    · omega
    · simp [sumW]
end Go.Proofs.Ytbgmbbmnnfmbpab.Lk
