import Derived.Test.YtiheilkjlapoiaaFeOps
import Derived.Test.YtiheilkjlapoiaaFeEntry
import Derived.Test.YtiheilkjlapoiaaLKeep
/- Events parted by their transactions. -/
namespace Go.Proofs.Ytiheilkjlapoiaa.Lg
open Go.RowKit Go.Sort Go.Shelf Go.Lib Lk
set_option linter.unusedVariables false

/-- a slice -/
structure Sl where
  a : Option Addr
  n : Nat
  c : Nat
abbrev slv (s : Sl) : Value := .slice s.a s.n s.c
/-- the events of a transaction -/
def ofT (t : Ix) (evs : List Ev) : List Ev := evs.filter fun e => sameI e.id t
/-- events parted by their transactions: the lists lie in blocks of their own, apart from one another -/
structure Parts (W : World) (B : Nat) (ps : List (Ix × Sl)) (evs : List Ev) : Prop where
  nodup : (ps.map (·.1)).Nodup
  len : ∀ t s, (t, s) ∈ ps → (ofT t evs).length = s.n ∧ 0 < s.n
  row : ∀ t s, (t, s) ∈ ps → W.ownsRow B 72 20 (slv s) s.n ((ofT t evs).flatMap Ev.cs)
  void : ∀ t, t ∉ ps.map (·.1) → ofT t evs = []
  apart : ∀ t s u r, (t, s) ∈ ps → (u, r) ∈ ps → t ≠ u → (slv s).ownBlock ≠ (slv r).ownBlock
theorem owns_same {w w' : World} {B n size : Nat} {e : TypeId} {v : Value} {xs : List Value} (h : w.ownsRow B e size v n xs) (hs : ∀ (g : Nat) (cs : Array Value), v.ownBlock = some g → w.heap[g]? = some (Obj.cells cs e (0, 0)) → w'.heap[g]? = w.heap[g]?) : w'.ownsRow B e size v n xs := by
  obtain ⟨hl, h1 | ⟨g, cap, cur, e1, hB, hh, r⟩⟩ := h
  · exact ⟨hl, .inl h1⟩
  · exact ⟨hl, .inr ⟨g, cap, cur, e1, hB, (hs g cur (by rw [e1]; rfl) hh).trans hh, r⟩⟩
theorem owns_block {w : World} {B n size : Nat} {e : TypeId} {v : Value} {xs : List Value} (h : w.ownsRow B e size v n xs) (hn : 0 < n) : ∃ g cs, v.ownBlock = some g ∧ B ≤ g ∧ g < w.heap.size ∧ w.heap[g]? = some (.cells cs e (0, 0)) := by
  obtain ⟨hl, ⟨_, h1⟩ | ⟨g, cap, cur, e1, hB, hh, r⟩⟩ := h
  · omega
  · exact ⟨g, cur, by rw [e1]; rfl, hB, (Array.getElem?_eq_some_iff.1 hh).1, hh⟩
theorem ofT_snoc (t : Ix) (E : List Ev) (x : Ev) : ofT t (E ++ [x]) = if sameI x.id t = true then ofT t E ++ [x] else ofT t E := by
  unfold ofT
  rw [List.filter_append]
  by_cases h : sameI x.id t = true
  · simp [h]
  · simp [h]
theorem Parts.nil (W : World) (B : Nat) : Parts W B [] [] := ⟨by simp, by simp, by simp, by simp [ofT], by simp⟩
theorem Parts.keep {W W' : World} {B : Nat} {ps : List (Ix × Sl)} {E : List Ev} (h : Parts W B ps E) (hk : ∀ (g : Nat) (cs : Array Value), W.heap[g]? = some (Obj.cells cs 72 (0, 0)) → W'.heap[g]? = W.heap[g]?) : Parts W' B ps E :=
  ⟨h.nodup, h.len, fun t s hm => owns_same (h.row t s hm) fun g cs _ hg => hk g cs hg, h.void, h.apart⟩
/-- an event more -/
theorem Parts.step {W W' : World} {B : Nat} {ps : List (Ix × Sl)} {E : List Ev} {x : Ev} {v0 s : Sl} (h : Parts W B ps E)
    (h0 : (x.id, v0) ∈ ps ∨ (x.id ∉ ps.map (·.1) ∧ v0 = ⟨none, 0, 0⟩)) (hs : s.n = v0.n + 1)
    (hrow : W'.ownsRow B 72 20 (slv s) s.n ((ofT x.id E).flatMap Ev.cs ++ x.cs))
    (hkeep : ∀ (g : Nat) (cs : Array Value), W.heap[g]? = some (Obj.cells cs 72 (0, 0)) → (slv v0).ownBlock ≠ some g → W'.heap[g]? = W.heap[g]?)
    (hnew : (slv s).ownBlock = (slv v0).ownBlock ∨ ∃ k, (slv s).ownBlock = some k ∧ W.heap.size ≤ k) :
    Parts W' B (putA ps x.id s) (E ++ [x]) := by
  have hx : sameI x.id x.id = true := by simp [sameI]
  have hlen0 : (ofT x.id E).length = v0.n := by
    rcases h0 with h0 | ⟨h0, e⟩
    · exact (h.len _ _ h0).1
    · rw [h.void _ h0, e]; rfl
  -- the others' blocks are not touched
  have hoth : ∀ t r, (t, r) ∈ ps → t ≠ x.id → ∀ g, (slv r).ownBlock = some g → (slv v0).ownBlock ≠ some g := by
    intro t r hm ht g hg
    rcases h0 with h0 | ⟨_, e⟩
    · intro k
      exact h.apart t r x.id v0 hm h0 ht (hg.trans k.symm)
    · rw [e]; simp [Value.ownBlock]
  have hrows : ∀ t r, (t, r) ∈ ps → t ≠ x.id → W'.ownsRow B 72 20 (slv r) r.n ((ofT t E).flatMap Ev.cs) := fun t r hm ht => owns_same (h.row t r hm) fun g cs hg hc => hkeep g cs hc (hoth t r hm ht g hg)
  have hofx : ofT x.id (E ++ [x]) = ofT x.id E ++ [x] := by rw [ofT_snoc, if_pos hx]
  have hofo : ∀ t, t ≠ x.id → ofT t (E ++ [x]) = ofT t E := fun t ht => by
    rw [ofT_snoc, if_neg]
    simp only [sameI, decide_eq_true_eq]
    exact fun e => ht e.symm
  refine ⟨putA_keys h.nodup _ _, fun t r hm => ?_, fun t r hm => ?_, fun t ht => ?_, fun t r u q hm hm' hne => ?_⟩
  · rcases (putA_mem x.id s t r).1 hm with ⟨rfl, rfl⟩ | ⟨hne, hm⟩
    · rw [hofx, List.length_append, hlen0, hs]; exact ⟨rfl, by omega⟩
    · rw [hofo t hne]; exact h.len t r hm
  · rcases (putA_mem x.id s t r).1 hm with ⟨rfl, rfl⟩ | ⟨hne, hm⟩
    · rw [hofx, List.flatMap_append]; simpa using hrow
    · rw [hofo t hne]; exact hrows t r hm hne
  · have hne : t ≠ x.id := by
      rintro rfl
      exact ht (List.mem_map.2 ⟨(x.id, s), (putA_mem x.id s _ _).2 (.inl ⟨rfl, rfl⟩), rfl⟩)
    rw [hofo t hne]
    refine h.void t fun k => ht ?_
    obtain ⟨⟨t', r⟩, hm, e⟩ := List.mem_map.1 k
    simp only at e
    subst e
    exact List.mem_map.2 ⟨(t', r), (putA_mem x.id s _ _).2 (.inr ⟨hne, hm⟩), rfl⟩
  · have key : ∀ t r, (t, r) ∈ ps → t ≠ x.id → (slv r).ownBlock ≠ (slv s).ownBlock := by
      intro t r hm hne e
      obtain ⟨g, cs, hg, _, hlt, hc⟩ := owns_block (h.row t r hm) (h.len t r hm).2
      rcases hnew with k | ⟨k, hk, hk2⟩
      · exact hoth t r hm hne g hg (k.symm.trans (e.symm.trans hg))
      · rw [hg, hk] at e
        injection e with e
        omega
    rcases (putA_mem x.id s t r).1 hm with ⟨e1, e2⟩ | ⟨h1, hm1⟩
    · rcases (putA_mem x.id s u q).1 hm' with ⟨e3, e4⟩ | ⟨h2, hm2⟩
      · exact absurd (e1.trans e3.symm) hne
      · rw [e2]; exact (key u q hm2 h2).symm
    · rcases (putA_mem x.id s u q).1 hm' with ⟨e3, e4⟩ | ⟨h2, hm2⟩
      · rw [e4]; exact key t r hm1 h1
      · exact h.apart t r u q hm1 hm2 hne
end Go.Proofs.Ytiheilkjlapoiaa.Lg
