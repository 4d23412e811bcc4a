import Derived.Test.YtiheilkjlapoiaaGRows
/- Locks, in plain mathematics. -/
namespace Go.Proofs.Ytiheilkjlapoiaa.Lk
open Go.RowKit Go.Sort
set_option linter.unusedVariables false

/-- a transaction's id -/
abbrev Ix := Int × Int
/-- what a transaction holds -/
structure Hd where
  id : Ix
  home : Int
  w : Int
  l : Int
  n : Int
  rs : List T2
  ws : List Wr

theorem nodup_inj {α β : Type} {f : α → β} : ∀ {l : List α}, (l.map f).Nodup → ∀ {a b : α}, a ∈ l → b ∈ l → f a = f b → a = b
  | [], _, a, b, ha, _, _ => by simp at ha
  | x :: l, h, a, b, ha, hb, e => by
    rw [List.map_cons, List.nodup_cons] at h
    rcases List.mem_cons.1 ha with h1 | h1
    · rcases List.mem_cons.1 hb with h2 | h2
      · rw [h1, h2]
      · exact absurd (List.mem_map.2 ⟨b, h2, by rw [← e, h1]⟩) h.1
    · rcases List.mem_cons.1 hb with h2 | h2
      · exact absurd (List.mem_map.2 ⟨a, h1, by rw [e, h2]⟩) h.1
      · exact nodup_inj h.2 h1 h2 e

/-- is a text inside a span? -/
def insB (k : ByteArray) (s : T2) : Bool := !ltS k s.1 && (emS s.2 || ltS k s.2)
def withinB (k : ByteArray) (rs : List T2) : Bool := rs.any (insB k)
def anyB (ws : List Wr) (rs : List T2) : Bool := ws.any (fun x => withinB x.key rs)
def sameK (a b : ByteArray) : Bool := decide (a = b)
def commonB (a b : List Wr) : Bool := a.any (fun x => b.any (fun y => sameK x.key y.key))
/-- do reads and writes meet what is held? -/
def meetB (rs : List T2) (ws : List Wr) (h : Hd) : Bool := commonB ws h.ws || anyB ws h.rs || anyB h.ws rs
def confl (M : List Hd) (i : Ix) (rs : List T2) (ws : List Wr) : Bool := M.any (fun h => !decide (h.id = i) && meetB rs ws h)

/-- the program's intents, by key -/
abbrev It := List (ByteArray × Ix)
structure Ok (M : List Hd) (I : It) : Prop where
  ids : (M.map Hd.id).Nodup
  keys : (I.map (·.1)).Nodup
  tie : ∀ k i, (k, i) ∈ I ↔ ∃ h ∈ M, h.id = i ∧ ∃ x ∈ h.ws, x.key = k
  apart : M.Pairwise (fun a b => meetB a.rs a.ws b = false)

def readsMeet (I : It) (i : Ix) (rs : List T2) : Bool := I.any (fun p => !decide (p.2 = i) && withinB p.1 rs)
def writesMeet (M : List Hd) (I : It) (i : Ix) (ws : List Wr) : Bool :=
  ws.any (fun x => I.any (fun p => sameK p.1 x.key && !decide (p.2 = i))) || M.any (fun h => !decide (h.id = i) && anyB ws h.rs)

theorem sameK_eq {a b : ByteArray} : sameK a b = true ↔ a = b := by simp [sameK]
theorem meet_iff {rs : List T2} {ws : List Wr} {h : Hd} : meetB rs ws h = true ↔
    (∃ x ∈ ws, ∃ y ∈ h.ws, x.key = y.key) ∨ (∃ x ∈ ws, ∃ s ∈ h.rs, insB x.key s = true) ∨ (∃ y ∈ h.ws, ∃ s ∈ rs, insB y.key s = true) := by
  simp only [meetB, commonB, anyB, withinB, Bool.or_eq_true, List.any_eq_true, sameK_eq, or_assoc]
theorem meet_symm {a b : Hd} : meetB a.rs a.ws b = meetB b.rs b.ws a := by
  rw [Bool.eq_iff_iff, meet_iff, meet_iff]
  constructor
  · rintro (⟨x, hx, y, hy, e⟩ | ⟨x, hx, s, hs, e⟩ | ⟨y, hy, s, hs, e⟩)
    · exact .inl ⟨y, hy, x, hx, e.symm⟩
    · exact .inr (.inr ⟨x, hx, s, hs, e⟩)
    · exact .inr (.inl ⟨y, hy, s, hs, e⟩)
  · rintro (⟨x, hx, y, hy, e⟩ | ⟨x, hx, s, hs, e⟩ | ⟨y, hy, s, hs, e⟩)
    · exact .inl ⟨y, hy, x, hx, e.symm⟩
    · exact .inr (.inr ⟨x, hx, s, hs, e⟩)
    · exact .inr (.inl ⟨y, hy, s, hs, e⟩)
/-- the program's way is the document's -/
theorem confl_eq {M : List Hd} {I : It} (ok : Ok M I) (i : Ix) (rs : List T2) (ws : List Wr) : (readsMeet I i rs || writesMeet M I i ws) = confl M i rs ws := by
  rw [Bool.eq_iff_iff]
  simp only [readsMeet, writesMeet, confl, Bool.or_eq_true, List.any_eq_true, Bool.and_eq_true, Bool.not_eq_true', decide_eq_false_iff_not, sameK_eq, meet_iff]
  constructor
  · rintro (⟨⟨k, j⟩, hp, hne, hw⟩ | ⟨x, hx, ⟨k, j⟩, hp, hk, hne⟩ | ⟨h, hh, hne, ha⟩)
    · obtain ⟨h, hh, rfl, y, hy, rfl⟩ := (ok.tie k j).1 hp
      simp only [withinB, List.any_eq_true] at hw
      exact ⟨h, hh, hne, .inr (.inr ⟨y, hy, hw⟩)⟩
    · obtain ⟨h, hh, rfl, y, hy, rfl⟩ := (ok.tie k j).1 hp
      exact ⟨h, hh, hne, .inl ⟨x, hx, y, hy, hk.symm⟩⟩
    · simp only [anyB, withinB, List.any_eq_true] at ha
      exact ⟨h, hh, hne, .inr (.inl ha)⟩
  · rintro ⟨h, hh, hne, ⟨x, hx, y, hy, e⟩ | ⟨x, hx, s, hs, e⟩ | ⟨y, hy, s, hs, e⟩⟩
    · exact .inr (.inl ⟨x, hx, (y.key, h.id), (ok.tie _ _).2 ⟨h, hh, rfl, y, hy, rfl⟩, e.symm, hne⟩)
    · refine .inr (.inr ⟨h, hh, hne, ?_⟩)
      simp only [anyB, withinB, List.any_eq_true]
      exact ⟨x, hx, s, hs, e⟩
    · refine .inl ⟨(y.key, h.id), (ok.tie _ _).2 ⟨h, hh, rfl, y, hy, rfl⟩, hne, ?_⟩
      simp only [withinB, List.any_eq_true]
      exact ⟨s, hs, e⟩

/-- a map as a list of pairs: put, dropped -/
def putA {α β : Type} [DecidableEq α] (I : List (α × β)) (k : α) (v : β) : List (α × β) :=
  if k ∈ I.map (·.1) then I.map (fun p => if p.1 = k then (k, v) else p) else I ++ [(k, v)]
def dropA {α β : Type} [DecidableEq α] (I : List (α × β)) (k : α) : List (α × β) := I.filter (fun p => !decide (p.1 = k))
theorem putA_keys {α β : Type} [DecidableEq α] {I : List (α × β)} (h : (I.map (·.1)).Nodup) (k : α) (v : β) : ((putA I k v).map (·.1)).Nodup := by
  unfold putA
  split
  · rw [List.map_map]
    have : ((·.1) ∘ fun p : α × β => if p.1 = k then (k, v) else p) = (·.1) := by
      funext p
      by_cases e : p.1 = k <;> simp [e]
    rw [this]; exact h
  · rename_i hn
    rw [List.map_append, List.nodup_append]
    refine ⟨h, by simp, ?_⟩
    intro a ha b hb
    simp at hb
    subst hb
    intro e; subst e; exact hn ha
theorem putA_mem {α β : Type} [DecidableEq α] {I : List (α × β)} (k : α) (v : β) (k' : α) (v' : β) : (k', v') ∈ putA I k v ↔ (k' = k ∧ v' = v) ∨ (k' ≠ k ∧ (k', v') ∈ I) := by
  unfold putA
  split
  · rename_i hm
    rw [List.mem_map]
    constructor
    · rintro ⟨⟨a, b⟩, hp, e⟩
      by_cases ha : a = k
      · simp [ha] at e; exact .inl ⟨e.1.symm, e.2.symm⟩
      · simp [ha] at e; obtain ⟨rfl, rfl⟩ := e; exact .inr ⟨ha, hp⟩
    · rintro (⟨rfl, rfl⟩ | ⟨hne, hp⟩)
      · obtain ⟨⟨a, b⟩, hp, e⟩ := List.mem_map.1 hm
        exact ⟨(a, b), hp, by simp at e; simp [e]⟩
      · exact ⟨(k', v'), hp, by simp [hne]⟩
  · rename_i hm
    rw [List.mem_append]
    constructor
    · rintro (hp | hp)
      · refine .inr ⟨fun e => hm ?_, hp⟩
        subst e; exact List.mem_map.2 ⟨_, hp, rfl⟩
      · simp at hp; exact .inl hp
    · rintro (⟨rfl, rfl⟩ | ⟨_, hp⟩)
      · exact .inr (by simp)
      · exact .inl hp
theorem dropA_keys {α β : Type} [DecidableEq α] {I : List (α × β)} (h : (I.map (·.1)).Nodup) (k : α) : ((dropA I k).map (·.1)).Nodup :=
  h.sublist (List.filter_sublist.map _)
theorem dropA_mem {α β : Type} [DecidableEq α] {I : List (α × β)} (k : α) (k' : α) (v' : β) : (k', v') ∈ dropA I k ↔ k' ≠ k ∧ (k', v') ∈ I := by
  simp [dropA, List.mem_filter, and_comm]

/-- the intents of a transaction are laid, and taken away -/
def putAll (I : It) (i : Ix) (ws : List Wr) : It := ws.foldl (fun J x => putA J x.key i) I
def dropAll (I : It) (ws : List Wr) : It := ws.foldl (fun J x => dropA J x.key) I
theorem putAll_keys {I : It} (h : (I.map (·.1)).Nodup) (i : Ix) : ∀ ws : List Wr, ((putAll I i ws).map (·.1)).Nodup := by
  intro ws
  induction ws generalizing I with
  | nil => exact h
  | cons x ws ih => exact ih (putA_keys h _ _)
theorem putAll_mem (i : Ix) : ∀ (ws : List Wr) (I : It) (k : ByteArray) (j : Ix), (k, j) ∈ putAll I i ws ↔ ((∃ x ∈ ws, x.key = k) ∧ j = i) ∨ ((¬ ∃ x ∈ ws, x.key = k) ∧ (k, j) ∈ I)
  | [], I, k, j => by simp [putAll]
  | x :: ws, I, k, j => by
    rw [show putAll I i (x :: ws) = putAll (putA I x.key i) i ws from rfl, putAll_mem i ws, putA_mem]
    have hE : (∃ y ∈ x :: ws, y.key = k) ↔ (k = x.key ∨ ∃ y ∈ ws, y.key = k) := by
      constructor
      · rintro ⟨y, hy, e⟩
        rcases List.mem_cons.1 hy with rfl | hy
        · exact .inl e.symm
        · exact .inr ⟨y, hy, e⟩
      · rintro (e | ⟨y, hy, e⟩)
        · exact ⟨x, by simp, e.symm⟩
        · exact ⟨y, by simp [hy], e⟩
    rw [hE]
    generalize (∃ y ∈ ws, y.key = k) = E
    generalize ((k, j) ∈ I) = D
    generalize (j = i) = C
    by_cases h3 : k = x.key <;> by_cases h1 : E <;> simp [h3, h1]
theorem dropAll_keys {I : It} (h : (I.map (·.1)).Nodup) : ∀ ws : List Wr, ((dropAll I ws).map (·.1)).Nodup := by
  intro ws
  induction ws generalizing I with
  | nil => exact h
  | cons x ws ih => exact ih (dropA_keys h _)
theorem dropAll_mem : ∀ (ws : List Wr) (I : It) (k : ByteArray) (j : Ix), (k, j) ∈ dropAll I ws ↔ (¬ ∃ x ∈ ws, x.key = k) ∧ (k, j) ∈ I
  | [], I, k, j => by simp [dropAll]
  | x :: ws, I, k, j => by
    rw [show dropAll I (x :: ws) = dropAll (dropA I x.key) ws from rfl, dropAll_mem ws, dropA_mem]
    constructor
    · rintro ⟨h1, h2, h3⟩
      refine ⟨?_, h3⟩
      rintro ⟨y, hy, e⟩
      rcases List.mem_cons.1 hy with rfl | hy
      · exact h2 e.symm
      · exact h1 ⟨y, hy, e⟩
    · rintro ⟨h1, h3⟩
      exact ⟨fun ⟨y, hy, e⟩ => h1 ⟨y, by simp [hy], e⟩, fun e => h1 ⟨x, by simp, e.symm⟩, h3⟩

theorem no_confl {M : List Hd} {i : Ix} {rs : List T2} {ws : List Wr} (hi : i ∉ M.map Hd.id) (hc : confl M i rs ws = false) {h : Hd} (hh : h ∈ M) : meetB rs ws h = false := by
  rw [confl, List.any_eq_false] at hc
  have := hc h hh
  have hne : ¬ h.id = i := fun e => hi (List.mem_map.2 ⟨h, hh, e⟩)
  simpa [hne] using this
/-- a Hold that is answered OK -/
theorem Ok.hold {M : List Hd} {I : It} (ok : Ok M I) {h : Hd} (hi : h.id ∉ M.map Hd.id) (hc : confl M h.id h.rs h.ws = false) : Ok (M ++ [h]) (putAll I h.id h.ws) where
  ids := by
    rw [List.map_append, List.nodup_append]
    refine ⟨ok.ids, by simp, fun a ha b hb => ?_⟩
    simp at hb; subst hb
    intro e; subst e; exact hi ha
  keys := putAll_keys ok.keys _ _
  tie := fun k i => by
    rw [putAll_mem]
    constructor
    · rintro (⟨⟨x, hx, e⟩, rfl⟩ | ⟨_, hp⟩)
      · exact ⟨h, by simp, rfl, x, hx, e⟩
      · obtain ⟨g, hg, e1, e2⟩ := (ok.tie k i).1 hp
        exact ⟨g, by simp [hg], e1, e2⟩
    · rintro ⟨g, hg, rfl, x, hx, rfl⟩
      rcases List.mem_append.1 hg with hg | hg
      · refine .inr ⟨?_, (ok.tie _ _).2 ⟨g, hg, rfl, x, hx, rfl⟩⟩
        rintro ⟨y, hy, e⟩
        have := no_confl hi hc hg
        have h2 : meetB h.rs h.ws g = true := meet_iff.2 (.inl ⟨y, hy, x, hx, e⟩)
        rw [this] at h2; cases h2
      · simp at hg; subst hg
        exact .inl ⟨⟨x, hx, rfl⟩, rfl⟩
  apart := by
    rw [List.pairwise_append]
    refine ⟨ok.apart, by simp, fun a ha b hb => ?_⟩
    simp at hb; subst hb
    rw [meet_symm]; exact no_confl hi hc ha
/-- what is left when a transaction lets go -/
def dropM (M : List Hd) (i : Ix) : List Hd := M.filter (fun h => !decide (h.id = i))
theorem Ok.drop {M : List Hd} {I : It} (ok : Ok M I) {h : Hd} (hh : h ∈ M) : Ok (dropM M h.id) (dropAll I h.ws) where
  ids := ok.ids.sublist (List.filter_sublist.map _)
  keys := dropAll_keys ok.keys _
  tie := fun k i => by
    rw [dropAll_mem]
    constructor
    · rintro ⟨hn, hp⟩
      obtain ⟨g, hg, e1, x, hx, e2⟩ := (ok.tie k i).1 hp
      refine ⟨g, List.mem_filter.2 ⟨hg, ?_⟩, e1, x, hx, e2⟩
      have : g.id ≠ h.id := by
        intro e
        have : g = h := by
          have hp := ok.ids
          exact nodup_inj hp hg hh e
        subst this
        exact hn ⟨x, hx, e2⟩
      simp [this]
    · rintro ⟨g, hg, rfl, x, hx, rfl⟩
      obtain ⟨hg, hne⟩ := List.mem_filter.1 hg
      have hne : g.id ≠ h.id := by simpa using hne
      refine ⟨?_, (ok.tie _ _).2 ⟨g, hg, rfl, x, hx, rfl⟩⟩
      rintro ⟨y, hy, e⟩
      have h1 : (x.key, h.id) ∈ I := (ok.tie _ _).2 ⟨h, hh, rfl, y, hy, e⟩
      have h2 : (x.key, g.id) ∈ I := (ok.tie _ _).2 ⟨g, hg, rfl, x, hx, rfl⟩
      have := nodup_inj ok.keys h1 h2 rfl
      injection this with _ e
      exact hne e.symm
  apart := ok.apart.sublist List.filter_sublist
theorem ok_nil : Ok [] [] := ⟨by simp, by simp, fun k i => by simp, by simp⟩

end Go.Proofs.Ytiheilkjlapoiaa.Lk
