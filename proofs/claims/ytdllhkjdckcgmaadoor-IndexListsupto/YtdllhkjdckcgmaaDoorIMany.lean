import Derived.Test.YtdllhkjdckcgmaaDoorIOps
namespace Go.Proofs.YtdllhkjdckcgmaaDoor
open Go.RowKit Go.Sort
set_option linter.unusedVariables false

theorem filter_short {x : ByteArray} : ∀ {b : List ByteArray}, x ∈ b → (b.filter (fun y => !decide (y = x))).length + 1 ≤ b.length
  | y :: b, h => by
    by_cases e : y = x
    · rw [List.filter_cons, if_neg (by simp [e])]
      have := List.length_filter_le (fun y => !decide (y = x)) b
      simp only [List.length_cons]; omega
    · have hx : x ∈ b := (List.mem_cons.1 h).resolve_left (fun e' => e e'.symm)
      have := filter_short hx
      rw [List.filter_cons, if_pos (by simp [e])]
      simp only [List.length_cons]; omega
theorem nodup_len {a : List ByteArray} : ∀ {b : List ByteArray}, a.Nodup → (∀ x ∈ a, x ∈ b) → a.length ≤ b.length := by
  induction a with
  | nil => intro b _ _; simp
  | cons x a ih =>
    intro b hn hs
    obtain ⟨hx, hn'⟩ := List.nodup_cons.1 hn
    have h1 := ih (b := b.filter (fun y => !decide (y = x))) hn' (fun y hy => List.mem_filter.2 ⟨hs y (by simp [hy]), by
      have : y ≠ x := fun e => hx (by rw [← e]; exact hy)
      simp [this]⟩)
    have h2 := filter_short (hs x (by simp))
    simp only [List.length_cons]; omega
theorem nthO_snoc_lt (l : List Ao) (o : Ao) {i : Nat} (h : i < l.length) : nthO (l ++ [o]) i = nthO l i := by rw [nthO, nthO, List.getElem?_append_left h]
theorem nthO_snoc_eq (l : List Ao) (o : Ao) : nthO (l ++ [o]) l.length = o := by simp [nthO]
theorem setO_append (a b : List Ao) (key : ByteArray) : setO (a ++ b) key = (setO a key || setO b key) := by simp [setO]
theorem last_set {l : List Ao} {key : ByteArray} (h : (getL (chs l) key).isSome = true) : ∃ i, i < l.length ∧ (nthO l i).k = 2 ∧ (nthO l i).key = key ∧ setO (l.drop (i + 1)) key = false := by
  induction l using snoc_ind with
  | nil => simp [chs, getL] at h
  | snoc l o ih =>
    by_cases hm : o.k = 2 ∧ o.key = key
    · refine ⟨l.length, by simp, by rw [nthO_snoc_eq]; exact hm.1, by rw [nthO_snoc_eq]; exact hm.2, ?_⟩
      rw [List.drop_of_length_le (by simp)]; rfl
    · rw [getL_chs_snoc] at h
      have h' : (getL (chs l) key).isSome = true := by
        by_cases hk : o.key = key
        · rw [if_pos hk, if_neg (fun e => hm ⟨e, hk⟩)] at h
          split at h
          · simp at h
          · exact h
        · rw [if_neg hk] at h; exact h
      obtain ⟨i, hi, h1, h2, h3⟩ := ih h'
      refine ⟨i, by simp; omega, by rw [nthO_snoc_lt l o hi]; exact h1, by rw [nthO_snoc_lt l o hi]; exact h2, ?_⟩
      rw [List.drop_append_of_le_length (by omega), setO_append, h3]
      simp only [setO, List.any_cons, List.any_nil, Bool.or_false, Bool.false_or, Bool.and_eq_false_iff, decide_eq_false_iff_not]
      by_cases hk : o.key = key
      · exact .inl fun e => hm ⟨e, hk⟩
      · exact .inr hk
/-- the last set of a key that is there at the end -/
def manyB (l : List Ao) (i : Nat) : Bool := (getL (chs l) (nthO l i).key).isSome && decide ((nthO l i).k = 2) && !setO (l.drop (i + 1)) (nthO l i).key
def many (l : List Ao) (j : Nat) : Nat := ((List.range j).filter (manyB l)).length
theorem many_succ (l : List Ao) (j : Nat) : many l (j + 1) = many l j + (if manyB l j then 1 else 0) := by
  unfold many
  rw [List.range_succ, List.filter_append, List.length_append]
  congr 1
  by_cases h : manyB l j = true <;> simp [h]
theorem many_le (l : List Ao) (j : Nat) : many l j ≤ j := by
  have := List.length_filter_le (manyB l) (List.range j)
  simpa [many] using this
theorem setO_drop {l : List Ao} {i j : Nat} (hij : i < j) (hj : j < l.length) (h2 : (nthO l j).k = 2) : setO (l.drop (i + 1)) (nthO l j).key = true := by
  refine List.any_eq_true.2 ⟨nthO l j, ?_, by simp [h2]⟩
  have : (l.drop (i + 1))[j - (i + 1)]? = some (nthO l j) := by
    rw [List.getElem?_drop, show i + 1 + (j - (i + 1)) = j by omega, List.getElem?_eq_getElem hj, nthO, List.getElem?_eq_getElem hj]; rfl
  exact List.mem_of_getElem? this
theorem keys_nodup {l : List En} (h : Rising l) : (l.map (fun e => e.1)).Nodup := by
  rw [List.Nodup, List.pairwise_map]
  exact List.Pairwise.imp (fun hab => lt_ne hab) h
theorem many_is (l : List Ao) : many l l.length = (ixL (chs l)).length := by
  have hk : ∀ i ∈ (List.range l.length).filter (manyB l), i < l.length ∧ (getL (chs l) (nthO l i).key).isSome = true ∧ (nthO l i).k = 2 ∧ setO (l.drop (i + 1)) (nthO l i).key = false := fun i hi => by
    rw [List.mem_filter, List.mem_range] at hi
    simp only [manyB, Bool.and_eq_true, decide_eq_true_eq, Bool.not_eq_true'] at hi
    exact ⟨hi.1, hi.2.1.1, hi.2.1.2, hi.2.2⟩
  have hn1 : (((List.range l.length).filter (manyB l)).map (fun i => (nthO l i).key)).Nodup := by
    rw [List.Nodup, List.pairwise_map]
    have hr : ((List.range l.length).filter (manyB l)).Pairwise (· < ·) := List.Pairwise.filter _ List.pairwise_lt_range
    refine List.Pairwise.imp_of_mem ?_ hr
    intro i j hi hj hij e
    obtain ⟨h1, h2, h3, h4⟩ := hk i hi
    obtain ⟨g1, g2, g3, g4⟩ := hk j hj
    have := setO_drop hij g1 g3
    rw [← e, h4] at this
    cases this
  have hn2 := keys_nodup (ixL_rising (chs l))
  have e1 := nodup_len hn1 (b := (ixL (chs l)).map (fun e => e.1)) (fun x hx => by
    obtain ⟨i, hi, rfl⟩ := List.mem_map.1 hx
    obtain ⟨h1, h2, h3, h4⟩ := hk i hi
    obtain ⟨v, hv⟩ := Option.isSome_iff_exists.1 h2
    exact List.mem_map.2 ⟨(_, v), (ixL_mem _ _ _).2 hv, rfl⟩)
  have e2 := nodup_len hn2 (b := ((List.range l.length).filter (manyB l)).map (fun i => (nthO l i).key)) (fun x hx => by
    obtain ⟨⟨k, v⟩, hm, rfl⟩ := List.mem_map.1 hx
    have hs : (getL (chs l) k).isSome = true := by rw [(ixL_mem _ _ _).1 hm]; rfl
    obtain ⟨i, hi, h1, h2, h3⟩ := last_set hs
    refine List.mem_map.2 ⟨i, List.mem_filter.2 ⟨List.mem_range.2 hi, ?_⟩, h2⟩
    simp [manyB, h1, h2, h3, hs])
  simp only [List.length_map] at e1 e2
  unfold many
  omega
theorem nil_toList : (⟨#[]⟩ : ByteArray).toList = [] := by rw [ByteArray.toList_eq]
theorem lt_nil (k : ByteArray) : lt k ⟨#[]⟩ = false := by
  unfold lt
  rw [nil_toList]
  cases k.toList <;> rfl
theorem range_all (l : List En) : rangeX l ⟨#[]⟩ ⟨#[]⟩ = l := by
  rw [rangeX, List.filter_eq_self]
  intro e _
  simp only [inS, lt_nil, nil_toList]
  rfl

/-- a row of texts -/
def nthT (l : List ByteArray) (i : Nat) : ByteArray := (l[i]?).getD ⟨#[]⟩
def RowT (w : World) (a : Option Addr) (l : List ByteArray) : Prop := ∀ i, i < l.length → ∃ b off, a = some ⟨b, off, none⟩ ∧ w.cell? ⟨b, off + i, none⟩ = some (.string (nthT l i))
theorem RowT.later {w w' : World} {a : Option Addr} {l : List ByteArray} (h : RowT w a l) (hb : Below w.heap.size w w') : RowT w' a l := fun i hi => by
  obtain ⟨b, off, e, h0⟩ := h i hi
  exact ⟨b, off, e, cell_later hb h0⟩
theorem rowT_of_owns {w : World} {base : Nat} {v : Value} {l : List ByteArray} (h : w.ownsRow base 9 1 v l.length (l.map Value.string)) : ∃ a c, v = .slice a l.length c ∧ RowT w a l := by
  have h' := h
  obtain ⟨hl, ⟨rfl, h0⟩ | ⟨g, cap, cur, rfl, _⟩⟩ := h'
  · exact ⟨none, 0, by rw [h0], fun i hi => by omega⟩
  · refine ⟨_, cap, rfl, fun i hi => ⟨g, 0, rfl, ?_⟩⟩
    have hc := h.cellAt i (by simpa using hi)
    rw [Nat.zero_add, hc, List.getElem?_map, nthT, List.getElem?_eq_getElem hi]; rfl

end Go.Proofs.YtdllhkjdckcgmaaDoor
