import Derived.Test.YtcphmahbhecfaaaXCmp
/- Rows of entries and of transactions, in blocks of their own. -/
namespace Go.Proofs.Ytcphmahbhecfaaa.Lg
open Go.RowKit Go.Sort Go.Shelf Go.Lib Lk
set_option linter.unusedVariables false
section
variable {α : Type} {enc : α → List Value} {k : Nat}
theorem fm_len (hk : ∀ x, (enc x).length = k) : ∀ xs : List α, (xs.flatMap enc).length = xs.length * k
  | [] => by simp
  | x :: xs => by rw [List.flatMap_cons, List.length_append, hk, fm_len hk xs, List.length_cons, Nat.add_mul, Nat.one_mul, Nat.add_comm]
theorem fm_one (h1 : ∀ x, ∀ v ∈ enc x, v.oneCell' = true) (xs : List α) : ∀ v ∈ xs.flatMap enc, v.oneCell' = true := by
  intro v hv
  obtain ⟨x, _, hv⟩ := List.mem_flatMap.1 hv
  exact h1 x v hv
variable [Inhabited α]
theorem fm_get (hk : ∀ x, (enc x).length = k) : ∀ (xs : List α) (i o : Nat), i < xs.length → o < k → (xs.flatMap enc)[i * k + o]? = (enc xs[i]!)[o]?
  | x :: xs, 0, o, _, ho => by
    rw [List.flatMap_cons, List.getElem?_append_left (by rw [hk]; omega)]; simp
  | x :: xs, i + 1, o, hi, ho => by
    have ih := fm_get hk xs i o (by simpa using hi) ho
    rw [List.flatMap_cons, List.getElem?_append_right (by rw [hk, Nat.add_mul]; omega), show (i + 1) * k + o - (enc x).length = i * k + o by rw [hk, Nat.add_mul]; omega, ih]
    simp
theorem flatK_fm (hk : ∀ x, (enc x).length = k) (h0 : 0 < k) (xs : List α) : (flatK enc k xs.toArray).toList = xs.flatMap enc := by
  apply List.ext_getElem?
  intro j
  rw [Array.getElem?_toList]
  by_cases hj : j < xs.length * k
  · have hi : j / k < xs.length := Nat.div_lt_of_lt_mul (by rw [Nat.mul_comm]; exact hj)
    have ho : j % k < k := Nat.mod_lt _ h0
    have h := fm_get hk xs (j / k) (j % k) hi ho
    rw [show j / k * k + j % k = j by rw [Nat.mul_comm]; exact Nat.div_add_mod j k] at h
    have ho' : j % k < (enc xs[j / k]!).length := by rw [hk]; exact ho
    have hsz : j < (flatK enc k xs.toArray).size := by rw [size_flatK]; simpa using hj
    rw [h, List.getElem?_eq_getElem ho', Array.getElem?_eq_getElem hsz]
    have := get_flatK enc k xs.toArray j (by simpa using hj)
    rw [getElem!_pos _ j hsz] at this
    rw [this]
    simp only [List.getElem!_toArray]
    rw [getElem!_pos (enc xs[j / k]!) (j % k) ho']
  · have e1 : (flatK enc k xs.toArray)[j]? = none := Array.getElem?_eq_none (by rw [size_flatK]; simpa using hj)
    have e2 : (xs.flatMap enc)[j]? = none := List.getElem?_eq_none (by rw [fm_len hk]; omega)
    rw [e1, e2]
variable {T : TypeId} {w : World} {B g n c : Nat} {xs ys : List α}
theorem holds_row (hk : ∀ x, (enc x).length = k) (h0 : 0 < k) (h : w.ownsRow B T k (.slice (some ⟨g, 0, none⟩) n c) n (xs.flatMap enc)) : HoldsK enc k w g 0 xs.toArray := by
  obtain ⟨hl, ⟨e1, _⟩ | ⟨g', cap, cur, e1, hB, hh, h1, h2, h3, h4⟩⟩ := h
  · cases e1
  · injection e1 with e1
    injection e1 with e1
    injection e1 with e1
    subst e1
    intro j hj
    rw [size_flatK] at hj
    have hj' : j < xs.length * k := by simpa using hj
    have hv : (flatK enc k xs.toArray)[j]? = (xs.flatMap enc)[j]? := by rw [← Array.getElem?_toList, flatK_fm hk h0]
    have hlt : j < (xs.flatMap enc).length := by rw [fm_len hk]; exact hj'
    have hsz : j < (flatK enc k xs.toArray).size := by rw [size_flatK]; exact hj
    have hc : cur[j]? = (flatK enc k xs.toArray)[j]? := by
      rw [hv, ← h4, List.getElem?_take]
      rw [if_pos (by rw [← hl]; exact hlt)]
      simp
    constructor
    · rw [Nat.zero_add]
      refine cell_of_obj hh ?_
      rw [hc, getElem!_pos _ j hsz, Array.getElem?_eq_getElem hsz]; rfl
    · simp [World.frozen?, hh]
theorem sorted_row (hk : ∀ x, (enc x).length = k) (h0 : 0 < k) (h : w.ownsRow B T k (.slice (some ⟨g, 0, none⟩) n c) n (xs.flatMap enc)) (hy : ys.length = xs.length) (m : Nat) (os : Array Obj) :
    (sortWorldK enc k w g 0 m ys.toArray os).ownsRow B T k (.slice (some ⟨g, 0, none⟩) n c) n (ys.flatMap enc) ∧ Onl (fun b => b = g) w (sortWorldK enc k w g 0 m ys.toArray os) := by
  obtain ⟨hl, ⟨e1, _⟩ | ⟨g', cap, cur, e1, hB, hh, h1, h2, h3, h4⟩⟩ := h
  · cases e1
  · injection e1 with e1 e2 e3
    injection e1 with e1
    injection e1 with e1
    subst e1 e3
    have hlt : g < w.heap.size := (Array.getElem?_eq_some_iff.1 hh).1
    have hly : (ys.flatMap enc).length = n * k := by rw [fm_len hk, hy, ← fm_len hk, hl]
    constructor
    · refine ⟨hly, .inr ⟨g, c, putCells id 0 (flatK enc k ys.toArray) cur, rfl, hB, ?_, h1, h2, ?_, ?_⟩⟩
      · unfold sortWorldK grow putRowK putRow mapBlock Sort.ahead
        simp only
        rw [Array.getElem?_append_left (by simpa using hlt), Array.getElem?_modify, if_pos rfl, hh]
        rfl
      · simp [putCells, h3]
      · apply List.ext_getElem?
        intro j
        rw [List.getElem?_take, ← flatK_fm hk h0, Array.getElem?_toList, Array.getElem?_toList]
        have hs : (flatK enc k ys.toArray).size = n * k := by rw [size_flatK]; simpa [fm_len hk] using hly
        by_cases hj : j < n * k
        · have hjc : j < cur.size := by rw [h3]; exact Nat.lt_of_lt_of_le hj (Nat.mul_le_mul_right _ h1)
          have hjf : j < (flatK enc k ys.toArray).size := by rw [hs]; exact hj
          rw [if_pos hj]
          simp only [putCells, Array.getElem?_mapIdx, Array.getElem?_eq_getElem hjc, Option.map_some, Array.getElem?_eq_getElem hjf]
          simp [hs, hj]
        · rw [if_neg hj, Array.getElem?_eq_none (by rw [hs]; omega)]
    · refine ⟨rfl, rfl, rfl, by simp [sortWorldK, grow, putRowK, putRow, mapBlock, Sort.ahead], fun b hb hne => ?_⟩
      unfold sortWorldK grow putRowK putRow mapBlock Sort.ahead
      simp only
      rw [Array.getElem?_append_left (by simpa using hb), Array.getElem?_modify, if_neg (fun e => hne e.symm)]
theorem perm_of {d d' : Array α} (h : PermIn 0 d.size d d') : d'.toList.Perm d.toList := by
  obtain ⟨h1, _, h2⟩ := h
  have e1 : d'.extract 0 d.size = d' := by rw [← h1]; simp
  have e2 : d.extract 0 d.size = d := by simp
  rwa [e1, e2] at h2
theorem sorted_of {lt : α → α → Bool} {d : Array α} (h : SortedIn lt 0 d.size d) : d.toList.Pairwise (fun x y => lt y x = false) := by
  rw [List.pairwise_iff_getElem]
  intro i j hi hj hij
  have := h i j (Nat.zero_le _) hij (by simpa using hj)
  rwa [getElem!_pos _ j (by simpa using hj), getElem!_pos _ i (by simpa using hi)] at this
end
theorem own_cells {w : World} {B n size : Nat} {e : TypeId} {a : Option Addr} {c : Nat} {xs : List Value} (h : w.ownsRow B e size (.slice a n c) n xs) (hn : 0 < n) : ∃ g, a = some ⟨g, 0, none⟩ ∧ B ≤ g ∧ ∀ j v, xs[j]? = some v → w.cell? ⟨g, j, none⟩ = some v := by
  obtain ⟨hl, ⟨e1, rfl⟩ | ⟨g, cap, cur, e1, hB, hh, h1, h2, h3, h4⟩⟩ := h
  · omega
  · injection e1 with e1 _ _
    subst e1
    refine ⟨g, rfl, hB, fun j v hj => cell_of_obj hh ?_⟩
    rw [← h4] at hj
    rw [List.getElem?_take] at hj
    split at hj
    · simpa using hj
    · cases hj
theorem info_of {P : Program} {t : TypeId} {z : Value} {n m : Nat} (h : (P.info? t).map (fun i => (i.zero, i.size, i.bytes)) = some (some z, n, m)) : ∃ i, P.info? t = some i ∧ i.zero = some z ∧ i.size = n ∧ i.bytes = m := by
  cases hi : P.info? t with
  | none => rw [hi] at h; cases h
  | some i =>
    rw [hi] at h
    simp only [Option.map_some, Option.some.injEq, Prod.mk.injEq] at h
    exact ⟨i, rfl, h.1, h.2.1, h.2.2⟩
theorem owns_base {w : World} {B B' size n : Nat} {e : TypeId} {v : Value} {xs : List Value} (h : w.ownsRow B e size v n xs) (hb : B' ≤ B) : w.ownsRow B' e size v n xs := by
  obtain ⟨h1, h2 | ⟨g, cap, cur, e1, hB, hh⟩⟩ := h
  · exact ⟨h1, .inl h2⟩
  · exact ⟨h1, .inr ⟨g, cap, cur, e1, Nat.le_trans hb hB, hh⟩⟩
theorem own_le {w : World} {B n size : Nat} {e : TypeId} {v : Value} {xs : List Value} (h : w.ownsRow B e size v n xs) : n ≤ 9223372036854775807 := by
  obtain ⟨_, ⟨_, e1⟩ | ⟨g, cap, cur, e1, _, _, h1, h2, _⟩⟩ := h
  · omega
  · simp only [maxLen] at h2; omega

theorem own_type {w : World} {B n size : Nat} {e : TypeId} {v : Value} {xs : List Value} (h : w.ownsRow B e size v n xs) {g : Nat} (hg : v.ownBlock = some g) : ∃ cur, w.heap[g]? = some (.cells cur e (0, 0)) := by
  obtain ⟨_, ⟨e1, _⟩ | ⟨g', cap, cur, e1, _, hh, _⟩⟩ := h
  · subst e1; simp [Value.ownBlock] at hg
  · subst e1; simp [Value.ownBlock] at hg; subst hg; exact ⟨cur, hh⟩
theorem own_apart {w : World} {B B' n n' size size' : Nat} {e e' : TypeId} {v v' : Value} {xs xs' : List Value} (h : w.ownsRow B e size v n xs) (h' : w.ownsRow B' e' size' v' n' xs') (hne : e ≠ e') {g : Nat} (hg : v.ownBlock = some g) : v'.ownBlock ≠ some g := fun hg' => by
  obtain ⟨c1, e1⟩ := own_type h hg
  obtain ⟨c2, e2⟩ := own_type h' hg'
  rw [e1] at e2
  injection e2 with e2
  injection e2 with _ e2
  exact hne e2

theorem ecs_len (v : En) : (ecs v).length = 7 := rfl
theorem ecs_one (v : En) : ∀ x ∈ ecs v, x.oneCell' = true := by
  intro x hx
  simp [ecs] at hx
  rcases hx with rfl | rfl | rfl | rfl | rfl | rfl | rfl <;> rfl
abbrev tcs (v : Ix) : List Value := [.int .u32 v.1, .int .u32 v.2]
theorem tcs_len (v : Ix) : (tcs v).length = 2 := rfl
theorem tcs_one (v : Ix) : ∀ x ∈ tcs v, x.oneCell' = true := by
  intro x hx
  simp [tcs] at hx
  rcases hx with rfl | rfl <;> rfl
/-- rows of entries, of transactions, in blocks of their own from B on -/
def OwnL (B : Nat) (w : World) (v : Value) (n : Nat) (U : List En) : Prop := w.ownsRow B 36 7 v n (U.flatMap ecs)
def OwnX (B : Nat) (w : World) (v : Value) (n : Nat) (U : List Ix) : Prop := w.ownsRow B 30 2 v n (U.flatMap tcs)
theorem infoEn : (Try.prog.info? 36).map (fun i => (i.zero, i.size, i.bytes)) = some (some (En.val En.zero), 7, 40) := by kernel_rfl
theorem infoTx : (Try.prog.info? 30).map (fun i => (i.zero, i.size, i.bytes)) = some (some (ixv (0, 0)), 2, 8) := by kernel_rfl
end Go.Proofs.Ytcphmahbhecfaaa.Lg
