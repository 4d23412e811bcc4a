import Derived.Test.YtpnbgdbkiokooaaFlAll
/- The tally, in plain words. -/
namespace Go.Proofs.Ytpnbgdbkiokooaa.Fl
open Go.RowKit Go.Sort Go.Proofs.Ytpnbgdbkiokooaa
set_option linter.unusedVariables false

abbrev Tl := List (ByteArray × Int)
def val : Tl → ByteArray → Int
  | [], _ => 0
  | e :: T, m => if e.1 = m then e.2 else val T m
def addT : Tl → ByteArray → Int → Tl
  | [], m, b => [(m, b)]
  | e :: T, m, b => if e.1 = m then (e.1, e.2 + b) :: T else e :: addT T m b
theorem val_add : ∀ (T : Tl) (m k : ByteArray) (b : Int), val (addT T m b) k = val T k + if m = k then b else 0
  | [], m, k, b => by simp only [addT, val]; split <;> simp
  | e :: T, m, k, b => by
    simp only [addT]
    by_cases h : e.1 = m
    · rw [if_pos h]
      simp only [val]
      by_cases hk : e.1 = k
      · rw [if_pos hk, if_pos hk, if_pos (h.symm.trans hk)]
      · rw [if_neg hk, if_neg hk, if_neg (fun e2 => hk (h.trans e2))]; simp
    · rw [if_neg h]
      simp only [val]
      by_cases hk : e.1 = k
      · rw [if_pos hk, if_pos hk, if_neg (fun e2 => h (hk.trans e2.symm))]; simp
      · rw [if_neg hk, if_neg hk]; exact val_add T m k b
abbrev ky (T : Tl) : List ByteArray := T.map (·.1)
abbrev nu (T : Tl) : List Value := T.map fun e => Value.int .i64 e.2
theorem ky_in : ∀ (T : Tl) (m : ByteArray) (b : Int), m ∈ ky T → ky (addT T m b) = ky T
  | [], m, b, h => by simp at h
  | e :: T, m, b, hm => by
    simp only [addT]
    by_cases h : e.1 = m
    · rw [if_pos h]; rfl
    · rw [if_neg h]
      show e.1 :: ky (addT T m b) = _
      rw [ky_in T m b (by
        rcases List.mem_cons.1 (by simpa only [ky, List.map_cons] using hm : m ∈ e.1 :: ky T) with e2 | e2
        · exact absurd e2.symm h
        · exact e2)]
      rfl
theorem ky_out : ∀ (T : Tl) (m : ByteArray) (b : Int), m ∉ ky T → ky (addT T m b) = ky T ++ [m]
  | [], m, b, h => rfl
  | e :: T, m, b, hm => by
    simp only [addT]
    have hm' : m ∉ e.1 :: ky T := hm
    have h : e.1 ≠ m := fun e2 => hm' (by rw [e2]; exact List.mem_cons_self)
    rw [if_neg h]
    show e.1 :: ky (addT T m b) = _
    rw [ky_out T m b (fun e2 => hm' (List.mem_cons_of_mem _ e2))]
    rfl
theorem nod_add {T : Tl} (h : (ky T).Nodup) (m : ByteArray) (b : Int) : (ky (addT T m b)).Nodup := by
  by_cases hm : m ∈ ky T
  · rw [ky_in T m b hm]; exact h
  · rw [ky_out T m b hm, List.nodup_append]
    exact ⟨h, by simp, fun a ha c hc e => hm (by rw [List.mem_singleton] at hc; rw [← hc, ← e]; exact ha)⟩
theorem len_add (T : Tl) (m : ByteArray) (b : Int) : (addT T m b).length ≤ T.length + 1 := by
  by_cases hm : m ∈ ky T
  · have h := congrArg List.length (ky_in T m b hm)
    rw [List.length_map, List.length_map] at h
    omega
  · have h := congrArg List.length (ky_out T m b hm)
    rw [List.length_append, List.length_map, List.length_map] at h
    simp at h
    omega
theorem val_mem : ∀ {T : Tl}, (ky T).Nodup → ∀ e ∈ T, val T e.1 = e.2
  | [], _, e, h => by simp at h
  | x :: T, hn, e, h => by
    have hn' := List.nodup_cons.1 (by simpa [ky] using hn : (x.1 :: ky T).Nodup)
    rcases List.mem_cons.1 h with rfl | h
    · simp [val]
    · have hne : x.1 ≠ e.1 := fun e2 => hn'.1 (by rw [e2]; exact List.mem_map.2 ⟨e, h, rfl⟩)
      simp only [val]
      rw [if_neg hne]
      exact val_mem hn'.2 e h
theorem mem_of_val : ∀ {T : Tl} {m : ByteArray}, val T m ≠ 0 → m ∈ ky T
  | [], m, h => by simp [val] at h
  | e :: T, m, h => by
    simp only [val] at h
    by_cases hm : e.1 = m
    · simp [hm]
    · rw [if_neg hm] at h
      have := mem_of_val h
      simp only [ky, List.map_cons, List.mem_cons]
      exact .inr this
/-- at its place -/
theorem add_at : ∀ (T : Tl) (m : ByteArray) (b : Int) (k : Nat), (∀ j, j < k → nthT (ky T) j ≠ m) → k < T.length → nthT (ky T) k = m → addT T m b = T.set k (m, (T[k]?.getD (mt, 0)).2 + b)
  | [], m, b, k, _, h, _ => by simp at h
  | e :: T, m, b, 0, _, _, h => by
    have h : e.1 = m := by simpa [nthT, ky] using h
    simp [addT, h]
  | e :: T, m, b, k + 1, hj, hk, h => by
    have h0 : e.1 ≠ m := by simpa [nthT, ky] using hj 0 (by omega)
    have ih := add_at T m b k (fun j hjk => by simpa [nthT, ky] using hj (j + 1) (by omega)) (by simpa using hk) (by simpa [nthT, ky] using h)
    simp only [addT]
    rw [if_neg h0, ih]
    simp
theorem add_new : ∀ (T : Tl) (m : ByteArray) (b : Int), (∀ j, j < T.length → nthT (ky T) j ≠ m) → addT T m b = T ++ [(m, b)]
  | [], m, b, _ => rfl
  | e :: T, m, b, hj => by
    have h0 : e.1 ≠ m := by simpa [nthT, ky] using hj 0 (by simp)
    have ih := add_new T m b (fun j hjk => by simpa [nthT, ky] using hj (j + 1) (by simpa using hjk))
    simp only [addT]
    rw [if_neg h0, ih]
    rfl
/-- many at once -/
def addL (T : Tl) (l : List ByteArray) (b : Int) : Tl := l.foldl (fun T m => addT T m b) T
theorem addL_snoc (T : Tl) (l : List ByteArray) (m : ByteArray) (b : Int) : addL T (l ++ [m]) b = addT (addL T l b) m b := by simp [addL, List.foldl_append]
def cnt (m : ByteArray) : List ByteArray → Int
  | [] => 0
  | x :: l => (if x = m then 1 else 0) + cnt m l
theorem cnt_app (m : ByteArray) : ∀ (a b : List ByteArray), cnt m (a ++ b) = cnt m a + cnt m b
  | [], b => by simp [cnt]
  | x :: a, b => by simp only [List.cons_append, cnt, cnt_app m a b]; omega
theorem cnt_bd (m : ByteArray) : ∀ (a : List ByteArray), 0 ≤ cnt m a ∧ cnt m a ≤ a.length
  | [] => by simp [cnt]
  | x :: a => by
    have := cnt_bd m a
    simp only [cnt, List.length_cons]
    split <;> omega
theorem cnt_pos {m : ByteArray} : ∀ {a : List ByteArray}, m ∈ a → 0 < cnt m a
  | [], h => by simp at h
  | x :: a, h => by
    have := (cnt_bd m a).1
    simp only [cnt]
    by_cases e : x = m
    · rw [if_pos e]; omega
    · rw [if_neg e]
      rcases List.mem_cons.1 h with h | h
      · exact absurd h.symm e
      · have := cnt_pos h; omega
theorem cnt_erase (m : ByteArray) : ∀ (a : List ByteArray) (i : Nat), i < a.length → cnt m (a.eraseIdx i) = cnt m a - (if nthT a i = m then 1 else 0)
  | [], i, h => by simp at h
  | x :: a, 0, _ => by
    have e : nthT (x :: a) 0 = x := by simp [nthT]
    rw [e]
    simp only [List.eraseIdx_cons_zero, cnt]; omega
  | x :: a, i + 1, h => by
    have ih := cnt_erase m a i (by simpa using h)
    simp only [List.eraseIdx_cons_succ, cnt, ih]
    have e : nthT (x :: a) (i + 1) = nthT a i := by simp [nthT]
    rw [e]; omega
theorem val_addL (b : Int) (k : ByteArray) : ∀ (l : List ByteArray) (T : Tl), val (addL T l b) k = val T k + b * cnt k l
  | [], T => by simp [addL, cnt]
  | m :: l, T => by
    show val (addL (addT T m b) l b) k = _
    rw [val_addL b k l, val_add]
    simp only [cnt]
    split <;> simp [Int.mul_add] <;> omega
theorem nod_addL (b : Int) : ∀ (l : List ByteArray) {T : Tl}, (ky T).Nodup → (ky (addL T l b)).Nodup
  | [], T, h => h
  | m :: l, T, h => nod_addL b l (nod_add h m b)
theorem len_addL (b : Int) : ∀ (l : List ByteArray) (T : Tl), (addL T l b).length ≤ T.length + l.length
  | [], T => Nat.le_refl _
  | m :: l, T => by
    have h1 := len_addL b l (addT T m b)
    have h2 := len_add T m b
    show (addL (addT T m b) l b).length ≤ _
    rw [List.length_cons]; omega
theorem cnt_rot (m : ByteArray) (xs : List ByteArray) (t : Int) : cnt m (rot xs t) = cnt m xs := by
  have e : xs = xs.take (plc t xs.length) ++ xs.drop (plc t xs.length) := (List.take_append_drop _ _).symm
  have h1 := cnt_app m (xs.take (plc t xs.length)) (xs.drop (plc t xs.length))
  rw [← e] at h1
  rw [rot, cnt_app]
  omega
/-- what holds of the tally: it counts the row -/
structure Tg (T : Tl) (xs : List ByteArray) : Prop where
  nod : (ky T).Nodup
  val : ∀ m, val T m = cnt m xs
theorem Tg.nums {T : Tl} {xs : List ByteArray} (h : Tg T xs) : ∀ e ∈ T, 0 ≤ e.2 ∧ e.2 ≤ xs.length := fun e he => by
  have h1 := val_mem h.nod e he
  have h2 := cnt_bd e.1 xs
  rw [← h.val, h1] at h2
  exact h2
/-- a part of the row taken off again -/
structure Tz (T0 T : Tl) (K : Nat) (f : ByteArray → Int) : Prop where
  nod : (ky T).Nodup
  keys : ky T = ky T0
  val : ∀ m, val T m = f m
  bd : ∀ m, - (K : Int) ≤ f m ∧ f m ≤ K
theorem Tz.nums {T0 T : Tl} {K : Nat} {f : ByteArray → Int} (h : Tz T0 T K f) : ∀ e ∈ T, - (K : Int) ≤ e.2 ∧ e.2 ≤ K := fun e he => by
  have h1 := val_mem h.nod e he
  have h2 := h.bd e.1
  rw [← h.val, h1] at h2
  exact h2
theorem Tz.len {T0 T : Tl} {K : Nat} {f : ByteArray → Int} (h : Tz T0 T K f) : T.length = T0.length := by
  have := congrArg List.length h.keys
  simpa [ky] using this
theorem Tz.add {T0 T : Tl} {K : Nat} {f g : ByteArray → Int} (h : Tz T0 T K f) {m : ByteArray} {b : Int} (hm : m ∈ ky T0) (hg : ∀ k, g k = f k + if m = k then b else 0) (hb : ∀ m, - (K : Int) ≤ g m ∧ g m ≤ K) : Tz T0 (addT T m b) K g :=
  ⟨nod_add h.nod _ _, by rw [ky_in _ _ _ (by rw [h.keys]; exact hm), h.keys], fun k => by rw [val_add, h.val, hg], hb⟩
theorem Tz.zero {T0 T : Tl} {K : Nat} {f : ByteArray → Int} (h : Tz T0 T K f) (hf : ∀ m, f m = 0) : ∀ e ∈ T, e.2 = 0 := fun e he => by
  have h1 := val_mem h.nod e he
  rw [h.val, hf] at h1
  exact h1.symm
end Go.Proofs.Ytpnbgdbkiokooaa.Fl
