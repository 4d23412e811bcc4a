import Derived.Test.YtfkiccdjffhhhaaGreatDoorRdLines
import Derived.Test.YtfkiccdjffhhhaaGreatDoorSnText
/- A valid configuration's text, read. Plain. -/
namespace Go.Proofs.YtfkiccdjffhhhaaGreatDoor.Rt
set_option linter.unusedVariables false

def Cf.wN (c : Cf) : Nat → List UInt8
  | 0 => Lib.itoa c.sh
  | 1 => Lib.itoa c.cl
  | 2 => Lib.itoa c.ca
  | 3 => Lib.itoa c.pk
  | _ => Lib.decDigits c.wi.toNat
def Cf.vN (c : Cf) : Nat → Nat
  | 0 => c.sh.toNat
  | 1 => c.cl.toNat
  | 2 => c.ca.toNat
  | 3 => c.pk.toNat
  | _ => c.wi.toNat
def Cf.wS (c : Cf) : List (List UInt8) := c.ss.map (fun s => (ofNats (wordL (nums s))).data.toList)
theorem line_data (k : Nat) (n t : ByteArray) (h : n.data.toList = nm k) : (lineB n t).data.toList = ln k t.data.toList ++ [10] := by
  unfold lineB ln
  simp [ByteArray.data_append, h]
theorem flat_app (a b : List (List UInt8)) : flat (a ++ b) = flat a ++ flat b := by simp [flat]
theorem flat_cons (l : List UInt8) (b : List (List UInt8)) : flat (l :: b) = l ++ 10 :: flat b := by simp [flat]
theorem spl_data : ∀ (ss : List ByteArray) (t : ByteArray), (spl ss t).data.toList = t.data.toList ++ flat (ss.map fun s => ln 5 (ofNats (wordL (nums s))).data.toList)
  | [], t => by simp [spl, flat]
  | s :: ss, t => by
    rw [spl, spl_data ss, ByteArray.data_append, Array.toList_append, line_data 5 _ _ rfl, List.map_cons, flat_cons]
    simp
theorem text_flat (c : Cf) : c.text.data.toList = flat (lines c.wN c.wS) := by
  unfold Cf.text
  rw [spl_data]
  unfold Cf.head
  simp only [ByteArray.data_append, Array.toList_append]
  rw [line_data 0 _ _ rfl, line_data 1 _ _ rfl, line_data 2 _ _ rfl, line_data 3 _ _ rfl, line_data 4 _ _ rfl]
  unfold lines
  rw [flat_app]
  simp only [List.map_cons, List.map_nil, flat_cons, Cf.wS, List.map_map]
  simp [flat, itB, dec, Cf.wN, Function.comp_def]
theorem itoa_dec {i : Int} (h : 0 ≤ i) : Lib.itoa i = Lib.decDigits i.toNat := by unfold Lib.itoa; rw [if_neg (by omega)]
section
variable {c : Cf}
theorem wN_dec (hc : c.okB = true) : ∀ k, c.wN k = Lib.decDigits (c.vN k) := by
  have h := ok_nums hc
  intro k
  match k with
  | 0 => exact itoa_dec (by omega)
  | 1 => exact itoa_dec (by omega)
  | 2 => exact itoa_dec (by omega)
  | 3 => exact itoa_dec (by omega)
  | _ + 4 => rfl
theorem vN_lt (hc : c.okB = true) (hw : 0 ≤ c.wi ∧ c.wi ≤ 18446744073709551615) : ∀ k, c.vN k < 18446744073709551616 := by
  have h := ok_nums hc
  intro k
  match k with
  | 0 => show c.sh.toNat < _; omega
  | 1 => show c.cl.toNat < _; omega
  | 2 => show c.ca.toNat < _; omega
  | 3 => show c.pk.toNat < _; omega
  | _ + 4 => show c.wi.toNat < _; omega
theorem num_wN (hc : c.okB = true) (hw : 0 ≤ c.wi ∧ c.wi ≤ 18446744073709551615) (k : Nat) : num (c.wN k) = some (some (c.vN k)) := by
  rw [wN_dec hc]; exact num_dec (vN_lt hc hw k)
theorem wS_word : c.wS.map (fun w => unword (w.map UInt8.toNat)) = (c.ss.map nums).map some := by
  unfold Cf.wS
  rw [List.map_map, List.map_map]
  refine List.map_congr_left fun s _ => ?_
  show unword (nums (ofNats (wordL (nums s)))) = some (nums s)
  rw [nums_ofNats, unword_word (nums_b8 s)]
  exact fun b hb => by have := wordL_range (nums_b8 s) b hb; omega
theorem nm_no10 (k : Nat) : (10 : UInt8) ∉ nm k := by
  unfold nm
  split <;> decide
theorem wN_no10 (hc : c.okB = true) (k : Nat) : (10 : UInt8) ∉ ln k (c.wN k) := by
  rw [wN_dec hc]
  unfold ln
  intro h
  rcases List.mem_append.1 h with h | h
  · exact nm_no10 k h
  · rcases List.mem_cons.1 h with h | h
    · exact absurd h (by decide)
    · have := ((dec_digits _ (c.vN k) (Nat.le_refl _)).1 10 h).1
      exact absurd this (by decide)
theorem wS_no10 : ∀ l ∈ c.wS.map (ln 5), (10 : UInt8) ∉ l := by
  intro l hl h
  obtain ⟨w, hw, rfl⟩ := List.mem_map.1 hl
  obtain ⟨s, _, rfl⟩ := List.mem_map.1 hw
  unfold ln at h
  rcases List.mem_append.1 h with h | h
  · exact nm_no10 5 h
  · rcases List.mem_cons.1 h with h | h
    · exact absurd h (by decide)
    · have h10 : (10 : Nat) ∈ nums (ofNats (wordL (nums s))) := List.mem_map.2 ⟨10, h, rfl⟩
      have hb : B8 (wordL (nums s)) := fun b hb => by have := wordL_range (nums_b8 s) b hb; omega
      rw [nums_ofNats hb] at h10
      have := wordL_range (nums_b8 s) _ h10
      omega
/-- the lines of the five in any order, and the split keys' -/
def Cf.part (c : Cf) (o : List Nat) : List (List UInt8) := o.map (fun k => ln k (c.wN k)) ++ c.wS.map (ln 5)
theorem lns_part (hc : c.okB = true) (o : List Nat) : lns (flat (c.part o)) = o.map (fun k => ln k (c.wN k)) ++ (c.wS.map (ln 5) ++ [[]]) := by
  have h := lns_flat (ls := c.part o) (t := []) (fun l hl => by
    rcases List.mem_append.1 hl with h | h
    · obtain ⟨k, _, rfl⟩ := List.mem_map.1 h; exact wN_no10 hc k
    · exact wS_no10 l h)
  rw [List.append_nil] at h
  rw [h]
  show c.part o ++ [[]] = _
  unfold Cf.part
  rw [List.append_assoc]
/-- one of the five moved to the front -/
def front (x : Nat) : List Nat := x :: [0, 1, 2, 3, 4].erase x
theorem front_mem {x : Nat} (hx : x < 5) : (∀ k, k ∈ front x ↔ k < 5) ∧ (front x).Nodup := by
  match x, hx with
  | 0, _ | 1, _ | 2, _ | 3, _ | 4, _ =>
    refine ⟨fun k => ?_, by decide⟩
    simp [front]
    omega
theorem rest_mem {x : Nat} (hx : x < 5) : (∀ k ∈ [0, 1, 2, 3, 4].erase x, k < 5 ∧ k ≠ x) ∧ ([0, 1, 2, 3, 4].erase x).Nodup := by
  match x, hx with
  | 0, _ | 1, _ | 2, _ | 3, _ | 4, _ => refine ⟨by decide, by decide⟩
theorem run_text (hc : c.okB = true) (hw : 0 ≤ c.wi ∧ c.wi ≤ 18446744073709551615) : runL (lns c.text.data.toList) Dr.none false = (0, Dr.of c.vN (c.ss.map nums)) := by
  rw [text_flat]
  show runL (lns (flat (c.part [0, 1, 2, 3, 4]))) Dr.none false = _
  rw [lns_part hc]
  exact run_whole [0, 1, 2, 3, 4] (fun k _ => num_wN hc hw k) wS_word (fun k => by simp; omega) (by decide)
theorem run_front (hc : c.okB = true) (hw : 0 ≤ c.wi ∧ c.wi ≤ 18446744073709551615) {x : Nat} (hx : x < 5) : runL (lns (flat (c.part (front x)))) Dr.none false = (0, Dr.of c.vN (c.ss.map nums)) := by
  rw [lns_part hc]
  exact run_whole (front x) (fun k _ => num_wN hc hw k) wS_word (front_mem hx).1 (front_mem hx).2
theorem run_rest (hc : c.okB = true) (hw : 0 ≤ c.wi ∧ c.wi ≤ 18446744073709551615) {x : Nat} (hx : x < 5) : (runL (lns (flat (c.part ([0, 1, 2, 3, 4].erase x)))) Dr.none false).1 = 1 := by
  rw [lns_part hc]
  exact run_less _ hx (fun k _ => num_wN hc hw k) wS_word (rest_mem hx).1 (rest_mem hx).2
theorem run_two (hc : c.okB = true) (hw : 0 ≤ c.wi ∧ c.wi ≤ 18446744073709551615) {x : Nat} (hx : x < 5) : (runL (lns (flat (c.part (x :: [0, 1, 2, 3, 4])))) Dr.none false).1 = 1 := by
  rw [lns_part hc]
  show (runL (ln x (c.wN x) :: ([0, 1, 2, 3, 4].map (fun k => ln k (c.wN k)) ++ (c.wS.map (ln 5) ++ [[]]))) Dr.none false).1 = 1
  rw [run_num hx (num_wN hc hw x) rfl]
  refine run_more [0, 1, 2, 3, 4] hx (fun k _ => num_wN hc hw k) _ _ (by simp [Dr.put]) (by decide) ?_
  simp; omega
/-- an empty line or a note ahead -/
theorem run_ahead {n t : List UInt8} (hn : n = [] ∨ ∃ r, n = 35 :: r) (h10 : (10 : UInt8) ∉ n) (d : Dr) (b : Bool) : runL (lns (n ++ 10 :: t)) d b = runL (lns t) d b := by
  rw [lns_line h10]
  rcases hn with rfl | ⟨r, rfl⟩
  · exact run_nil
  · exact run_note
/-! how long it is -/
theorem flat_len : ∀ (ls : List (List UInt8)), (flat ls).length = (ls.map fun l => l.length + 1).sum
  | [] => rfl
  | l :: ls => by rw [flat_cons]; simp [flat_len ls]; omega
theorem dec_len {u n : Nat} (h : u < 10 ^ n) (hn : 1 ≤ n) : (Lib.decDigits u).length ≤ n := by
  induction n generalizing u with
  | zero => omega
  | succ n ih =>
    rw [Lib.decDigits]
    by_cases h1 : u < 10
    · rw [dif_pos h1]; simp
    · rw [dif_neg h1]
      have hn1 : 1 ≤ n := by
        rcases Nat.eq_zero_or_pos n with h0 | h0
        · subst h0; simp at h; omega
        · exact h0
      have := ih (u := u / 10) (by rw [Nat.pow_succ] at h; omega) hn1
      simp; omega
def lb : Nat → Nat
  | 0 => 9
  | 1 => 10
  | 2 => 17
  | 3 => 8
  | _ => 28
theorem part_len (hc : c.okB = true) (hw : 0 ≤ c.wi ∧ c.wi ≤ 18446744073709551615) (o : List Nat) (h5 : ∀ k ∈ o, k < 5) : (flat (c.part o)).length ≤ (o.map lb).sum + 104 * c.ss.length := by
  rw [Cf.part, flat_app, List.length_append, flat_len, flat_len]
  have h1 : ((o.map (fun k => ln k (c.wN k))).map fun l => l.length + 1).sum ≤ (o.map lb).sum := by
    induction o with
    | nil => simp
    | cons k o ih =>
      have hk := h5 k (by simp)
      have hl : (ln k (c.wN k)).length + 1 ≤ lb k := by
        rw [wN_dec hc]
        have h := ok_nums hc
        unfold ln
        match k, hk with
        | 0, _ => have := dec_len (u := c.vN 0) (n := 1) (by show c.sh.toNat < _; omega) (by omega); simp [nm, lb]; omega
        | 1, _ => have := dec_len (u := c.vN 1) (n := 1) (by show c.cl.toNat < _; omega) (by omega); simp [nm, lb]; omega
        | 2, _ => have := dec_len (u := c.vN 2) (n := 7) (by show c.ca.toNat < _; omega) (by omega); simp [nm, lb]; omega
        | 3, _ => have := dec_len (u := c.vN 3) (n := 2) (by show c.pk.toNat < _; omega) (by omega); simp [nm, lb]; omega
        | 4, _ => have := dec_len (u := c.vN 4) (n := 20) (by show c.wi.toNat < _; omega) (by omega); simp [nm, lb]; omega
      have := ih (fun j hj => h5 j (by simp [hj]))
      simp only [List.map_cons, List.sum_cons]
      omega
  have hris : risB c.ss = true := by
    have := hc
    simp only [Cf.okB, Bool.and_eq_true] at this
    exact this.2
  have hkey : ∀ s ∈ c.ss, s.size ≤ 32 := fun s hs => by
    obtain ⟨i, hi, rfl⟩ := List.getElem_of_mem hs
    have := key_size hris hi
    simpa [nthS, hi] using this
  have h2 : ∀ (ss : List ByteArray), (∀ s ∈ ss, s.size ≤ 32) → (((ss.map (fun s => (ofNats (wordL (nums s))).data.toList)).map (ln 5)).map fun l => l.length + 1).sum ≤ 104 * ss.length := fun ss => by
    induction ss with
    | nil => intro _; simp
    | cons s ss ih =>
      intro hs
      have h1 := ih (fun x hx => hs x (by simp [hx]))
      have h0 := hs s (by simp)
      have hl := (wordL_len (nums s)).2
      rw [nums_length] at hl
      have e : (ofNats (wordL (nums s))).data.toList.length = (wordL (nums s)).length := by simp [ofNats]
      have h6 : (ln 5 (ofNats (wordL (nums s))).data.toList).length = 6 + (wordL (nums s)).length := by
        show (nm 5 ++ 32 :: (ofNats (wordL (nums s))).data.toList).length = _
        rw [List.length_append, List.length_cons, e]
        show 5 + _ = _
        omega
      simp only [List.map_cons, List.sum_cons, List.length_cons, h6]
      omega
  have := h2 c.ss hkey
  unfold Cf.wS
  omega
/-- a text, with one of the five moved or not, is short enough -/
theorem part_600 (hc : c.okB = true) (hw : 0 ≤ c.wi ∧ c.wi ≤ 18446744073709551615) {o : List Nat} (ho : o = [0, 1, 2, 3, 4] ∨ ∃ x, x < 5 ∧ o = front x) : (flat (c.part o)).length ≤ 600 := by
  have hss : c.ss.length ≤ 5 := by
    have := hc
    simp only [Cf.okB, wiB, Bool.and_eq_true, decide_eq_true_eq, beq_iff_eq] at this
    omega
  have h5 : ∀ k ∈ o, k < 5 := by
    rcases ho with rfl | ⟨x, hx, rfl⟩
    · decide
    · exact fun k hk => ((front_mem hx).1 k).1 hk
  have hs : (o.map lb).sum = 72 := by
    rcases ho with rfl | ⟨x, hx, rfl⟩
    · rfl
    · match x, hx with
      | 0, _ | 1, _ | 2, _ | 3, _ | 4, _ => rfl
  have := part_len hc hw o h5
  omega
end
end Go.Proofs.YtfkiccdjffhhhaaGreatDoor.Rt
