import Derived.Test.YthenfioddnkjbaaGreatDoorRxNumE
import Derived.Test.YthenfioddnkjbaaGreatDoorRMay
import Derived.Deep.RegionHeld3
import Derived.Test.YthenfioddnkjbaaGreatDoorRxNum
import Derived.Test.YthenfioddnkjbaaGreatDoorRzMark
import Derived.Test.YthenfioddnkjbaaGreatDoorRyAll
/- What was said, as a configuration. -/
namespace Go.Proofs.YthenfioddnkjbaaGreatDoor.Rt
open Go.RowKit Go.Sort
set_option linter.unusedVariables false

set_option maxRecDepth 16000 in
set_option maxHeartbeats 4000000 in
theorem config_is {w : World} {p : Nat} {d : Dr} {va : Option Addr} {vn vc : Nat} (h : BoxD w p d (.slice va vn vc)) (hd : ∀ k, (d.f k).getD 0 < 18446744073709551616) :
    Calls Tryz.prog 54 #[.pointer (some ⟨p, 0, none⟩)] w fun e w' => e = .returned (.agg #[.int .i64 (smallN ((d.f 0).getD 0) : Nat), .int .i64 (smallN ((d.f 1).getD 0) : Nat), .slice va vn vc, .int .i64 (smallN ((d.f 2).getD 0) : Nat), .int .i64 (smallN ((d.f 3).getD 0) : Nat), .int .u64 ((d.f 4).getD 0 : Nat)]) ∧ Below w.heap.size w w' := by
  have S0 := hid fun wz (hb : Below w.heap.size w wz) => small_is (w := wz) (p := p) (o := 0) (hd 0) (cell_later hb h.v0)
  have S1 := hid fun wz (hb : Below w.heap.size w wz) => small_is (w := wz) (p := p) (o := 2) (hd 1) (cell_later hb h.v1)
  have S2 := hid fun wz (hb : Below w.heap.size w wz) => small_is (w := wz) (p := p) (o := 4) (hd 2) (cell_later hb h.v2)
  have S3 := hid fun wz (hb : Below w.heap.size w wz) => small_is (w := wz) (p := p) (o := 6) (hd 3) (cell_later hb h.v3)
  have c4 := h.v4
  have c10 := h.sp
  generalize smallN ((d.f 0).getD 0) = n0 at S0 ⊢
  generalize smallN ((d.f 1).getD 0) = n1 at S1 ⊢
  generalize smallN ((d.f 2).getD 0) = n2 at S2 ⊢
  generalize smallN ((d.f 3).getD 0) = n3 at S3 ⊢
  generalize (d.f 4).getD 0 = n4 at c4 ⊢
  clear h hd
  go_enter Tryz.func54, Tryz.ntmps54
  go_upto_region 1 with fail
  go_region_held3 (fun ws => ws.cell? ⟨p, 9, none⟩ = some (.int .u64 n4) ∧ ws.cell? ⟨p, 10, none⟩ = some (.slice va vn vc) ∧ Below w.heap.size w ws)
    ((refine (fun (hB : Below w.heap.size w _) => ⟨cell_later hB c4, cell_later hB c10, hB⟩) ?_; (repeat (first | with_reducible exact Below.refl _ _ | with_reducible assumption | with_reducible refine Below.drew ?_ | with_reducible refine Below.al ?_ _ | with_reducible refine Below.setCell ?_ (by first | exact Nat.le_refl _ | (simp; omega) | (simp; done)) _ | with_reducible refine Below.on ?_ (by assumption)))))
    (first | (go_at_call_of 90 (Value.pointer (some ⟨p, 0, none⟩)); refine (S0.out _ ?_).mono ?_; ((repeat (first | with_reducible exact Below.refl _ _ | with_reducible assumption | with_reducible refine Below.drew ?_ | with_reducible refine Below.al ?_ _ | with_reducible refine Below.setCell ?_ (by first | exact Nat.le_refl _ | (simp; omega) | (simp; done)) _ | with_reducible refine Below.on ?_ (by assumption)))); rintro e w1 ⟨rfl, rfl⟩) | (go_at_call_of 90 (Value.pointer (some ⟨p, 2, none⟩)); refine (S1.out _ ?_).mono ?_; ((repeat (first | with_reducible exact Below.refl _ _ | with_reducible assumption | with_reducible refine Below.drew ?_ | with_reducible refine Below.al ?_ _ | with_reducible refine Below.setCell ?_ (by first | exact Nat.le_refl _ | (simp; omega) | (simp; done)) _ | with_reducible refine Below.on ?_ (by assumption)))); rintro e w1 ⟨rfl, rfl⟩) | (go_at_call_of 90 (Value.pointer (some ⟨p, 4, none⟩)); refine (S2.out _ ?_).mono ?_; ((repeat (first | with_reducible exact Below.refl _ _ | with_reducible assumption | with_reducible refine Below.drew ?_ | with_reducible refine Below.al ?_ _ | with_reducible refine Below.setCell ?_ (by first | exact Nat.le_refl _ | (simp; omega) | (simp; done)) _ | with_reducible refine Below.on ?_ (by assumption)))); rintro e w1 ⟨rfl, rfl⟩) | (go_at_call_of 90 (Value.pointer (some ⟨p, 6, none⟩)); refine (S3.out _ ?_).mono ?_; ((repeat (first | with_reducible exact Below.refl _ _ | with_reducible assumption | with_reducible refine Below.drew ?_ | with_reducible refine Below.al ?_ _ | with_reducible refine Below.setCell ?_ (by first | exact Nat.le_refl _ | (simp; omega) | (simp; done)) _ | with_reducible refine Below.on ?_ (by assumption)))); rintro e w1 ⟨rfl, rfl⟩))
  all_goals go_wp2_with fail
  refine bodyPost_ret (v := .agg #[.int .i64 (n0 : Nat), .int .i64 (n1 : Nat), .slice va vn vc, .int .i64 (n2 : Nat), .int .i64 (n3 : Nat), .int .u64 (n4 : Nat)]) (by simp [results, Tryz.results54, go_sem]) rfl ⟨rfl, by (repeat (first | with_reducible exact Below.refl _ _ | with_reducible assumption | with_reducible refine Below.drew ?_ | with_reducible refine Below.al ?_ _ | with_reducible refine Below.setCell ?_ (by first | exact Nat.le_refl _ | (simp; omega) | (simp; done)) _ | with_reducible refine Below.on ?_ (by assumption)))⟩
end Go.Proofs.YthenfioddnkjbaaGreatDoor.Rt
/- A valid configuration's text, read. Plain. -/
namespace Go.Proofs.YthenfioddnkjbaaGreatDoor.Rt
set_option linter.unusedVariables false

def Cf.wN (c : Cf) : Nat → List UInt8
  | 0 => Lib.itoa c.sh
  | 1 => Lib.itoa c.cl
  | 2 => Lib.itoa c.ca
  | 3 => Lib.itoa c.pk
  | _ => Lib.decDigits c.wi.toNat
def Cf.vN (c : Cf) : Nat → Nat
  | 0 => c.sh.toNat
  | 1 => c.cl.toNat
  | 2 => c.ca.toNat
  | 3 => c.pk.toNat
  | _ => c.wi.toNat
def Cf.wS (c : Cf) : List (List UInt8) := c.ss.map (fun s => (ofNats (wordL (nums s))).data.toList)
theorem line_data (k : Nat) (n t : ByteArray) (h : n.data.toList = nm k) : (lineB n t).data.toList = ln k t.data.toList ++ [10] := by
  unfold lineB ln
  simp [ByteArray.data_append, h]
theorem flat_app (a b : List (List UInt8)) : flat (a ++ b) = flat a ++ flat b := by simp [flat]
theorem flat_cons (l : List UInt8) (b : List (List UInt8)) : flat (l :: b) = l ++ 10 :: flat b := by simp [flat]
theorem spl_data : ∀ (ss : List ByteArray) (t : ByteArray), (spl ss t).data.toList = t.data.toList ++ flat (ss.map fun s => ln 5 (ofNats (wordL (nums s))).data.toList)
  | [], t => by simp [spl, flat]
  | s :: ss, t => by
    rw [spl, spl_data ss, ByteArray.data_append, Array.toList_append, line_data 5 _ _ rfl, List.map_cons, flat_cons]
    simp
theorem text_flat (c : Cf) : c.text.data.toList = flat (lines c.wN c.wS) := by
  unfold Cf.text
  rw [spl_data]
  unfold Cf.head
  simp only [ByteArray.data_append, Array.toList_append]
  rw [line_data 0 _ _ rfl, line_data 1 _ _ rfl, line_data 2 _ _ rfl, line_data 3 _ _ rfl, line_data 4 _ _ rfl]
  unfold lines
  rw [flat_app]
  simp only [List.map_cons, List.map_nil, flat_cons, Cf.wS, List.map_map]
  simp [flat, itB, dec, Cf.wN, Function.comp_def]
theorem itoa_dec {i : Int} (h : 0 ≤ i) : Lib.itoa i = Lib.decDigits i.toNat := by unfold Lib.itoa; rw [if_neg (by omega)]
section
variable {c : Cf}
theorem wN_dec (hc : c.okB = true) : ∀ k, c.wN k = Lib.decDigits (c.vN k) := by
  have h := ok_nums hc
  intro k
  match k with
  | 0 => exact itoa_dec (by omega)
  | 1 => exact itoa_dec (by omega)
  | 2 => exact itoa_dec (by omega)
  | 3 => exact itoa_dec (by omega)
  | _ + 4 => rfl
theorem vN_lt (hc : c.okB = true) (hw : 0 ≤ c.wi ∧ c.wi ≤ 18446744073709551615) : ∀ k, c.vN k < 18446744073709551616 := by
  have h := ok_nums hc
  intro k
  match k with
  | 0 => show c.sh.toNat < _; omega
  | 1 => show c.cl.toNat < _; omega
  | 2 => show c.ca.toNat < _; omega
  | 3 => show c.pk.toNat < _; omega
  | _ + 4 => show c.wi.toNat < _; omega
theorem num_wN (hc : c.okB = true) (hw : 0 ≤ c.wi ∧ c.wi ≤ 18446744073709551615) (k : Nat) : num (c.wN k) = some (some (c.vN k)) := by
  rw [wN_dec hc]; exact num_dec (vN_lt hc hw k)
theorem wS_word : c.wS.map (fun w => unword (w.map UInt8.toNat)) = (c.ss.map nums).map some := by
  unfold Cf.wS
  rw [List.map_map, List.map_map]
  refine List.map_congr_left fun s _ => ?_
  show unword (nums (ofNats (wordL (nums s)))) = some (nums s)
  rw [nums_ofNats, unword_word (nums_b8 s)]
  exact fun b hb => by have := wordL_range (nums_b8 s) b hb; omega
theorem nm_no10 (k : Nat) : (10 : UInt8) ∉ nm k := by
  unfold nm
  split <;> decide
theorem wN_no10 (hc : c.okB = true) (k : Nat) : (10 : UInt8) ∉ ln k (c.wN k) := by
  rw [wN_dec hc]
  unfold ln
  intro h
  rcases List.mem_append.1 h with h | h
  · exact nm_no10 k h
  · rcases List.mem_cons.1 h with h | h
    · exact absurd h (by decide)
    · have := ((dec_digits _ (c.vN k) (Nat.le_refl _)).1 10 h).1
      exact absurd this (by decide)
theorem wS_no10 : ∀ l ∈ c.wS.map (ln 5), (10 : UInt8) ∉ l := by
  intro l hl h
  obtain ⟨w, hw, rfl⟩ := List.mem_map.1 hl
  obtain ⟨s, _, rfl⟩ := List.mem_map.1 hw
  unfold ln at h
  rcases List.mem_append.1 h with h | h
  · exact nm_no10 5 h
  · rcases List.mem_cons.1 h with h | h
    · exact absurd h (by decide)
    · have h10 : (10 : Nat) ∈ nums (ofNats (wordL (nums s))) := List.mem_map.2 ⟨10, h, rfl⟩
      have hb : B8 (wordL (nums s)) := fun b hb => by have := wordL_range (nums_b8 s) b hb; omega
      rw [nums_ofNats hb] at h10
      have := wordL_range (nums_b8 s) _ h10
      omega
/-- the lines of the five in any order, and the split keys' -/
def Cf.part (c : Cf) (o : List Nat) : List (List UInt8) := o.map (fun k => ln k (c.wN k)) ++ c.wS.map (ln 5)
theorem lns_part (hc : c.okB = true) (o : List Nat) : lns (flat (c.part o)) = o.map (fun k => ln k (c.wN k)) ++ (c.wS.map (ln 5) ++ [[]]) := by
  have h := lns_flat (ls := c.part o) (t := []) (fun l hl => by
    rcases List.mem_append.1 hl with h | h
    · obtain ⟨k, _, rfl⟩ := List.mem_map.1 h; exact wN_no10 hc k
    · exact wS_no10 l h)
  rw [List.append_nil] at h
  rw [h]
  show c.part o ++ [[]] = _
  unfold Cf.part
  rw [List.append_assoc]
/-- one of the five moved to the front -/
def front (x : Nat) : List Nat := x :: [0, 1, 2, 3, 4].erase x
theorem front_mem {x : Nat} (hx : x < 5) : (∀ k, k ∈ front x ↔ k < 5) ∧ (front x).Nodup := by
  match x, hx with
  | 0, _ | 1, _ | 2, _ | 3, _ | 4, _ =>
    refine ⟨fun k => ?_, by decide⟩
    simp [front]
    omega
theorem rest_mem {x : Nat} (hx : x < 5) : (∀ k ∈ [0, 1, 2, 3, 4].erase x, k < 5 ∧ k ≠ x) ∧ ([0, 1, 2, 3, 4].erase x).Nodup := by
  match x, hx with
  | 0, _ | 1, _ | 2, _ | 3, _ | 4, _ => refine ⟨by decide, by decide⟩
theorem run_text (hc : c.okB = true) (hw : 0 ≤ c.wi ∧ c.wi ≤ 18446744073709551615) : runL (lns c.text.data.toList) Dr.none false = (0, Dr.of c.vN (c.ss.map nums)) := by
  rw [text_flat]
  show runL (lns (flat (c.part [0, 1, 2, 3, 4]))) Dr.none false = _
  rw [lns_part hc]
  exact run_whole [0, 1, 2, 3, 4] (fun k _ => num_wN hc hw k) wS_word (fun k => by simp; omega) (by decide)
theorem run_front (hc : c.okB = true) (hw : 0 ≤ c.wi ∧ c.wi ≤ 18446744073709551615) {x : Nat} (hx : x < 5) : runL (lns (flat (c.part (front x)))) Dr.none false = (0, Dr.of c.vN (c.ss.map nums)) := by
  rw [lns_part hc]
  exact run_whole (front x) (fun k _ => num_wN hc hw k) wS_word (front_mem hx).1 (front_mem hx).2
theorem run_rest (hc : c.okB = true) (hw : 0 ≤ c.wi ∧ c.wi ≤ 18446744073709551615) {x : Nat} (hx : x < 5) : (runL (lns (flat (c.part ([0, 1, 2, 3, 4].erase x)))) Dr.none false).1 = 1 := by
  rw [lns_part hc]
  exact run_less _ hx (fun k _ => num_wN hc hw k) wS_word (rest_mem hx).1 (rest_mem hx).2
theorem run_two (hc : c.okB = true) (hw : 0 ≤ c.wi ∧ c.wi ≤ 18446744073709551615) {x : Nat} (hx : x < 5) : (runL (lns (flat (c.part (x :: [0, 1, 2, 3, 4])))) Dr.none false).1 = 1 := by
  rw [lns_part hc]
  show (runL (ln x (c.wN x) :: ([0, 1, 2, 3, 4].map (fun k => ln k (c.wN k)) ++ (c.wS.map (ln 5) ++ [[]]))) Dr.none false).1 = 1
  rw [run_num hx (num_wN hc hw x) rfl]
  refine run_more [0, 1, 2, 3, 4] hx (fun k _ => num_wN hc hw k) _ _ (by simp [Dr.put]) (by decide) ?_
  simp; omega
/-- an empty line or a note ahead -/
theorem run_ahead {n t : List UInt8} (hn : n = [] ∨ ∃ r, n = 35 :: r) (h10 : (10 : UInt8) ∉ n) (d : Dr) (b : Bool) : runL (lns (n ++ 10 :: t)) d b = runL (lns t) d b := by
  rw [lns_line h10]
  rcases hn with rfl | ⟨r, rfl⟩
  · exact run_nil
  · exact run_note
/-! how long it is -/
theorem flat_len : ∀ (ls : List (List UInt8)), (flat ls).length = (ls.map fun l => l.length + 1).sum
  | [] => rfl
  | l :: ls => by rw [flat_cons]; simp [flat_len ls]; omega
theorem dec_len {u n : Nat} (h : u < 10 ^ n) (hn : 1 ≤ n) : (Lib.decDigits u).length ≤ n := by
  induction n generalizing u with
  | zero => omega
  | succ n ih =>
    rw [Lib.decDigits]
    by_cases h1 : u < 10
    · rw [dif_pos h1]; simp
    · rw [dif_neg h1]
      have hn1 : 1 ≤ n := by
        rcases Nat.eq_zero_or_pos n with h0 | h0
        · subst h0; simp at h; omega
        · exact h0
      have := ih (u := u / 10) (by rw [Nat.pow_succ] at h; omega) hn1
      simp; omega
def lb : Nat → Nat
  | 0 => 9
  | 1 => 10
  | 2 => 17
  | 3 => 8
  | _ => 28
theorem part_len (hc : c.okB = true) (hw : 0 ≤ c.wi ∧ c.wi ≤ 18446744073709551615) (o : List Nat) (h5 : ∀ k ∈ o, k < 5) : (flat (c.part o)).length ≤ (o.map lb).sum + 104 * c.ss.length := by
  rw [Cf.part, flat_app, List.length_append, flat_len, flat_len]
  have h1 : ((o.map (fun k => ln k (c.wN k))).map fun l => l.length + 1).sum ≤ (o.map lb).sum := by
    induction o with
    | nil => simp
    | cons k o ih =>
      have hk := h5 k (by simp)
      have hl : (ln k (c.wN k)).length + 1 ≤ lb k := by
        rw [wN_dec hc]
        have h := ok_nums hc
        unfold ln
        match k, hk with
        | 0, _ => have := dec_len (u := c.vN 0) (n := 1) (by show c.sh.toNat < _; omega) (by omega); simp [nm, lb]; omega
        | 1, _ => have := dec_len (u := c.vN 1) (n := 1) (by show c.cl.toNat < _; omega) (by omega); simp [nm, lb]; omega
        | 2, _ => have := dec_len (u := c.vN 2) (n := 7) (by show c.ca.toNat < _; omega) (by omega); simp [nm, lb]; omega
        | 3, _ => have := dec_len (u := c.vN 3) (n := 2) (by show c.pk.toNat < _; omega) (by omega); simp [nm, lb]; omega
        | 4, _ => have := dec_len (u := c.vN 4) (n := 20) (by show c.wi.toNat < _; omega) (by omega); simp [nm, lb]; omega
      have := ih (fun j hj => h5 j (by simp [hj]))
      simp only [List.map_cons, List.sum_cons]
      omega
  have hris : risB c.ss = true := by
    have := hc
    simp only [Cf.okB, Bool.and_eq_true] at this
    exact this.2
  have hkey : ∀ s ∈ c.ss, s.size ≤ 32 := fun s hs => by
    obtain ⟨i, hi, rfl⟩ := List.getElem_of_mem hs
    have := key_size hris hi
    simpa [nthS, hi] using this
  have h2 : ∀ (ss : List ByteArray), (∀ s ∈ ss, s.size ≤ 32) → (((ss.map (fun s => (ofNats (wordL (nums s))).data.toList)).map (ln 5)).map fun l => l.length + 1).sum ≤ 104 * ss.length := fun ss => by
    induction ss with
    | nil => intro _; simp
    | cons s ss ih =>
      intro hs
      have h1 := ih (fun x hx => hs x (by simp [hx]))
      have h0 := hs s (by simp)
      have hl := (wordL_len (nums s)).2
      rw [nums_length] at hl
      have e : (ofNats (wordL (nums s))).data.toList.length = (wordL (nums s)).length := by simp [ofNats]
      have h6 : (ln 5 (ofNats (wordL (nums s))).data.toList).length = 6 + (wordL (nums s)).length := by
        show (nm 5 ++ 32 :: (ofNats (wordL (nums s))).data.toList).length = _
        rw [List.length_append, List.length_cons, e]
        show 5 + _ = _
        omega
      simp only [List.map_cons, List.sum_cons, List.length_cons, h6]
      omega
  have := h2 c.ss hkey
  unfold Cf.wS
  omega
/-- a text, with one of the five moved or not, is short enough -/
theorem part_600 (hc : c.okB = true) (hw : 0 ≤ c.wi ∧ c.wi ≤ 18446744073709551615) {o : List Nat} (ho : o = [0, 1, 2, 3, 4] ∨ ∃ x, x < 5 ∧ o = front x) : (flat (c.part o)).length ≤ 600 := by
  have hss : c.ss.length ≤ 5 := by
    have := hc
    simp only [Cf.okB, wiB, Bool.and_eq_true, decide_eq_true_eq, beq_iff_eq] at this
    omega
  have h5 : ∀ k ∈ o, k < 5 := by
    rcases ho with rfl | ⟨x, hx, rfl⟩
    · decide
    · exact fun k hk => ((front_mem hx).1 k).1 hk
  have hs : (o.map lb).sum = 72 := by
    rcases ho with rfl | ⟨x, hx, rfl⟩
    · rfl
    · match x, hx with
      | 0, _ | 1, _ | 2, _ | 3, _ | 4, _ => rfl
  have := part_len hc hw o h5
  omega
end
end Go.Proofs.YthenfioddnkjbaaGreatDoor.Rt
/- read and Parse at the statement's texts. -/
namespace Go.Proofs.YthenfioddnkjbaaGreatDoor.Rt
open Go.RowKit Go.Sort Go.Stop Go.Extern.Stop
set_option linter.unusedVariables false

/-- a draft's configuration -/
def Dr.cf (d : Dr) (a : Option Addr) (c : Nat) : Cf := ⟨smallN ((d.f 0).getD 0), smallN ((d.f 1).getD 0), a, c, d.sp.map ofNats, smallN ((d.f 2).getD 0), smallN ((d.f 3).getD 0), (d.f 4).getD 0⟩
def zeroC : Value := .agg #[.int .i64 0, .int .i64 0, .slice none 0 0, .int .i64 0, .int .i64 0, .int .u64 0]
/-- what Parse answers: the configuration and no error; or nothing, and which -/
def ParP (wg : World) (r : Nat × Dr) (e : Ending) (w' : World) : Prop := Below wg.heap.size wg w' ∧ ((r.1 = 0 ∧ ∃ a c, e = .returned (.tuple #[(r.2.cf a c).val, .int .i64 0]) ∧ (∀ g o, a = some ⟨g, o, none⟩ → wg.heap.size ≤ g) ∧ RowS w' a (r.2.sp.map ofNats)) ∨ (r.1 = 1 ∧ e = .returned (.tuple #[zeroC, .int .i64 120])))
def ReadP (wg : World) (x : Addr) (r : Nat × Dr) (e : Ending) (w' : World) : Prop := Below wg.heap.size wg w' ∧ ((r.1 = 0 ∧ ∃ a c, e = .returned (.tuple #[(r.2.cf a c).val, .nilIface]) ∧ (∀ g o, a = some ⟨g, o, none⟩ → wg.heap.size ≤ g) ∧ RowS w' a (r.2.sp.map ofNats)) ∨ (r.1 = 1 ∧ ∃ l, e = .returned (.tuple #[zeroC, fltV l (errV x)])))
theorem row_owned {w : World} {B : Nat} {v : Value} {l : List (List Nat)} (h : w.ownsRow B 9 1 v l.length (l.map fun s => .string (ofNats s))) : ∃ a c, v = .slice a l.length c ∧ (∀ g o, a = some ⟨g, o, none⟩ → B ≤ g) ∧ RowS w a (l.map ofNats) := by
  have h' := h
  obtain ⟨_, ⟨rfl, h0⟩ | ⟨g, cap, cur, rfl, _⟩⟩ := h
  · refine ⟨none, 0, by rw [h0], fun _ _ e => (by cases e), fun i hi => ?_⟩
    rw [List.length_map, h0] at hi
    omega
  · refine ⟨some ⟨g, 0, none⟩, cap, rfl, fun g' o e => ?_, fun i hi => ⟨g, 0, rfl, ?_⟩⟩
    · injection e with e; injection e with e1 e2
      exact e1 ▸ (World.ownsRow.lt h' g rfl).1
    rw [List.length_map] at hi
    rw [Nat.zero_add, World.ownsRow.cellAt h' i (by omega)]
    simp [nthS, hi]
theorem split_cells {w : World} {t : ByteArray} (i : Nat) (hi : i < (Lib.splitB ⟨#[10]⟩ 0 (Lib.countB t ⟨#[10]⟩) t).length) :
    (w.alloc (.cells ((Lib.splitB ⟨#[10]⟩ 0 (Lib.countB t ⟨#[10]⟩) t).map Value.string).toArray 9)).cell? ⟨w.heap.size, i, none⟩ = some (.string (nthB (Lib.splitB ⟨#[10]⟩ 0 (Lib.countB t ⟨#[10]⟩) t) i)) := by
  rw [World.cell?_alloc_new]
  simp [nthB, hi]
theorem small_of {n : Nat} (h : n ≤ 1048577) : smallN n = n := if_pos h

set_option maxRecDepth 16000 in
set_option maxHeartbeats 4000000 in
theorem read_long {w : World} {t : ByteArray} {a b : Addr} (hg : Gl w a b) (ht : 600 < t.size) (hb : t.size ≤ 9223372036854775807) :
    Calls Tryz.prog 10 #[.string t] w (ReadP w a (1, Dr.none)) := by
  have g0 : (w.alloc (.cells #[.int .i64 0, .int .i64 0, .slice none 0 0, .int .i64 0, .int .i64 0, .int .u64 0] 26)).cell? ⟨0, 0, none⟩ = some (errV a) := cell_later (Below.al (Below.refl _ _) _) hg.errs.form
  clear hg
  have h6 : (600 : Int) < (t.size : Int) := by omega
  go_enter Tryz.func10, Tryz.ntmps10
  go_upto_region 2 with fail
  go_region
  all_goals go_wp2_with fail
  all_goals (refine bodyPost_ret (v := .tuple #[zeroC, fltV 0 (errV a)]) (by simp [results, Tryz.results10, go_sem, zeroC]) rfl ⟨by (repeat (first | with_reducible exact Below.refl _ _ | with_reducible assumption | with_reducible refine Below.drew ?_ | with_reducible refine Below.al ?_ _ | with_reducible refine Below.setCell ?_ (by first | exact Nat.le_refl _ | (simp; omega) | (simp; done)) _ | with_reducible refine Below.on ?_ (by assumption))), .inr ⟨rfl, 0, rfl⟩⟩)
set_option maxRecDepth 16000 in
set_option maxHeartbeats 4000000 in
theorem read_is {w : World} {t : ByteArray} {a b : Addr} {r : Nat × Dr} (hg : Gl w a b) (ht : t.size ≤ 600) (hr : runL (lns t.data.toList) Dr.none false = r) (hG : ∀ l ∈ lns t.data.toList, Gd l ∧ l.length ≤ 600)
    (hc : (lns t.data.toList).length ≤ 1000) (hok : r.1 = 0 → ∀ a c, (r.2.cf a c).okB = true) :
    Calls Tryz.prog 10 #[.string t] w (ReadP w a r) := by
  obtain ⟨m, hm⟩ := hg.max
  obtain ⟨ls, hls⟩ : ∃ ls, ls = Lib.splitB ⟨#[10]⟩ 0 (Lib.countB t ⟨#[10]⟩) t := ⟨_, rfl⟩
  have hlen : ls.length = Lib.countB t ⟨#[10]⟩ + 1 := by rw [hls]; exact Lib.splitB_all _ (by decide) _ _ _ rfl
  have hmap : ls.map (·.data.toList) = lns t.data.toList := by rw [hls]; exact split_is t
  have hll : ls.length ≤ 1000 := by have := congrArg List.length hmap; rw [List.length_map] at this; omega
  obtain ⟨wd, hwd⟩ : ∃ wd, wd = (w.alloc (.cells #[.int .i64 0, .int .i64 0, .slice none 0 0, .int .i64 0, .int .i64 0, .int .u64 0] 26)).alloc (.cells #[.bool false, .int .u64 0, .bool false, .int .u64 0, .bool false, .int .u64 0, .bool false, .int .u64 0, .bool false, .int .u64 0, .slice none 0 0] 93) := ⟨_, rfl⟩
  have hsd : wd.heap.size = w.heap.size + 1 + 1 := by rw [hwd]; simp
  have hbd : Below w.heap.size w wd := by rw [hwd]; (repeat (first | with_reducible exact Below.refl _ _ | with_reducible assumption | with_reducible refine Below.drew ?_ | with_reducible refine Below.al ?_ _ | with_reducible refine Below.setCell ?_ (by first | exact Nat.le_refl _ | (simp; omega) | (simp; done)) _ | with_reducible refine Below.on ?_ (by assumption)))
  obtain ⟨wl, hwl⟩ : ∃ wl, wl = wd.alloc (.cells (ls.map Value.string).toArray 9) := ⟨_, rfl⟩
  have hbl : Below wd.heap.size wd wl := by rw [hwl]; (repeat (first | with_reducible exact Below.refl _ _ | with_reducible assumption | with_reducible refine Below.drew ?_ | with_reducible refine Below.al ?_ _ | with_reducible refine Below.setCell ?_ (by first | exact Nat.le_refl _ | (simp; omega) | (simp; done)) _ | with_reducible refine Below.on ?_ (by assumption)))
  have SP := Tryz.strings_Split t ⟨#[10]⟩ m wd (by omega) (cell_later hbd hm) (by decide)
  rw [← hls, ← hwl, ← hlen] at SP
  have hrow : ∀ i, i < ls.length → wl.cell? ⟨wd.heap.size, i, none⟩ = some (.string (nthB ls i)) := fun i hi => by rw [hwl, hls]; rw [hls] at hi; exact split_cells i hi
  have S0 : StD w wl wl (w.heap.size + 1) Dr.none (.slice none 0 0) := by
    refine ⟨BoxD.later (w := wd) ?_ hbl, fun o => ?_, World.ownsRow_nil _ _ _ _, Onl.refl _ _, Below.on hbd hbl, fun k => by simp [Dr.none], ?_, Nat.le_succ _⟩
    · rw [hwd]
      constructor <;> simp [go_sem, Dr.none]
    · rw [hbl.frozen (p := ⟨w.heap.size + 1, o, none⟩) (by rw [hsd]; exact Nat.lt_succ_self _), hwd]
      simp [go_sem]
    · have := hbl.size; rw [hsd] at this; omega
  have TA := takeAll_is hg S0 (ls := ls) (g := wd.heap.size) (fun l hl => by
    have : l.data.toList ∈ lns t.data.toList := by rw [← hmap]; exact List.mem_map.2 ⟨l, hl, rfl⟩
    obtain ⟨h1, h2⟩ := hG _ this
    refine ⟨h1, ?_⟩
    rw [Lib.size_eq]; omega) (by simp [Dr.none]; exact hll) hrow (by rw [hsd]; omega)
  rw [hmap, hr, hsd] at TA
  rw [hsd] at SP
  have HT := hid TA
  have HS := hid SP
  have HZ : Hid (wd.cell? ⟨w.heap.size, 0, none⟩ = some (.int .i64 0) ∧ wd.cell? ⟨w.heap.size, 1, none⟩ = some (.int .i64 0) ∧ wd.cell? ⟨w.heap.size, 2, none⟩ = some (.slice none 0 0) ∧ wd.cell? ⟨w.heap.size, 3, none⟩ = some (.int .i64 0) ∧ wd.cell? ⟨w.heap.size, 4, none⟩ = some (.int .i64 0) ∧ wd.cell? ⟨w.heap.size, 5, none⟩ = some (.int .u64 0) ∧ ∀ o, wd.frozen? ⟨w.heap.size, o, none⟩ = false) := hid (by
    rw [hwd]
    refine ⟨by simp [go_sem], by simp [go_sem], by simp [go_sem], by simp [go_sem], by simp [go_sem], by simp [go_sem], fun o => by simp [go_sem]⟩)
  have HBL := hid hbl
  have HSD := hid hsd
  have HOK := hid hok
  have HG := hid hg
  clear TA SP S0 hrow hwl hbl hsd hbd hls hlen hmap hG hg hok hr hc hm
  have h6 : ¬ (600 : Int) < (t.size : Int) := by omega
  go_enter Tryz.func10, Tryz.ntmps10
  go_wp2_with fail
  rw [← hwd]
  clear hwd
  refine HS.out.mono ?_
  rintro e w1 ⟨rfl, rfl⟩
  go_wp2_with fail
  refine HT.out.mono ?_
  rintro e w2 h2
  have HC : Hid (∀ wz, Onl (fun k => k = w.heap.size + 1) w1 wz → (wz.cell? ⟨w.heap.size, 0, none⟩ = some (.int .i64 0) ∧ wz.cell? ⟨w.heap.size, 1, none⟩ = some (.int .i64 0) ∧ wz.cell? ⟨w.heap.size, 2, none⟩ = some (.slice none 0 0) ∧ wz.cell? ⟨w.heap.size, 3, none⟩ = some (.int .i64 0) ∧ wz.cell? ⟨w.heap.size, 4, none⟩ = some (.int .i64 0) ∧ wz.cell? ⟨w.heap.size, 5, none⟩ = some (.int .u64 0)) ∧ ∀ o, wz.frozen? ⟨w.heap.size, o, none⟩ = false) := hid (fun wz h => by
    obtain ⟨z0, z1, z2, z3, z4, z5, zf⟩ := HZ.out
    have hn : ¬ (w.heap.size = w.heap.size + 1) := by omega
    have hl : w.heap.size < wd.heap.size := by rw [HSD.out]; omega
    refine ⟨⟨h.cell hn (cell_later HBL.out z0), h.cell hn (cell_later HBL.out z1), h.cell hn (cell_later HBL.out z2), h.cell hn (cell_later HBL.out z3), h.cell hn (cell_later HBL.out z4), h.cell hn (cell_later HBL.out z5)⟩, h.loose hn (Nat.lt_of_lt_of_le hl HBL.out.size) fun o => ?_⟩
    rw [HBL.out.frozen (p := ⟨w.heap.size, o, none⟩) hl]
    exact zf o)
  rcases h2 with ⟨hr0, rfl, v, hst⟩ | ⟨hr1, l, rfl, hb2, ho2⟩
  · obtain ⟨va, vc, rfl, hbase, hrow⟩ := row_owned hst.row
    have HBS := hid hbase
    clear hbase
    have HF := hid (config_is hst.box hst.num)
    obtain ⟨c, hc⟩ : ∃ c, c = r.2.cf va vc := ⟨_, rfl⟩
    have hokc : c.okB = true := by rw [hc]; exact HOK.out hr0 va vc
    have HROW := hid hrow
    have hcs : c.ss = r.2.sp.map ofNats := by rw [hc]; rfl
    have hca : c.a = va := by rw [hc]; rfl
    have hcv : c.val = (r.2.cf va vc).val := by rw [hc]
    have hlc : c.ss.length = r.2.sp.length := by rw [hcs, List.length_map]
    have HO : Hid (∀ wz, Below w2.heap.size w2 wz → c.Ok wz) := hid (fun wz hb => by
      have h5 := ok_len hokc
      refine ⟨?_, by omega, by omega⟩
      rw [hcs, hca]; exact hrow.later hb)
    have HV : Hid (c.val = .agg #[.int .i64 (smallN ((r.2.f 0).getD 0) : Nat), .int .i64 (smallN ((r.2.f 1).getD 0) : Nat), .slice va r.2.sp.length vc, .int .i64 (smallN ((r.2.f 2).getD 0) : Nat), .int .i64 (smallN ((r.2.f 3).getD 0) : Nat), .int .u64 ((r.2.f 4).getD 0 : Nat)]) := hid (by
      rw [hcv]
      show Value.agg #[_, _, .slice va (r.2.sp.map ofNats).length vc, _, _, _] = _
      rw [List.length_map]
      rfl)
    rw [← HV.out] at HF
    have HST := hid hst
    have HOK2 := hid hokc
    have HCV := hid hcv
    have HR0 := hid hr0
    clear hrow hst hokc hcs hca hcv hlc hc hr0
    obtain ⟨sh, cl, ca, cp, ss, cca, cpk, cwi⟩ := c
    go_wp2_with fail
    refine HF.out.mono ?_
    rintro e w3 ⟨rfl, hb3⟩
    obtain ⟨wb, hwb⟩ : ∃ wb, wb = w3.alloc (.cells #[.int .i64 sh, .int .i64 cl, .slice ca ss.length cp, .int .i64 cca, .int .i64 cpk, .int .u64 cwi] 26) := ⟨_, rfl⟩
    have hb3b : Below w3.heap.size w3 wb := by rw [hwb]; (repeat (first | with_reducible exact Below.refl _ _ | with_reducible assumption | with_reducible refine Below.drew ?_ | with_reducible refine Below.al ?_ _ | with_reducible refine Below.setCell ?_ (by first | exact Nat.le_refl _ | (simp; omega) | (simp; done)) _ | with_reducible refine Below.on ?_ (by assumption)))
    have HM := hid (mayBe_is (HO.out wb (Below.on hb3 hb3b)) HOK2.out)
    have HX : Hid (BoxC wb w3.heap.size ⟨sh, cl, ca, cp, ss, cca, cpk, cwi⟩) := hid (by rw [hwb]; exact BoxC.new w3 ⟨sh, cl, ca, cp, ss, cca, cpk, cwi⟩ _)
    have H3B := hid (Below.on hb3 hb3b)
    go_wp2_with fail
    rw [← hwb]
    refine HM.out.mono ?_
    rintro e w4 ⟨rfl, hb4⟩
    obtain ⟨x0, x1, x2, x3, x4, x5⟩ := HX.out.later hb4
    have hon := HST.out.onl.on (Below.on H3B.out hb4)
    obtain ⟨⟨z0, z1, z2, z3, z4, z5⟩, zf⟩ := HC.out w4 hon
    have HB4 := hid (Below.on HST.out.bel (Below.on H3B.out hb4))
    have HR4 := hid (HROW.out.later (Below.on H3B.out hb4))
    simp only at x0 x1 x2 x3 x4 x5
    have HSZ : Hid (w4.heap.size > w.heap.size) := hid (World.block_lt_of_cell? _ _ z0)
    clear hon hb4 hb3 hb3b hwb
    go_wp2_with fail
    refine bodyPost_ret (v := .tuple #[(Cf.mk sh cl ca cp ss cca cpk cwi).val, .nilIface]) (by simp [results, Tryz.results10, go_sem, z0, z1, z2, z3, z4, z5]) rfl ⟨?_, .inl ⟨HR0.out, va, vc, by rw [HCV.out], fun g o e => ?_, ?_⟩⟩
    · have hB := HB4.out
      (repeat (first | with_reducible exact Below.refl _ _ | with_reducible assumption | with_reducible refine Below.drew ?_ | with_reducible refine Below.al ?_ _ | with_reducible refine Below.setCell ?_ (by first | exact Nat.le_refl _ | (simp; omega) | (simp; done)) _ | with_reducible refine Below.on ?_ (by assumption)))
    · have h1 := HBS.out g o e
      have h2 := HBL.out.size
      have h3 := HSD.out
      omega
    · intro i hi
      obtain ⟨bb, off, e1, e2⟩ := HR4.out i hi
      refine ⟨bb, off, e1, ?_⟩
      have h1 := HBS.out bb off e1
      have h2 := HBL.out.size
      have h3 := HSD.out
      repeat (with_reducible refine cell_setc (by simp only [ne_eq, Addr.mk.injEq]; omega) ?_)
      exact e2
  · obtain ⟨⟨z0, z1, z2, z3, z4, z5⟩, zf⟩ := HC.out w2 ho2
    have HB2 := hid hb2
    have HR1 := hid hr1
    clear hb2 ho2 hr1
    go_wp2_with fail
    refine bodyPost_ret (v := .tuple #[zeroC, fltV l (errV a)]) (by simp [results, Tryz.results10, go_sem, zeroC, z0, z1, z2, z3, z4, z5]) rfl ⟨?_, .inr ⟨HR1.out, l, rfl⟩⟩
    have hB := HB2.out
    (repeat (first | with_reducible exact Below.refl _ _ | with_reducible assumption | with_reducible refine Below.drew ?_ | with_reducible refine Below.al ?_ _ | with_reducible refine Below.setCell ?_ (by first | exact Nat.le_refl _ | (simp; omega) | (simp; done)) _ | with_reducible refine Below.on ?_ (by assumption)))
set_option maxRecDepth 16000 in
set_option maxHeartbeats 4000000 in
/-- Parse, by what read answers -/
theorem parse_of {w : World} {t : ByteArray} {a b : Addr} {r : Nat × Dr} (hg : Gl w a b) (hR : ∀ w0, Below w.heap.size w w0 → Calls Tryz.prog 10 #[.string t] w0 (ReadP w0 a r)) :
    Calls Tryz.prog 4 #[.string t] w (ParP w r) := by
  obtain ⟨wd, hwd⟩ : ∃ wd, wd = w.alloc (.cells #[.int .i64 0, .int .i64 0, .slice none 0 0, .int .i64 0, .int .i64 0, .int .u64 0] 26) := ⟨_, rfl⟩
  have hbd : Below w.heap.size w wd := by rw [hwd]; (repeat (first | with_reducible exact Below.refl _ _ | with_reducible assumption | with_reducible refine Below.drew ?_ | with_reducible refine Below.al ?_ _ | with_reducible refine Below.setCell ?_ (by first | exact Nat.le_refl _ | (simp; omega) | (simp; done)) _ | with_reducible refine Below.on ?_ (by assumption)))
  have HR := hid (hR wd hbd)
  have HZ : Hid (BoxC wd w.heap.size ⟨0, 0, none, 0, [], 0, 0, 0⟩ ∧ ∀ o, wd.frozen? ⟨w.heap.size, o, none⟩ = false) := hid (by
    rw [hwd]
    exact ⟨BoxC.new w ⟨0, 0, none, 0, [], 0, 0, 0⟩ _, fun o => by simp [go_sem]⟩)
  have HS : Hid (w.heap.size < wd.heap.size) := hid (by rw [hwd]; simp)
  have HB := hid hbd
  have HG := hid (hg.later hbd)
  clear hR hbd hg
  go_enter Tryz.func4, Tryz.ntmps4
  go_wp2_with fail
  rw [← hwd]
  clear hwd
  refine HR.out.mono ?_
  rintro e w1 ⟨hb1, ⟨hr0, va, vc, rfl, hnew, hrow⟩ | ⟨hr1, l, rfl⟩⟩
  · obtain ⟨c, hc⟩ : ∃ c, c = r.2.cf va vc := ⟨_, rfl⟩
    have hrc : RowS w1 c.a c.ss := by rw [hc]; exact hrow
    rw [← hc]
    have HC := hid hc
    have HRC := hid hrc
    have HNW := hid hnew
    clear hnew
    have HR0 := hid hr0
    obtain ⟨z0, z1, z2, z3, z4, z5⟩ := HZ.out.1.later hb1
    have zf : ∀ o, w1.frozen? ⟨w.heap.size, o, none⟩ = false := fun o => (hb1.frozen (p := ⟨w.heap.size, o, none⟩) HS.out).trans (HZ.out.2 o)
    have HB1 := hid (Below.on HB.out hb1)
    have HL1 : Hid (w.heap.size < w1.heap.size) := hid (Nat.lt_of_lt_of_le HS.out hb1.size)
    clear hc hrc hr0 hrow hb1
    obtain ⟨sh, cl, ca, cp, ss, cca, cpk, cwi⟩ := c
    obtain ⟨wb, hwb⟩ : ∃ wb, wb = w1.alloc (.cells #[.int .i64 sh, .int .i64 cl, .slice ca ss.length cp, .int .i64 cca, .int .i64 cpk, .int .u64 cwi] 26) := ⟨_, rfl⟩
    have hbb : Below w1.heap.size w1 wb := by rw [hwb]; (repeat (first | with_reducible exact Below.refl _ _ | with_reducible assumption | with_reducible refine Below.drew ?_ | with_reducible refine Below.al ?_ _ | with_reducible refine Below.setCell ?_ (by first | exact Nat.le_refl _ | (simp; omega) | (simp; done)) _ | with_reducible refine Below.on ?_ (by assumption)))
    have y0 := cell_later hbb z0
    have y1 := cell_later hbb z1
    have y2 := cell_later hbb z2
    have y3 := cell_later hbb z3
    have y4 := cell_later hbb z4
    have y5 := cell_later hbb z5
    have yf : ∀ o, wb.frozen? ⟨w.heap.size, o, none⟩ = false := fun o => (hbb.frozen (p := ⟨w.heap.size, o, none⟩) HL1.out).trans (zf o)
    have HBB := hid hbb
    have HWB := hid hwb
    rw [hwb] at y0 y1 y2 y3 y4 y5 yf
    clear z0 z1 z2 z3 z4 z5 zf hbb
    go_wp2_with fail
    rw [← hwb] at y0 y1 y2 y3 y4 y5 ⊢
    refine bodyPost_ret (v := .tuple #[(Cf.mk sh cl ca cp ss cca cpk cwi).val, .int .i64 0]) (by simp [results, Tryz.results4, go_sem, y0, y1, y2, y3, y4, y5]) rfl ⟨?_, .inl ⟨HR0.out, va, vc, by rw [HC.out], fun g o e => Nat.le_trans HB.out.size (HNW.out g o e), ?_⟩⟩
    · have hB := Below.on HB1.out HBB.out
      (repeat (first | with_reducible exact Below.refl _ _ | with_reducible assumption | with_reducible refine Below.drew ?_ | with_reducible refine Below.al ?_ _ | with_reducible refine Below.setCell ?_ (by first | exact Nat.le_refl _ | (simp; omega) | (simp; done)) _ | with_reducible refine Below.on ?_ (by assumption)))
    · intro i hi
      have hss : ss = r.2.sp.map ofNats := congrArg Cf.ss HC.out
      have hca : ca = va := congrArg Cf.a HC.out
      obtain ⟨bb, off, e1, e2⟩ := HRC.out i (by rw [hss]; exact hi)
      rw [hss] at e2
      refine ⟨bb, off, by rw [← hca]; exact e1, ?_⟩
      have h1 := HNW.out bb off (by rw [← hca]; exact e1)
      have h2 := HS.out
      repeat (with_reducible refine cell_setc (by simp only [ne_eq, Addr.mk.injEq]; omega) ?_)
      exact cell_later HBB.out e2
  · obtain ⟨z0, z1, z2, z3, z4, z5⟩ := HZ.out.1.later hb1
    have zf : ∀ o, w1.frozen? ⟨w.heap.size, o, none⟩ = false := fun o => (hb1.frozen (p := ⟨w.heap.size, o, none⟩) HS.out).trans (HZ.out.2 o)
    have HB1 := hid (Below.on HB.out hb1)
    have HL1 : Hid (w.heap.size < w1.heap.size) := hid (Nat.lt_of_lt_of_le HS.out hb1.size)
    have HG1 := hid (HG.out.later hb1)
    have HR1 := hid hr1
    clear hb1 hr1
    obtain ⟨wb, hwb⟩ : ∃ wb, wb = w1.alloc (.cells #[.int .i64 0, .int .i64 0, .slice none 0 0, .int .i64 0, .int .i64 0, .int .u64 0] 26) := ⟨_, rfl⟩
    have hbb : Below w1.heap.size w1 wb := by rw [hwb]; (repeat (first | with_reducible exact Below.refl _ _ | with_reducible assumption | with_reducible refine Below.drew ?_ | with_reducible refine Below.al ?_ _ | with_reducible refine Below.setCell ?_ (by first | exact Nat.le_refl _ | (simp; omega) | (simp; done)) _ | with_reducible refine Below.on ?_ (by assumption)))
    have HRS := hid (reason_form l (HG1.out.later hbb).errs)
    have HBB := hid hbb
    clear hbb
    unfold zeroC
    go_wp2_with fail
    rw [← hwb]
    refine HRS.out.mono ?_
    rintro e w2 ⟨rfl, hb2⟩
    have hb12 := Below.on HBB.out hb2
    have y0 := cell_later hb12 z0
    have y1 := cell_later hb12 z1
    have y2 := cell_later hb12 z2
    have y3 := cell_later hb12 z3
    have y4 := cell_later hb12 z4
    have y5 := cell_later hb12 z5
    have yf : ∀ o, w2.frozen? ⟨w.heap.size, o, none⟩ = false := fun o => (hb12.frozen (p := ⟨w.heap.size, o, none⟩) HL1.out).trans (zf o)
    have HB2 := hid (Below.on HB1.out hb12)
    simp only [List.length_nil] at y0 y1 y2 y3 y4 y5
    clear z0 z1 z2 z3 z4 z5 zf hb2 hb12 hwb
    go_wp2_with fail
    refine bodyPost_ret (v := .tuple #[zeroC, .int .i64 120]) (by simp [results, Tryz.results4, go_sem, y0, y1, y2, y3, y4, y5, zeroC]) rfl ⟨?_, .inr ⟨HR1.out, rfl⟩⟩
    have hB := HB2.out
    (repeat (first | with_reducible exact Below.refl _ _ | with_reducible assumption | with_reducible refine Below.drew ?_ | with_reducible refine Below.al ?_ _ | with_reducible refine Below.setCell ?_ (by first | exact Nat.le_refl _ | (simp; omega) | (simp; done)) _ | with_reducible refine Below.on ?_ (by assumption)))
theorem parse_long {w : World} {t : ByteArray} {a b : Addr} (hg : Gl w a b) (ht : 600 < t.size) (hb : t.size ≤ 9223372036854775807) : Calls Tryz.prog 4 #[.string t] w (ParP w (1, Dr.none)) :=
  parse_of hg fun w0 h => read_long (hg.later h) ht hb
end Go.Proofs.YthenfioddnkjbaaGreatDoor.Rt
