import Derived.Test.YtggmhodogfngdaaDoorGtFd
import Derived.Test.YtggmhodogfngdaaDoorGtItoa
import Derived.Test.YtggmhodogfngdaaDoorRdLines
import Derived.Lib.ParseIntBTie
/- A number of a line, and a line's fields: how the program reads them. -/
namespace Go.Proofs.YtggmhodogfngdaaDoor.Gt
open Go.Proofs.YtggmhodogfngdaaDoor Go.Proofs.YtggmhodogfngdaaDoor.Rt Go.RowKit Go.Sort
set_option linter.unusedVariables false

/-! a line's fields -/
theorem split_fld : ∀ (k : Nat) (l : List UInt8), l.count 32 ≤ k → (Lib.splitK [32] 0 k l).map (fun x => x.map (·.toNat)) = fld (l.map (·.toNat))
  | 0, l, h => by
    have hn : (32 : UInt8) ∉ l := List.count_eq_zero.1 (by omega)
    have hn' : (32 : Nat) ∉ l.map (·.toNat) := fun e => by
      obtain ⟨b, hb, e⟩ := List.mem_map.1 e
      exact hn (by rw [show (32 : UInt8) = b from UInt8.toNat_inj.1 (by rw [e]; rfl)]; exact hb)
    rw [fld_one hn']; rfl
  | k + 1, l, h => by
    by_cases hm : (32 : UInt8) ∈ l
    · obtain ⟨a, t, rfl, ha⟩ := List.eq_append_cons_of_mem hm
      have hi := ix_at (t := t) ha
      have hc : t.count 32 ≤ k := by
        rw [List.count_append, List.count_cons_self, List.count_eq_zero.2 ha] at h
        omega
      have hne : ((a.length : Int) == -1) = false := by rw [beq_eq_false_iff_ne]; omega
      have hn' : (32 : Nat) ∉ a.map (·.toNat) := fun e => by
        obtain ⟨b, hb, e⟩ := List.mem_map.1 e
        exact ha (by rw [show (32 : UInt8) = b from UInt8.toNat_inj.1 (by rw [e]; rfl)]; exact hb)
      rw [Lib.splitK, hi, hne]
      have e2 : (a ++ 32 :: t).map (·.toNat) = a.map (·.toNat) ++ 32 :: t.map (·.toNat) := by simp
      rw [e2, fld_cons _ hn', ← split_fld k t hc]
      simp
    · have hn' : (32 : Nat) ∉ l.map (·.toNat) := fun e => by
        obtain ⟨b, hb, e⟩ := List.mem_map.1 e
        exact hm (by rw [show (32 : UInt8) = b from UInt8.toNat_inj.1 (by rw [e]; rfl)]; exact hb)
      rw [Lib.splitK, ix_none hm, fld_one hn']; rfl
theorem count_fld : ∀ (f : Nat) (l : List UInt8), l.length < f → l.count 32 = Lib.countFrom [32] f l
  | 0, l, h => by omega
  | f + 1, l, h => by
    by_cases hm : (32 : UInt8) ∈ l
    · obtain ⟨a, t, rfl, ha⟩ := List.eq_append_cons_of_mem hm
      have hi := ix_at (t := t) ha
      have hne : ((a.length : Int) == -1) = false := by rw [beq_eq_false_iff_ne]; omega
      have ih := count_fld f t (by simp at h; omega)
      rw [Lib.countFrom, hi, hne, List.count_append, List.count_cons_self, List.count_eq_zero.2 ha, ih]
      simp
      omega
    · rw [Lib.countFrom, ix_none hm, List.count_eq_zero.2 hm]; rfl
theorem split_32 (s : ByteArray) : (Lib.splitB ⟨#[32]⟩ 0 (Lib.countB s ⟨#[32]⟩) s).map nums = fld (nums s) := by
  have h : (Lib.splitB ⟨#[32]⟩ 0 (Lib.countB s ⟨#[32]⟩) s).map nums = ((Lib.splitB ⟨#[32]⟩ 0 (Lib.countB s ⟨#[32]⟩) s).map (·.data.toList)).map (fun x => x.map (·.toNat)) := by
    rw [List.map_map]; rfl
  rw [h, Lib.splitB_data]
  refine split_fld _ _ ?_
  rw [count_fld (s.data.toList.length + 1) _ (by omega)]
  exact Nat.le_refl _

/-! a number -/
theorem parse_num {z : Nat} (h : z ≤ 9223372036854775807) : Lib.parseIntB 64 (Lib.decDigits z) = .ok (z : Int) := by
  obtain ⟨hd, hne, _⟩ := dec_digits z z (Nat.le_refl _)
  have hp : Lib.parseUintB 64 (Lib.decDigits z) = .ok z := by
    have h := parse_dec z z [] (Nat.le_refl _) (by omega)
    rw [List.append_nil] at h
    unfold Lib.parseUintB
    simp [hne, h, Lib.parseUintM_64, Lib.parseUint10]
  generalize Lib.decDigits z = l at *
  cases l with
  | nil => exact absurd rfl hne
  | cons c r =>
    have hc := hd c (by simp)
    rw [Lib.parseIntB_plain 64 c r (by omega) (by omega), hp]
    have : ¬ 9223372036854775808 ≤ z := by omega
    simp [Lib.signlessC, this]
theorem dec_bytes {L : List Nat} {z : Nat} (h : decN z = L) : (ofNats L).data.toList = Lib.decDigits z := by
  subst h
  simp [ofNats, decN, map_back]
theorem num_of {L : List Nat} {z : Nat} (h : undec L = some z) : Lib.parseIntB 64 (ofNats L).data.toList = .ok (z : Int) := by
  obtain ⟨h1, h2⟩ := dec_undec h
  rw [dec_bytes h1]; exact parse_num h2
/-- what is read is the number that was written, just where it is written so -/
theorem num_ok {L : List Nat} {v : Int} (h : Lib.parseIntB 64 (ofNats L).data.toList = .ok v) (hv : v ≤ 9223372036854775807) : (decide (0 ≤ v) && decide (decI v = L)) = !badN L ∧ LimOk L v := by
  have hl : LimOk L v := fun z hz => by
    rw [num_of hz] at h
    injection h with h
    exact h.symm
  refine ⟨?_, hl⟩
  cases hu : undec L with
  | none =>
    rw [badN_none hu]
    simp only [Bool.not_true, Bool.and_eq_false_iff, decide_eq_false_iff_not]
    by_cases h0 : 0 ≤ v
    · refine .inr fun e => ?_
      rw [decI, if_neg (by omega)] at e
      rw [← e, undec_dec (by omega)] at hu
      cases hu
    · exact .inl h0
  | some z =>
    rw [badN_some hu]
    have e := hl z hu
    obtain ⟨h1, h2⟩ := dec_undec hu
    subst e
    have : decI (z : Int) = L := by rw [decI, if_neg (by omega)]; simpa using h1
    simp [this]
theorem num_bad {L : List Nat} (h : ∀ v, Lib.parseIntB 64 (ofNats L).data.toList ≠ .ok v) : badN L = true ∧ ∀ n, LimOk L n := by
  cases hu : undec L with
  | none => exact ⟨badN_none hu, fun n z hz => by rw [hu] at hz; cases hz⟩
  | some z => exact absurd (num_of hu) (h z)

/-- the package-level variables that are read -/
structure Vars (w : World) : Prop where
  pow : PowTab w
  syn : ∃ ev, w.cell? ⟨5, 0, none⟩ = some ev ∧ (ev = .nilIface ∨ ∃ te pe, ev = .iface te pe)
  rng : ∃ ev, w.cell? ⟨6, 0, none⟩ = some ev ∧ (ev = .nilIface ∨ ∃ te pe, ev = .iface te pe)
  max : ∃ m, w.cell? ⟨2, 0, none⟩ = some (.int .i64 m)
theorem cell_upon {w w' : World} {p : Addr} {v : Value} (hb : Below w.heap.size w w') (h : w.cell? p = some v) : w'.cell? p = some v := by
  rw [hb.cell (World.block_lt_of_cell? _ _ h)]; exact h
theorem Vars.later {w w' : World} (h : Vars w) (hb : Below w.heap.size w w') : Vars w' := by
  obtain ⟨e1, h1, k1⟩ := h.syn
  obtain ⟨e2, h2, k2⟩ := h.rng
  obtain ⟨m, hm⟩ := h.max
  exact ⟨h.pow.later hb, ⟨e1, cell_upon hb h1, k1⟩, ⟨e2, cell_upon hb h2, k2⟩, ⟨m, cell_upon hb hm⟩⟩
theorem below_bw (w : World) (e : TypeId) (s : ByteArray) : Below w.heap.size w (Lib.bytesWorld w e s) :=
  ⟨rfl, rfl, rfl, by simp [Lib.bytesWorld, World.freeze], fun k hk => Lib.bytesWorld_at_old w e s k hk⟩
theorem fmt_all {e : Int} (h0 : -9223372036854775808 ≤ e) (h1 : e ≤ 9223372036854775807) (w : World) (ht : PowTab w) :
    Calls Tryd.prog 58 #[.int .i64 e, .int .i64 10] w fun r w' => r = .returned (.string (ofNats (decI e))) ∧ Below w.heap.size w w' := by
  refine (Tryd.strconv_FormatInt_10 e h0 h1 w ht).mono ?_
  rintro r w' ⟨rfl, k, os, rfl⟩
  refine ⟨by rw [itoa_nats], ?_⟩
  exact ⟨rfl, rfl, rfl, by simp [grow], fun j hj => by simp [grow, Array.getElem?_append, hj]⟩
/-- ParseInt at any text -/
theorem pint (L : List Nat) (hL : L.length ≤ 400) (w : World) (hv : Vars w) :
    Calls Tryd.prog 57 #[.string (ofNats L), .int .i64 10, .int .i64 64] w fun e w' => (∃ v : Int, -9223372036854775808 ≤ v ∧ v ≤ 9223372036854775807 ∧ LimOk L v ∧ ∃ x, e = .returned (.tuple #[.int .i64 v, x]) ∧ ((x = .nilIface ∧ (decide (0 ≤ v) && decide (decI v = L)) = !badN L) ∨ (badN L = true ∧ ∃ p, x = .iface 115 (.pointer p)))) ∧ Below w.heap.size w w' := by
  have hs : (ofNats L).size ≤ 400 := by rw [ofNats_size]; exact hL
  obtain ⟨e1, h1, k1⟩ := hv.syn
  obtain ⟨e2, h2, k2⟩ := hv.rng
  cases hp : Lib.parseIntB 64 (ofNats L).data.toList
  · rename_i u
    have hb : -9223372036854775808 ≤ u ∧ u ≤ 9223372036854775807 := by
      rw [Lib.parseIntB_64] at hp
      exact Lib.atoiAll_bounds hp
    obtain ⟨q1, q2⟩ := num_ok hp hb.2
    refine (Tryd.strconv_ParseInt_10_at64_ok (ofNats L) (by omega) u hp w).mono ?_
    rintro e w' ⟨rfl, hw⟩
    refine ⟨⟨u, hb.1, hb.2, q2, _, rfl, .inl ⟨rfl, q1⟩⟩, ?_⟩
    rcases hw with rfl | ⟨t, rfl⟩
    · exact Below.refl _ _
    · exact below_bw _ _ _
  · obtain ⟨q1, q2⟩ := num_bad (L := L) (fun v e => by rw [hp] at e; cases e)
    have h := Any.strconv_ParseInt_10_at64_syntax Tryd.laysC174 (ofNats L) (by omega) hp e1 w h1 k1
    change Calls Tryd.prog 57 _ _ _ at h
    refine h.mono ?_
    rintro e w' ⟨N, rfl, _, _, hb⟩
    exact ⟨⟨0, by omega, by omega, q2 _, _, rfl, .inr ⟨q1, _, rfl⟩⟩, hb⟩
  · obtain ⟨q1, q2⟩ := num_bad (L := L) (fun v e => by rw [hp] at e; cases e)
    have h := Any.strconv_ParseInt_10_at64_range Tryd.laysC174 (ofNats L) (by omega) hp e2 w h2 k2
    change Calls Tryd.prog 57 _ _ _ at h
    refine h.mono ?_
    rintro e w' ⟨N, rfl, _, _, hb⟩
    have hsat := Lib.atoiSat_bounds (ofNats L).data.toList
    rw [← Lib.intSat_64] at hsat
    exact ⟨⟨_, hsat.1, hsat.2, q2 _, _, rfl, .inr ⟨q1, _, rfl⟩⟩, hb⟩
theorem eq_dec {L : List Nat} (h8 : B8 L) (v : Int) : ((ofNats (decI v)).toList == (ofNats L).toList) = decide (decI v = L) := by
  rw [Bool.eq_iff_iff, beq_iff_eq, decide_eq_true_eq]
  constructor
  · intro h
    rw [ByteArray.toList_eq, ByteArray.toList_eq] at h
    have h2 : nums (ofNats (decI v)) = nums (ofNats L) := by unfold nums; rw [h]
    rw [nums_ofNats h8, nums_ofNats (decI_b8 v)] at h2
    exact h2
  · rintro rfl; rfl
end Go.Proofs.YtggmhodogfngdaaDoor.Gt
