import Derived.Test.YtodolbekbeccbabDoorText
import Derived.WideLaws
namespace Go.Proofs.YtodolbekbeccbabDoor
open Go.RowKit Go.Sort

/-- the package-level variables that are read -/
structure Vars (w : World) : Prop where
  pow : PowTab w
  syn : ∃ ev, w.cell? ⟨2, 0, none⟩ = some ev ∧ (ev = .nilIface ∨ ∃ te pe, ev = .iface te pe)
  rng : ∃ ev, w.cell? ⟨3, 0, none⟩ = some ev ∧ (ev = .nilIface ∨ ∃ te pe, ev = .iface te pe)
  max : ∃ m, w.cell? ⟨0, 0, none⟩ = some (.int .i64 m)

theorem Vars.later {w w' : World} (h : Vars w) (hb : Below w.heap.size w w') : Vars w' := by
  obtain ⟨e1, h1, k1⟩ := h.syn
  obtain ⟨e2, h2, k2⟩ := h.rng
  obtain ⟨m, hm⟩ := h.max
  exact ⟨h.pow.later hb, ⟨e1, cell_later hb h1, k1⟩, ⟨e2, cell_later hb h2, k2⟩, ⟨m, cell_later hb hm⟩⟩

theorem below_bytesWorld (w : World) (e : TypeId) (s : ByteArray) : Below w.heap.size w (Lib.bytesWorld w e s) :=
  ⟨rfl, rfl, rfl, by simp [Lib.bytesWorld, World.freeze], fun k hk => Lib.bytesWorld_at_old w e s k hk⟩
theorem below_drewN (w : World) (n : Nat) : Below w.heap.size w (w.drewN n) := ⟨rfl, rfl, rfl, Nat.le_refl _, fun _ _ => rfl⟩

/-- what a text spells, as a number of so many bits -/
def pu (B : Nat) (l : List UInt8) : Option Nat := match Lib.parseUintB B l with | .ok u => some u | _ => none

/-- ParseUint at 64 and at 32 bits -/
theorem pu64 (s : ByteArray) (hs : s.size ≤ 100) (w : World) (hv : Vars w) :
    Calls Tryd.prog 15 #[.string s, .int .i64 10, .int .i64 64] w fun e w' => (∃ v : Nat, v < 18446744073709551616 ∧ ∃ x, e = .returned (.tuple #[.int .u64 v, x]) ∧ ((∃ u, pu 64 s.data.toList = some u ∧ v = u ∧ x = .nilIface) ∨ (pu 64 s.data.toList = none ∧ ∃ p, x = .iface 57 p))) ∧ Below w.heap.size w w' := by
  obtain ⟨e1, h1, k1⟩ := hv.syn
  obtain ⟨e2, h2, k2⟩ := hv.rng
  cases hp : Lib.parseUintB 64 s.data.toList
  · rename_i u
    refine (Tryd.strconv_ParseUint_10_at64_ok s (by omega) u hp w).mono ?_
    rintro e w' ⟨rfl, hw⟩
    refine ⟨⟨u, ?_, _, rfl, .inl ⟨u, by simp [pu, hp], rfl, rfl⟩⟩, ?_⟩
    · have := Lib.parseUintB_le hp
      omega
    · rcases hw with rfl | rfl
      · exact Below.refl _ _
      · exact below_bytesWorld _ _ _
  · have h := Any.strconv_ParseUint_10_at64_syntax Tryd.laysPu14 s (by omega) hp e1 w h1 k1
    change Calls Tryd.prog 15 _ _ _ at h
    refine h.mono ?_
    rintro e w' ⟨N, rfl, _, _, hb⟩
    exact ⟨⟨0, by omega, _, rfl, .inr ⟨by simp [pu, hp], _, rfl⟩⟩, hb⟩
  · have h := Any.strconv_ParseUint_10_at64_range Tryd.laysPu14 s (by omega) hp e2 w h2 k2
    change Calls Tryd.prog 15 _ _ _ at h
    refine h.mono ?_
    rintro e w' ⟨N, rfl, _, _, hb⟩
    exact ⟨⟨18446744073709551615, by omega, _, rfl, .inr ⟨by simp [pu, hp], _, rfl⟩⟩, hb⟩

theorem pu32 (s : ByteArray) (hs : s.size ≤ 100) (w : World) (hv : Vars w) :
    Calls Tryd.prog 15 #[.string s, .int .i64 10, .int .i64 32] w fun e w' => (∃ v : Nat, v < 4294967296 ∧ ∃ x, e = .returned (.tuple #[.int .u64 v, x]) ∧ ((∃ u, pu 32 s.data.toList = some u ∧ v = u ∧ x = .nilIface) ∨ (pu 32 s.data.toList = none ∧ ∃ p, x = .iface 57 p))) ∧ Below w.heap.size w w' := by
  obtain ⟨e1, h1, k1⟩ := hv.syn
  obtain ⟨e2, h2, k2⟩ := hv.rng
  cases hp : Lib.parseUintB 32 s.data.toList
  · rename_i u
    refine (Tryd.strconv_ParseUint_10_at32_ok s (by omega) u hp w).mono ?_
    rintro e w' ⟨rfl, hw⟩
    refine ⟨⟨u, ?_, _, rfl, .inl ⟨u, by simp [pu, hp], rfl, rfl⟩⟩, ?_⟩
    · have := Lib.parseUintB_le hp
      omega
    · rcases hw with rfl | rfl
      · exact Below.refl _ _
      · exact below_bytesWorld _ _ _
  · have h := Any.strconv_ParseUint_10_at32_syntax Tryd.laysPu14 s (by omega) hp e1 w h1 k1
    change Calls Tryd.prog 15 _ _ _ at h
    refine h.mono ?_
    rintro e w' ⟨N, rfl, _, _, hb⟩
    exact ⟨⟨0, by omega, _, rfl, .inr ⟨by simp [pu, hp], _, rfl⟩⟩, hb⟩
  · have h := Any.strconv_ParseUint_10_at32_range Tryd.laysPu14 s (by omega) hp e2 w h2 k2
    change Calls Tryd.prog 15 _ _ _ at h
    refine h.mono ?_
    rintro e w' ⟨N, rfl, _, _, hb⟩
    exact ⟨⟨4294967295, by omega, _, rfl, .inr ⟨by simp [pu, hp], _, rfl⟩⟩, hb⟩

/-- a nought ahead of other digits -/
def zeroAhead (s : ByteArray) : Bool := decide (1 < s.size) && (s.data.toList.head? == some 48)
/-- a field in the one form that it may have -/
def pf (B : Nat) (l : List UInt8) : Option Nat := if decide (1 < l.length) && (l.head? == some 48) then none else pu B l

theorem zero_eq (s : ByteArray) : zeroAhead s = (decide (1 < s.data.toList.length) && (s.data.toList.head? == some 48)) := rfl
theorem head_of {s : ByteArray} (h : 1 < s.size) : s.data.toList.head? = some (s[0]'(by omega)) := by
  rw [List.head?_eq_getElem?]
  have : 0 < s.data.toList.length := by simpa using (show 0 < s.size by omega)
  rw [List.getElem?_eq_getElem this]
  rfl
theorem zero_yes (B : Nat) {s : ByteArray} (h : zeroAhead s = true) : ∃ h1 : 1 < s.size, (((s[0]'(by omega)).toNat : Int) == 48) = true ∧ pf B s.data.toList = none := by
  have h' := h
  simp only [zeroAhead, Bool.and_eq_true, decide_eq_true_eq, beq_iff_eq] at h'
  obtain ⟨h1, h2⟩ := h'
  refine ⟨h1, ?_, ?_⟩
  · rw [head_of h1] at h2
    have := Option.some.inj h2
    rw [this]; rfl
  · unfold pf; rw [← zero_eq, if_pos h]
theorem zero_no (B : Nat) {s : ByteArray} (h : ¬ zeroAhead s = true) : pf B s.data.toList = pu B s.data.toList := by
  unfold pf; rw [← zero_eq, if_neg h]
theorem zero_cases {s : ByteArray} (h : ¬ zeroAhead s = true) : ¬ 1 < s.size ∨ ∃ h1 : 1 < s.size, (((s[0]'(by omega)).toNat : Int) == 48) = false := by
  by_cases h1 : 1 < s.size
  · refine .inr ⟨h1, ?_⟩
    rw [beq_eq_false_iff_ne]
    intro e
    apply h
    simp only [zeroAhead, Bool.and_eq_true, decide_eq_true_eq, beq_iff_eq]
    refine ⟨h1, ?_⟩
    rw [head_of h1]
    congr 1
    apply UInt8.toNat_inj.1
    show _ = 48
    omega
  · exact .inl h1

set_option maxHeartbeats 1000000 in
theorem field64 (s : ByteArray) (hs : s.size ≤ 100) (w : World) (hv : Vars w) :
    Calls Tryd.prog 12 #[.string s, .int .i64 64] w fun e w' => (∃ v : Nat, v < 18446744073709551616 ∧ e = .returned (.tuple #[.int .u64 v, .bool (pf 64 s.data.toList).isSome]) ∧ ∀ u, pf 64 s.data.toList = some u → v = u) ∧ Below w.heap.size w w' := by
  have HV := hid hv
  clear hv
  by_cases hz : zeroAhead s = true
  · obtain ⟨h1, h0, hp⟩ := zero_yes 64 hz
    have HP := hid hp
    clear hp hz
    go_enter Tryd.func12, Tryd.ntmps12
    go_wp2_with fail
    go_ret2
    exact ⟨⟨0, by omega, by rw [HP.out]; rfl, fun u hu => by rw [HP.out] at hu; cases hu⟩, Below.refl _ _⟩
  · have hp := zero_no 64 hz
    have HP := hid hp
    have hcase : ¬ 1 < s.size ∨ ∃ h1 : 1 < s.size, (((s[0]'(by omega)).toNat : Int) == 48) = false := zero_cases hz
    clear hp hz
    rcases hcase with h1 | ⟨h1, h0⟩
    all_goals
      go_enter Tryd.func12, Tryd.ntmps12
      go_wp2_with fail
      refine (pu64 s hs _ HV.out).mono ?_
      rintro e w1 ⟨⟨v, hvb, x, rfl, hx⟩, hb⟩
      rcases hx with ⟨u, hu, rfl, rfl⟩ | ⟨hu, p, rfl⟩
      · have HU := hid hu
        clear hu
        go_wp2_with fail
        go_quiet (fail)
        go_wp2_with fail
        go_ret2
        exact ⟨⟨v, hvb, by rw [HP.out, HU.out]; rfl, fun u hu => by rw [HP.out, HU.out] at hu; exact Option.some.inj hu⟩, Below.on hb (below_drewN _ _)⟩
      · have HU := hid hu
        clear hu
        go_wp2_with fail
        go_quiet (fail)
        go_wp2_with fail
        go_ret2
        exact ⟨⟨v, hvb, by rw [HP.out, HU.out]; rfl, fun u hu => by rw [HP.out, HU.out] at hu; cases hu⟩, Below.on hb (below_drewN _ _)⟩

set_option maxHeartbeats 1000000 in
theorem field32 (s : ByteArray) (hs : s.size ≤ 100) (w : World) (hv : Vars w) :
    Calls Tryd.prog 12 #[.string s, .int .i64 32] w fun e w' => (∃ v : Nat, v < 4294967296 ∧ e = .returned (.tuple #[.int .u64 v, .bool (pf 32 s.data.toList).isSome]) ∧ ∀ u, pf 32 s.data.toList = some u → v = u) ∧ Below w.heap.size w w' := by
  have HV := hid hv
  clear hv
  by_cases hz : zeroAhead s = true
  · obtain ⟨h1, h0, hp⟩ := zero_yes 32 hz
    have HP := hid hp
    clear hp hz
    go_enter Tryd.func12, Tryd.ntmps12
    go_wp2_with fail
    go_ret2
    exact ⟨⟨0, by omega, by rw [HP.out]; rfl, fun u hu => by rw [HP.out] at hu; cases hu⟩, Below.refl _ _⟩
  · have hp := zero_no 32 hz
    have HP := hid hp
    have hcase : ¬ 1 < s.size ∨ ∃ h1 : 1 < s.size, (((s[0]'(by omega)).toNat : Int) == 48) = false := zero_cases hz
    clear hp hz
    rcases hcase with h1 | ⟨h1, h0⟩
    all_goals
      go_enter Tryd.func12, Tryd.ntmps12
      go_wp2_with fail
      refine (pu32 s hs _ HV.out).mono ?_
      rintro e w1 ⟨⟨v, hvb, x, rfl, hx⟩, hb⟩
      rcases hx with ⟨u, hu, rfl, rfl⟩ | ⟨hu, p, rfl⟩
      · have HU := hid hu
        clear hu
        go_wp2_with fail
        go_quiet (fail)
        go_wp2_with fail
        go_ret2
        exact ⟨⟨v, hvb, by rw [HP.out, HU.out]; rfl, fun u hu => by rw [HP.out, HU.out] at hu; exact Option.some.inj hu⟩, Below.on hb (below_drewN _ _)⟩
      · have HU := hid hu
        clear hu
        go_wp2_with fail
        go_quiet (fail)
        go_wp2_with fail
        go_ret2
        exact ⟨⟨v, hvb, by rw [HP.out, HU.out]; rfl, fun u hu => by rw [HP.out, HU.out] at hu; cases hu⟩, Below.on hb (below_drewN _ _)⟩

end Go.Proofs.YtodolbekbeccbabDoor
