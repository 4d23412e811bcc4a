import Derived.Test.YtfkiccdjffhhhaaGreatDoorRdLines
import Derived.Test.YtfkiccdjffhhhaaGreatDoorBase0
import Derived.Test.YtfkiccdjffhhhaaGreatDoorShelf
import Derived.Shelf.Strings.SlTrimAscii
import Derived.Lib.QuietBelow
import Derived.BigQuiet
/- A number, read by the program. -/
namespace Go.Proofs.YtfkiccdjffhhhaaGreatDoor.Rt
open Go.RowKit Go.Sort
set_option linter.unusedVariables false

def digits : ByteArray := ⟨#[48, 49, 50, 51, 52, 53, 54, 55, 56, 57]⟩
theorem dig_in {b : UInt8} (h : 48 ≤ b.toNat ∧ b.toNat ≤ 57) : digits.data.toList.contains b = true := by
  have : ∀ n : Fin 256, 48 ≤ n.val ∧ n.val ≤ 57 → digits.data.toList.contains (UInt8.ofNat n.val) = true := by decide +kernel
  have e := this ⟨b.toNat, b.toNat_lt⟩ h
  simpa using e
theorem drew_n {B : Nat} {a w : World} (h : RowKit.Below B a w) (n : Nat) : RowKit.Below B a (w.drewN n) := ⟨h.os, h.tape, h.output, h.size, h.block⟩
theorem trim_is {t : ByteArray} (h0 : 0 < t.size) (hs : t.size ≤ 1000) (hd : ∀ b ∈ t.data.toList, 48 ≤ b.toNat ∧ b.toNat ≤ 57) (w : World) :
    Calls Tryz.prog 70 #[.string t, .string ⟨#[48, 49, 50, 51, 52, 53, 54, 55, 56, 57]⟩] w fun e w' => e = .returned (.string ⟨#[]⟩) ∧ Below w.heap.size w w' := by
  refine (Any.strings_Trim_set Tryz.lays160 (by intro w; kernel_rfl) (by kernel_rfl) t digits w (by decide) h0 (by omega) (by decide) (fun j b hj => ?_)).mono ?_
  · have : ∀ x ∈ digits.data.toList, x.toNat < 128 := by decide
    exact this b (List.mem_of_getElem? hj)
  · rintro e w' ⟨rfl, q, rfl⟩
    have e0 : Lib.trimS t.data.toList digits.data.toList = [] := (trim_nil _ _).2 fun b hb => dig_in (hd b hb)
    rw [e0]
    refine ⟨rfl, ?_⟩
    exact drew_n (Below.al (Below.al (Below.refl _ _) _) _) q
set_option maxRecDepth 16000 in
theorem is_nil {ty : TypeId} {a : Option Addr} (w : World) : Calls Tryz.prog 30 #[.nilIface, .iface ty (.pointer a)] w fun e w' => e = .returned (.bool false) ∧ w' = w := by
  go_enter Tryz.func30, Tryz.ntmps30
  have hq : ∀ w, (binOp .eql 44 .nilIface (.iface ty (.pointer a))).run Tryz.prog w = .ok (.bool false) w := fun w => by kernel_rfl
  go_wp2_with fail
  go_ret
  exact ⟨rfl, rfl⟩
theorem bytes_below (w : World) (e : TypeId) (s : ByteArray) : Below w.heap.size w (Lib.bytesWorld w e s) :=
  ⟨rfl, rfl, rfl, by simp [Lib.bytesWorld, World.freeze], fun k hk => Lib.bytesWorld_at_old w e s k hk⟩
/-- a number's digits, read -/
theorem parse_is {u : Nat} {t : ByteArray} (hu : u < 18446744073709551616) (ht : t.data.toList = Lib.decDigits u) (hs : t.size ≤ 1000) (w : World) :
    Calls Tryz.prog 71 #[.string t, .int .i64 10, .int .i64 64] w fun e w' => e = .returned (.tuple #[.int .u64 (u : Nat), .nilIface]) ∧ Below w.heap.size w w' := by
  refine (Tryz.strconv_ParseUint_10_at64_ok t (by omega) u ?_ w).mono ?_
  · have h := parse_dec u u [] (Nat.le_refl _) hu
    rw [List.append_nil] at h
    have hne := (dec_digits u u (Nat.le_refl _)).2.1
    rw [ht]
    unfold Lib.parseUintB
    simp [hne, h, Lib.parseUintM_64, Lib.parseUint10]
  · rintro e w' ⟨rfl, rfl | rfl⟩
    · exact ⟨rfl, Below.refl _ _⟩
    · exact ⟨rfl, bytes_below w _ t⟩
set_option maxRecDepth 16000 in
set_option maxHeartbeats 2000000 in
theorem number_is {u : Nat} {t : ByteArray} {ty : TypeId} {a : Option Addr} {w : World} (hu : u < 18446744073709551616) (ht : t.data.toList = Lib.decDigits u) (hs : t.size ≤ 1000) (hg : w.cell? ⟨6, 0, none⟩ = some (.iface ty (.pointer a))) :
    Calls Tryz.prog 64 #[.string t] w fun e w' => e = .returned (.tuple #[.int .u64 (u : Nat), .nilIface]) ∧ Below w.heap.size w w' := by
  obtain ⟨h1, h2, h3⟩ := dec_digits u u (Nat.le_refl _)
  have h0 : 0 < t.size := by
    rw [Lib.size_eq, ht]
    exact List.length_pos_iff.2 h2
  have HT : Hid (∀ wz, _) := hid fun wz => trim_is (t := t) h0 hs (fun b hb => h1 b (by rw [← ht]; exact hb)) wz
  have HP : Hid (∀ wz, _) := hid fun wz => parse_is hu ht hs wz
  have HG := hid hg
  obtain ⟨n, hn⟩ : ∃ n, n = t.size := ⟨_, rfl⟩
  by_cases hl : 1 < t.size
  · have hI : (1 : Int) < (t.size : Int) := by omega
    have hx : (((t[0]'h0).toNat : Int) == 48) = false := by
      have h4 : 1 ≤ u := by
        rcases Nat.eq_zero_or_pos u with h | h
        · subst h
          have : t.size = 1 := by rw [Lib.size_eq, ht, Lib.decDigits, dif_pos (by decide)]; rfl
          omega
        · exact h
      have h5 := h3 h4
      rw [← ht] at h5
      have h6 : t.data.toList.head? = some (t[0]'h0) := by
        rw [List.head?_eq_getElem?, Array.getElem?_toList]
        exact Array.getElem?_eq_getElem (by exact h0)
      rw [h6] at h5
      rw [beq_eq_false_iff_ne]
      intro h7
      apply h5
      congr 1
      apply UInt8.toNat_inj.1
      have : (48 : UInt8).toNat = 48 := rfl
      omega
    go_enter Tryz.func64, Tryz.ntmps64
    go_wp2_with fail
    refine (HT.out _).mono ?_
    rintro e w1 ⟨rfl, hb1⟩
    go_wp2_with fail
    refine (HP.out _).mono ?_
    rintro e w2 ⟨rfl, hb2⟩
    have hb02 := Below.on hb1 hb2
    have g := cell_later hb02 hg
    go_wp2_with fail
    refine (is_nil _).mono ?_
    rintro e w3 ⟨rfl, rfl⟩
    go_wp2_with fail
    go_ret2
    exact ⟨rfl, hb02⟩
  · have hI : ¬ (1 : Int) < (t.size : Int) := by omega
    have hd : decide ((1 : Int) < (t.size : Int)) = false := decide_eq_false hI
    go_enter Tryz.func64, Tryz.ntmps64
    go_wp2_with fail
    refine (HT.out _).mono ?_
    rintro e w1 ⟨rfl, hb1⟩
    go_wp2_with fail
    refine (HP.out _).mono ?_
    rintro e w2 ⟨rfl, hb2⟩
    have hb02 := Below.on hb1 hb2
    have g := cell_later hb02 hg
    go_wp2_with fail
    refine (is_nil _).mono ?_
    rintro e w3 ⟨rfl, rfl⟩
    go_wp2_with fail
    go_ret2
    exact ⟨rfl, hb02⟩
end Go.Proofs.YtfkiccdjffhhhaaGreatDoor.Rt
