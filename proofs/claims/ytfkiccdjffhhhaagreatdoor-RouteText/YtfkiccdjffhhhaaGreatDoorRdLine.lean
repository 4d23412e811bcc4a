import Derived.Test.YtfkiccdjffhhhaaGreatDoorRdNum
import Derived.Test.YtfkiccdjffhhhaaGreatDoorRdDraft
/- A line, taken. -/
namespace Go.Proofs.YtfkiccdjffhhhaaGreatDoor.Rt
open Go.RowKit Go.Sort
set_option linter.unusedVariables false

theorem line_facts {k : Nat} {L t : ByteArray} (hL : L.data.toList = ln k t.data.toList) : ∃ h0 : 0 < L.size, (((L[0]'h0).toNat : Int) == 35) = false ∧ L.toList.isEmpty = false ∧ (⟨(Lib.cut L.data.toList [32]).1.toArray⟩ : ByteArray) = ⟨(nm k).toArray⟩ ∧ (⟨(Lib.cut L.data.toList [32]).2.1.toArray⟩ : ByteArray) = t := by
  obtain ⟨b, r, e, hb, _⟩ := nm_head k
  have h0 : 0 < L.size := by rw [Lib.size_eq, hL]; unfold ln; rw [e]; simp
  have h6 : L.data.toList.head? = some (L[0]'h0) := by
    rw [List.head?_eq_getElem?, Array.getElem?_toList]
    exact Array.getElem?_eq_getElem (by exact h0)
  refine ⟨h0, ?_, ?_, ?_, ?_⟩
  · rw [hL] at h6
    unfold ln at h6
    rw [e] at h6
    have h7 : b = L[0]'h0 := by simpa using h6
    rw [← h7, beq_eq_false_iff_ne]
    intro h8
    apply hb
    apply UInt8.toNat_inj.1
    have : (35 : UInt8).toNat = 35 := rfl
    omega
  · rw [Lib.toList_data, hL]; unfold ln; rw [e]; rfl
  · rw [(cut_is _).1, hL, ln_head]
  · rw [(cut_is _).2, hL, ln_tail]
set_option maxRecDepth 16000 in
set_option maxHeartbeats 2000000 in
theorem take0_is {p : Nat} {L t : ByteArray} {w : World} {m : Int} {r : Value} {R : World → Prop} (hL : L.data.toList = ln 0 t.data.toList) (hs : L.size ≤ 1000) (hg : w.cell? ⟨7, 0, none⟩ = some (.int .i64 m))
    (FT : ∀ n, Calls Tryz.prog 54 #[.pointer (some ⟨p, 0, none⟩), .string t] (w.drewN n) fun e w' => e = .returned r ∧ R w') :
    Calls Tryz.prog 37 #[.pointer (some ⟨p, 0, none⟩), .string L] w fun e w' => e = .returned r ∧ R w' := by
  obtain ⟨h0, h35, hne, e1, e2⟩ := line_facts hL
  have HC := hid (Tryz.strings_Cut L ⟨#[32]⟩ m w (by omega) hg)
  have hd : (⟨#[32]⟩ : ByteArray).data.toList = [32] := rfl
  rw [hd, e1, e2] at HC
  have FT' := hid FT
  clear FT
  go_enter Tryz.func37, Tryz.ntmps37
  go_wp2_with fail
  refine HC.out.mono ?_
  rintro e w1 ⟨rfl, n, rfl⟩
  go_wp2_with fail
  refine (FT'.out n).mono ?_
  rintro e w2 ⟨rfl, h2⟩
  go_wp2_with fail
  go_ret
  exact ⟨rfl, h2⟩
set_option maxRecDepth 16000 in
set_option maxHeartbeats 2000000 in
theorem take1_is {p : Nat} {L t : ByteArray} {w : World} {m : Int} {r : Value} {R : World → Prop} (hL : L.data.toList = ln 1 t.data.toList) (hs : L.size ≤ 1000) (hg : w.cell? ⟨7, 0, none⟩ = some (.int .i64 m))
    (FT : ∀ n, Calls Tryz.prog 54 #[.pointer (some ⟨p, 2, none⟩), .string t] (w.drewN n) fun e w' => e = .returned r ∧ R w') :
    Calls Tryz.prog 37 #[.pointer (some ⟨p, 0, none⟩), .string L] w fun e w' => e = .returned r ∧ R w' := by
  obtain ⟨h0, h35, hne, e1, e2⟩ := line_facts hL
  have HC := hid (Tryz.strings_Cut L ⟨#[32]⟩ m w (by omega) hg)
  have hd : (⟨#[32]⟩ : ByteArray).data.toList = [32] := rfl
  rw [hd, e1, e2] at HC
  have FT' := hid FT
  clear FT
  go_enter Tryz.func37, Tryz.ntmps37
  go_wp2_with fail
  refine HC.out.mono ?_
  rintro e w1 ⟨rfl, n, rfl⟩
  go_wp2_with fail
  refine (FT'.out n).mono ?_
  rintro e w2 ⟨rfl, h2⟩
  go_wp2_with fail
  go_ret
  exact ⟨rfl, h2⟩
set_option maxRecDepth 16000 in
set_option maxHeartbeats 2000000 in
theorem take2_is {p : Nat} {L t : ByteArray} {w : World} {m : Int} {r : Value} {R : World → Prop} (hL : L.data.toList = ln 2 t.data.toList) (hs : L.size ≤ 1000) (hg : w.cell? ⟨7, 0, none⟩ = some (.int .i64 m))
    (FT : ∀ n, Calls Tryz.prog 54 #[.pointer (some ⟨p, 4, none⟩), .string t] (w.drewN n) fun e w' => e = .returned r ∧ R w') :
    Calls Tryz.prog 37 #[.pointer (some ⟨p, 0, none⟩), .string L] w fun e w' => e = .returned r ∧ R w' := by
  obtain ⟨h0, h35, hne, e1, e2⟩ := line_facts hL
  have HC := hid (Tryz.strings_Cut L ⟨#[32]⟩ m w (by omega) hg)
  have hd : (⟨#[32]⟩ : ByteArray).data.toList = [32] := rfl
  rw [hd, e1, e2] at HC
  have FT' := hid FT
  clear FT
  go_enter Tryz.func37, Tryz.ntmps37
  go_wp2_with fail
  refine HC.out.mono ?_
  rintro e w1 ⟨rfl, n, rfl⟩
  go_wp2_with fail
  refine (FT'.out n).mono ?_
  rintro e w2 ⟨rfl, h2⟩
  go_wp2_with fail
  go_ret
  exact ⟨rfl, h2⟩
set_option maxRecDepth 16000 in
set_option maxHeartbeats 2000000 in
theorem take3_is {p : Nat} {L t : ByteArray} {w : World} {m : Int} {r : Value} {R : World → Prop} (hL : L.data.toList = ln 3 t.data.toList) (hs : L.size ≤ 1000) (hg : w.cell? ⟨7, 0, none⟩ = some (.int .i64 m))
    (FT : ∀ n, Calls Tryz.prog 54 #[.pointer (some ⟨p, 6, none⟩), .string t] (w.drewN n) fun e w' => e = .returned r ∧ R w') :
    Calls Tryz.prog 37 #[.pointer (some ⟨p, 0, none⟩), .string L] w fun e w' => e = .returned r ∧ R w' := by
  obtain ⟨h0, h35, hne, e1, e2⟩ := line_facts hL
  have HC := hid (Tryz.strings_Cut L ⟨#[32]⟩ m w (by omega) hg)
  have hd : (⟨#[32]⟩ : ByteArray).data.toList = [32] := rfl
  rw [hd, e1, e2] at HC
  have FT' := hid FT
  clear FT
  go_enter Tryz.func37, Tryz.ntmps37
  go_wp2_with fail
  refine HC.out.mono ?_
  rintro e w1 ⟨rfl, n, rfl⟩
  go_wp2_with fail
  refine (FT'.out n).mono ?_
  rintro e w2 ⟨rfl, h2⟩
  go_wp2_with fail
  go_ret
  exact ⟨rfl, h2⟩
set_option maxRecDepth 16000 in
set_option maxHeartbeats 2000000 in
theorem take4_is {p : Nat} {L t : ByteArray} {w : World} {m : Int} {r : Value} {R : World → Prop} (hL : L.data.toList = ln 4 t.data.toList) (hs : L.size ≤ 1000) (hg : w.cell? ⟨7, 0, none⟩ = some (.int .i64 m))
    (FT : ∀ n, Calls Tryz.prog 54 #[.pointer (some ⟨p, 8, none⟩), .string t] (w.drewN n) fun e w' => e = .returned r ∧ R w') :
    Calls Tryz.prog 37 #[.pointer (some ⟨p, 0, none⟩), .string L] w fun e w' => e = .returned r ∧ R w' := by
  obtain ⟨h0, h35, hne, e1, e2⟩ := line_facts hL
  have HC := hid (Tryz.strings_Cut L ⟨#[32]⟩ m w (by omega) hg)
  have hd : (⟨#[32]⟩ : ByteArray).data.toList = [32] := rfl
  rw [hd, e1, e2] at HC
  have FT' := hid FT
  clear FT
  go_enter Tryz.func37, Tryz.ntmps37
  go_wp2_with fail
  refine HC.out.mono ?_
  rintro e w1 ⟨rfl, n, rfl⟩
  go_wp2_with fail
  refine (FT'.out n).mono ?_
  rintro e w2 ⟨rfl, h2⟩
  go_wp2_with fail
  go_ret
  exact ⟨rfl, h2⟩
set_option maxRecDepth 16000 in
set_option maxHeartbeats 2000000 in
theorem take5_is {p : Nat} {L t : ByteArray} {w : World} {m : Int} {r : Value} {R : World → Prop} (hL : L.data.toList = ln 5 t.data.toList) (hs : L.size ≤ 1000) (hg : w.cell? ⟨7, 0, none⟩ = some (.int .i64 m))
    (FT : ∀ n, Calls Tryz.prog 55 #[.pointer (some ⟨p, 0, none⟩), .string t] (w.drewN n) fun e w' => e = .returned r ∧ R w') :
    Calls Tryz.prog 37 #[.pointer (some ⟨p, 0, none⟩), .string L] w fun e w' => e = .returned r ∧ R w' := by
  obtain ⟨h0, h35, hne, e1, e2⟩ := line_facts hL
  have HC := hid (Tryz.strings_Cut L ⟨#[32]⟩ m w (by omega) hg)
  have hd : (⟨#[32]⟩ : ByteArray).data.toList = [32] := rfl
  rw [hd, e1, e2] at HC
  have FT' := hid FT
  clear FT
  go_enter Tryz.func37, Tryz.ntmps37
  go_wp2_with fail
  refine HC.out.mono ?_
  rintro e w1 ⟨rfl, n, rfl⟩
  go_wp2_with fail
  refine (FT'.out n).mono ?_
  rintro e w2 ⟨rfl, h2⟩
  go_wp2_with fail
  go_ret
  exact ⟨rfl, h2⟩
theorem takeE_is {p : Nat} {w : World} : Calls Tryz.prog 37 #[.pointer (some ⟨p, 0, none⟩), .string ⟨#[]⟩] w fun e w' => e = .returned .nilIface ∧ w' = w := by
  go_enter Tryz.func37, Tryz.ntmps37
  go_wp2_with fail
  go_ret
  exact ⟨rfl, rfl⟩
theorem takeH_is {p : Nat} {L : ByteArray} {r : List UInt8} {w : World} (hL : L.data.toList = 35 :: r) : Calls Tryz.prog 37 #[.pointer (some ⟨p, 0, none⟩), .string L] w fun e w' => e = .returned .nilIface ∧ w' = w := by
  have h0 : 0 < L.size := by rw [Lib.size_eq, hL]; simp
  have hne : L.toList.isEmpty = false := by rw [Lib.toList_data, hL]; rfl
  have h35 : (((L[0]'h0).toNat : Int) == 35) = true := by
    have h6 : L.data.toList.head? = some (L[0]'h0) := by
      rw [List.head?_eq_getElem?, Array.getElem?_toList]
      exact Array.getElem?_eq_getElem (by exact h0)
    rw [hL] at h6
    have h7 : (35 : UInt8) = L[0]'h0 := by simpa using h6
    rw [← h7]
    rfl
  go_enter Tryz.func37, Tryz.ntmps37
  go_wp2_with fail
  go_ret
  exact ⟨rfl, rfl⟩
end Go.Proofs.YtfkiccdjffhhhaaGreatDoor.Rt
