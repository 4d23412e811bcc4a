import Derived.Test.YtfafkohghgliaabDoorTuEsc
import Derived.Test.YtfafkohghgliaabDoorTuRefE
import Derived.Test.YtfafkohghgliaabDoorGtBld
import Derived.Test.YtfafkohghgliaabDoorShelf
import Derived.RangeFuncRecord
/- strings.Replace: a byte 0 is written as two. -/
namespace Go.Proofs.YtfafkohghgliaabDoor.Tu
open Go.RowKit Go.Sort Go.Proofs.YtfafkohghgliaabDoor
open Go.Proofs.YtfafkohghgliaabDoor.Rt (Bld)
set_option linter.unusedVariables false
set_option linter.unusedSectionVars false
variable [DecidableEq Vl]
set_option linter.unusedSimpArgs false

theorem old_new : ((⟨#[0]⟩ : ByteArray).toList == (⟨#[0, 255]⟩ : ByteArray).toList) = false :=
  (beq_nats (a := [0]) (b := [0, 255]) (by intro x hx; simp at hx; omega) (by intro x hx; simp at hx; omega)).trans (by decide)
set_option maxHeartbeats 1000000 in
theorem rep_no {s : List Nat} (h8 : B8 s) (h0 : 0 ∉ s) (w : World) : Calls Tryd.prog 88 #[.string (ofNats s), .string ⟨#[0]⟩, .string ⟨#[0, 255]⟩, .int .i64 (-1)] w fun e w' => e = .returned (.string (ofNats (esc s))) ∧ Below w.heap.size w w' := by
  have HC : ∀ w, Hid (Calls Tryd.prog 105 #[.string (ofNats s), .string ⟨#[0]⟩] w fun e w' => e = .returned (.int .i64 0) ∧ w' = w) := fun w => by
    have := Tryd.strings_Count_one (ofNats s) 0 w
    rw [count0 h8, List.count_eq_zero_of_not_mem h0] at this
    exact hid this
  rw [esc_no h0]
  have hne := old_new
  obtain ⟨b, hb⟩ : ∃ b, b = ofNats s := ⟨_, rfl⟩
  rw [← hb] at HC ⊢
  clear hb h8 h0
  go_enter Tryd.func88, Tryd.ntmps88
  go_wp2_with (go_at_call 105; refine (HC _).out.mono ?_; rintro e w2 ⟨rfl, hw⟩; replace hw := hw.symm; subst hw)
  go_ret
  exact ⟨rfl, Below.refl _ _⟩
set_option maxHeartbeats 4000000 in
theorem rep_yes {s : List Nat} (h8 : B8 s) (hl : s.length ≤ 67108864) (h0 : 0 ∈ s) (w : World) : Calls Tryd.prog 88 #[.string (ofNats s), .string ⟨#[0]⟩, .string ⟨#[0, 255]⟩, .int .i64 (-1)] w fun e w' => e = .returned (.string (ofNats (esc s))) ∧ Below w.heap.size w w' := by
  obtain ⟨n, hn⟩ : ∃ n, n = s.length := ⟨_, rfl⟩
  obtain ⟨m, hm⟩ : ∃ m, m = s.count 0 := ⟨_, rfl⟩
  have hm1 : 1 ≤ m := by rw [hm]; exact List.count_pos_iff.2 h0
  have hmn : m ≤ n := by rw [hm, hn]; exact List.count_le_length
  have HC : ∀ w, Hid (Calls Tryd.prog 105 #[.string (ofNats s), .string ⟨#[0]⟩] w fun e w' => e = .returned (.int .i64 (m : Int)) ∧ w' = w) := fun w => by
    have := Tryd.strings_Count_one (ofNats s) 0 w
    rw [count0 h8, ← hm] at this
    exact hid this
  have hsz : (ofNats s).size = n := by rw [ofNats_size, hn]
  have HI := hid (show _ ∧ _ ∧ _ from ⟨h8, hn, hm⟩)
  have hne := old_new
  rw [← hn] at hl
  have hm2 : ((m : Int) == 0) = false := by simp; omega
  obtain ⟨b, hb⟩ : ∃ b, b = ofNats s := ⟨_, rfl⟩
  have HBE := hid hb
  rw [← hb] at HC hsz ⊢
  clear hb hn hm h8 h0
  have HG : ∀ w1 : World, w1.heap[w.heap.size]? = some (.cells #[.pointer none, .slice none 0 0] 79 (0, 0)) → w.heap.size ≤ w1.heap.size → Hid (Calls Tryd.prog 52 #[.pointer (some ⟨w.heap.size, 0, none⟩), .int .i64 ((n : Int) + (m : Int))] w1 fun e w' => e = .returned (.tuple #[]) ∧ (Lib.BuilderAt 79 5 w.heap.size w.heap.size (.pointer (some ⟨w.heap.size, 0, none⟩)) [] w' ∧ Below w.heap.size w1 w')) := fun w1 h1 h2 =>
    hid (Tryd.Builder_Grow_fresh w.heap.size w.heap.size (n + m) w1 (Nat.le_refl _) h1 h2 (by omega))
  have hWA : (w.alloc (.cells #[.pointer none, .slice none 0 0] 79)).heap[w.heap.size]? = some (.cells #[.pointer none, .slice none 0 0] 79 (0, 0)) := World.alloc_heap_new _ _
  have HW := hid hWA
  clear hWA
  go_enter Tryd.func88, Tryd.ntmps88
  go_wp2_with (first
    | (go_at_call 105; refine (HC _).out.mono ?_; rintro e w2 ⟨rfl, hw⟩; replace hw := hw.symm; subst hw)
    | (go_at_call 52; go_loud (refine (HG _ HW.out (by simp)).out.mono ?_; rintro e w3 ⟨rfl, hb3, hl3⟩; have HB3 : Hid (Bld w w3 w.heap.size []) := hid ⟨.inr hb3, (Below.al (Below.refl _ _) _).trans hl3⟩; clear hb3 hl3)))
  go_loopg [11, 12, 53] m (fun g s11 s12 s53 wr => ∃ (i st : Nat) (d r : List Nat), i ≤ m ∧ g = m - i ∧ s53 = .int .i64 i ∧ s11 = .int .i64 st ∧ st ≤ n ∧ Hid (s = d ++ r ∧ d.length = st ∧ r.count 0 = m - i) ∧ Hid (Bld w wr w.heap.size (esc d)))
  case atStart => exact ⟨0, 0, [], s, by omega, by omega, rfl, rfl, by omega, hid ⟨rfl, rfl, by rw [← HI.out.2.2]; rfl⟩, HB3.out⟩
  case round =>
    obtain ⟨i, st, d, r, hi, rfl, rfl, rfl, hst, HR, HB⟩ := hrel
    clear HB3 HC HG HW
    have hex : b.extract st n = ofNats r := by rw [HBE.out, ofNats_extract HI.out.1, HI.out.2.1, List.take_length, HR.out.1, List.drop_left' HR.out.2.1]
    have r8 : B8 r := fun x hx => HI.out.1 x (by rw [HR.out.1]; exact List.mem_append_right _ hx)
    have hrl : st + r.length = n := by have := congrArg List.length HR.out.1; rw [List.length_append, HR.out.2.1, ← HI.out.2.1] at this; omega
    have hel : (esc d).length ≤ 134217728 := by have := (esc_len d).2; have := HR.out.2.1; omega
    by_cases hlt : i < m
    · have hr0 : 0 ∈ r := List.count_pos_iff.1 (by rw [HR.out.2.2]; omega)
      obtain ⟨p, t, rfl, hp⟩ := cut0 hr0
      have p8 : B8 p := fun x hx => r8 x (List.mem_append_left _ hx)
      have hix := fun w => Tryd.strings_Index_one (ofNats (p ++ 0 :: t)) 0 w
      rw [ix0_at p8 hp] at hix
      obtain ⟨q, hq⟩ : ∃ q, q = p.length := ⟨_, rfl⟩
      rw [← hq] at hix
      have hrl2 : st + q + 1 ≤ n := by rw [List.length_append, List.length_cons] at hrl; omega
      have HX : ∀ w, Hid (Calls Tryd.prog 82 #[.string (b.extract st n), .string ⟨#[0]⟩] w fun e w' => e = .returned (.int .i64 (q : Int)) ∧ w' = w) := fun w => by rw [hex]; exact hid (hix w)
      have hex2 : b.extract st (st + q) = ofNats p := by
        rw [HBE.out, ofNats_extract HI.out.1, HR.out.1, ← HR.out.2.1, List.drop_take, List.drop_left, hq]
        simp
      have hj : ((st : Int) + (q : Int)).toNat = st + q := by omega
      have HW1 : ∀ w' : World, Bld w w' w.heap.size (esc d) → Hid (Calls Tryd.prog 53 #[.pointer (some ⟨w.heap.size, 0, none⟩), .string (b.extract st (st + q))] w' fun e w'' => e = .returned (.tuple #[.int .i64 p.length, .nilIface]) ∧ Bld w w'' w.heap.size (esc d ++ p) ∧ Rt.Oth w' w'' w.heap.size) := fun w' hB => by rw [hex2]; exact hid (Rt.adds_is hB (by omega))
      have HW2 : ∀ w' : World, Bld w w' w.heap.size (esc d ++ p) → Hid (Calls Tryd.prog 53 #[.pointer (some ⟨w.heap.size, 0, none⟩), .string ⟨#[0, 255]⟩] w' fun e w'' => e = .returned (.tuple #[.int .i64 2, .nilIface]) ∧ Bld w w'' w.heap.size (esc d ++ p ++ [0, 255]) ∧ Rt.Oth w' w'' w.heap.size) := fun w' hB => hid (Rt.adds_is (m := [0, 255]) hB (by rw [List.length_append]; simp; omega))
      have HE : Hid (esc (d ++ (p ++ [0])) = esc d ++ p ++ [0, 255]) := by show _ = _; rw [esc_app, esc_cut (t := []) hp]; simp [esc]
      have HN : Hid (s = (d ++ (p ++ [0])) ++ t ∧ (d ++ (p ++ [0])).length = st + q + 1 ∧ t.count 0 = m - (i + 1)) := by
        refine hid ⟨by rw [HR.out.1]; simp, by simp [HR.out.2.1, hq]; omega, ?_⟩
        have := HR.out.2.2
        rw [List.count_append, List.count_eq_zero_of_not_mem hp, List.count_cons] at this
        simp at this
        omega
      clear hr0 p8 r8 hp hix hq hex hex2 hrl
      go_wp2_with (first
        | (go_at_call 82; refine (HX _).out.mono ?_; rintro e w2 ⟨rfl, hw⟩; replace hw := hw.symm; subst hw)
        | (go_at_call 53; go_loud (first | (have hd3 := HD3.out; refine (HW2 _ hd3).out.mono ?_; clear hd3; rintro e w4 ⟨rfl, hd4, hoth⟩; clear hoth; have HD4 := hid hd4; clear hd4) | (refine (HW1 _ HB.out).out.mono ?_; rintro e w3 ⟨rfl, hd3, hoth⟩; clear hoth; have HD3 := hid hd3; clear hd3))))
      go_roundg (m - (i + 1))
      case measure => omega
      case rel => exact ⟨i + 1, st + q + 1, d ++ (p ++ [0]), t, by omega, rfl, by go_num, by go_num, hrl2, HN, by have := HD4.out; rw [← HE.out] at this; exact this⟩
    · obtain rfl : i = m := by omega
      have hr0 : 0 ∉ r := List.count_eq_zero.1 (by rw [HR.out.2.2]; omega)
      have HE : Hid (esc s = esc d ++ r) := by show _ = _; rw [HR.out.1, esc_app, esc_no hr0]
      have HW1 : ∀ w' : World, Bld w w' w.heap.size (esc d) → Hid (Calls Tryd.prog 53 #[.pointer (some ⟨w.heap.size, 0, none⟩), .string (b.extract st n)] w' fun e w'' => e = .returned (.tuple #[.int .i64 r.length, .nilIface]) ∧ Bld w w'' w.heap.size (esc d ++ r) ∧ Rt.Oth w' w'' w.heap.size) := fun w' hB => by rw [hex]; exact hid (Rt.adds_is hB (by omega))
      clear hex hr0 r8
      go_wp2_with (first
        | (go_at_call 53; refine (HW1 _ HB.out).out.mono ?_; rintro e w3 ⟨rfl, hd3, hoth⟩; clear hoth; have HD3 := hid hd3; clear hd3)
        | (go_at_call 54; refine (Rt.text_is HD3.out).mono ?_; rintro e w4 ⟨rfl, hb4⟩))
      go_ret
      exact ⟨ret_s (by rw [HE.out]), hb4⟩
theorem rep_is {s : List Nat} (h8 : B8 s) (hl : s.length ≤ 67108864) (w : World) : Calls Tryd.prog 88 #[.string (ofNats s), .string ⟨#[0]⟩, .string ⟨#[0, 255]⟩, .int .i64 (-1)] w fun e w' => e = .returned (.string (ofNats (esc s))) ∧ Below w.heap.size w w' := by
  by_cases h0 : 0 ∈ s
  · exact rep_yes h8 hl h0 w
  · exact rep_no h8 h0 w
theorem repall_is {s : List Nat} (h8 : B8 s) (hl : s.length ≤ 67108864) (w : World) : Calls Tryd.prog 66 #[.string (ofNats s), .string ⟨#[0]⟩, .string ⟨#[0, 255]⟩] w fun e w' => e = .returned (.string (ofNats (esc s))) ∧ Below w.heap.size w w' := by
  have HI := fun w => hid (rep_is h8 hl w)
  clear h8 hl
  go_enter Tryd.func66, Tryd.ntmps66
  go_wp2_with (go_at_call 88; refine (HI _).out.mono ?_; rintro e w2 ⟨rfl, hb2⟩)
  go_ret
  exact ⟨rfl, hb2⟩
end Go.Proofs.YtfafkohghgliaabDoor.Tu
