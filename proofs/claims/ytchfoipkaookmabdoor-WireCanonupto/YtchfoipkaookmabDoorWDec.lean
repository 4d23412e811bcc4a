import Derived.Test.YtchfoipkaookmabDoorWOwn
import Derived.Test.YtchfoipkaookmabDoorWBits
import Derived.Defers
import Derived.Recover
namespace Go.Proofs.YtchfoipkaookmabDoor
open Go.RowKit Go.Sort
set_option linter.unusedVariables false

/-- what a take gives up with -/
abbrev fault (c : Int) : PanicEntry := { v := .iface 73 (.agg #[.int .i64 c]), recovered := false }
abbrev fault' (c : Int) : PanicEntry := { v := .iface 73 (.agg #[.int .i64 c]), recovered := true }

theorem ofNats_some {s : List Nat} (hs : ¬ s = []) : (ofNats s).toList.isEmpty = false := by
  rw [ByteArray.toList_eq]
  cases s with
  | nil => exact absurd rfl hs
  | cons x t => rfl

set_option maxHeartbeats 400000 in
theorem open_any {w : World} {s : List Nat} (hs : B8 s) :
    Calls Tryd.prog 9 #[.string (ofNats s)] w fun e w' => e = .returned (.pointer (some ⟨w.heap.size, 0, none⟩)) ∧ Below w.heap.size w w' ∧ w.heap.size < w'.heap.size ∧ DecR w' w.heap.size 0 s 0 := by
  go_enter Tryd.func9, Tryd.ntmps9
  go_wp2_with fail
  go_ret
  refine ⟨rfl, Below.al (Below.refl _ _) _, by simp, ?_, ?_, hs, fun o => by simp [go_sem]⟩
  · simp [go_sem]
  · simp [go_sem]

set_option maxHeartbeats 400000 in
theorem end_any {w : World} {b o : Nat} {s : List Nat} {r : Int} (h : DecR w b o s r) :
    Calls Tryd.prog 12 #[.pointer (some ⟨b, o, none⟩)] w fun e w' => e = .returned (.int .i64 (if r = 0 then (if s = [] then 0 else 31) else r)) ∧ w' = w := by
  have c0 := h.c0
  have c1 := h.c1
  have hb := h.b8
  clear h
  by_cases hr : r = 0
  · subst hr
    by_cases hs : s = []
    · subst hs
      have he : (Value.string (ofNats [])) = .string { data := #[] } := rfl
      rw [he] at c0
      go_enter Tryd.func12, Tryd.ntmps12
      go_wp2_with fail
      go_ret
      exact ⟨by simp, rfl⟩
    · have hne := ofNats_some hs
      go_enter Tryd.func12, Tryd.ntmps12
      go_wp2_with fail
      go_ret
      exact ⟨by simp, rfl⟩
  · have hr' : (r != 0) = true := by simpa using hr
    go_enter Tryd.func12, Tryd.ntmps12
    go_wp2_with fail
    go_ret
    exact ⟨by simp, rfl⟩

/-- bytes(n) where they are there -/
theorem take_ok {w : World} {b o n : Nat} {s : List Nat} {r : Int} (h : DecR w b o s r) (hn : n ≤ s.length) (hl : s.length ≤ 9223372036854775807) :
    Calls Tryd.prog 43 #[.pointer (some ⟨b, o, none⟩), .int .u64 (n : Int)] w fun e w' => e = .returned (.string (ofNats (s.take n))) ∧ Cel b o 2 w w' ∧ DecR w' b o (s.drop n) r := by
  have c0 := h.c0
  have H := hid h
  have f : ∀ i, w.frozen? ⟨b, i, none⟩ = false := h.loose
  have hsz : ((ofNats s).size : Int) = (s.length : Int) := by rw [ofNats_size]
  have hsz' : (ofNats s).size = s.length := by rw [ofNats_size]
  have hw : IntKind.u64.wrap (s.length : Int) = (s.length : Int) := by rw [IntKind.wrap_u64]; omega
  have hgt : decide ((s.length : Int) < (n : Int)) = false := by simp; omega
  have x1 : (ofNats s).extract 0 n = ofNats (s.take n) := by rw [ofNats_extract h.b8, List.drop_zero]
  have x2 : (ofNats s).extract n s.length = ofNats (s.drop n) := by rw [ofNats_extract h.b8, List.take_of_length_le (Nat.le_refl _)]
  clear h
  go_enter Tryd.func43, Tryd.ntmps43
  go_wp2_with fail
  go_ret
  exact ⟨rfl, (Cel.refl _ _ _ _).set o ⟨Nat.le_refl _, by omega⟩ _, H.out.set0 (H.out.b8.drop n)⟩

/-- bytes(n) where they are not -/
theorem take_bad {w : World} {b o n : Nat} {s : List Nat} {r : Int} (h : DecR w b o s r) (hn : s.length < n) (hl : s.length ≤ 9223372036854775807) :
    Calls Tryd.prog 43 #[.pointer (some ⟨b, o, none⟩), .int .u64 (n : Int)] w fun e w' => e = .panicked [fault 30] ∧ w' = w := by
  have c0 := h.c0
  have hsz : ((ofNats s).size : Int) = (s.length : Int) := by rw [ofNats_size]
  have hw : IntKind.u64.wrap (s.length : Int) = (s.length : Int) := by rw [IntKind.wrap_u64]; omega
  have hgt : decide ((s.length : Int) < (n : Int)) = true := by simp; omega
  clear h
  go_enter Tryd.func43, Tryd.ntmps43
  go_wp2_with fail
  exact ⟨rfl, rfl, rfl⟩

theorem one_size (x : Nat) : (ofNats [x]).size = 1 := rfl
theorem one_get {x : Nat} (hx : x < 256) (h : 0 < (ofNats [x]).size) : ((ofNats [x])[0]).toNat = x := by
  show (UInt8.ofNat x).toNat = x
  simp; omega

theorem next_ok {w : World} {b o x : Nat} {t : List Nat} {r : Int} (h : DecR w b o (x :: t) r) (hl : t.length + 1 ≤ 9223372036854775807) :
    Calls Tryd.prog 33 #[.pointer (some ⟨b, o, none⟩)] w fun e w' => e = .returned (.int .u8 (x : Int)) ∧ Cel b o 2 w w' ∧ DecR w' b o t r := by
  have H := hid h
  have hx : x < 256 := h.b8 x (by simp)
  clear h
  have hg := one_get hx
  have hsz := one_size x
  go_enter Tryd.func33, Tryd.ntmps33
  go_wp2_with (go_at_call 43; refine (take_ok (n := 1) H.out (by simp) hl).mono ?_; rintro e w1 ⟨rfl, hc, hd⟩; have HC := hid hc; have HD := hid hd; clear hc hd; simp only [List.take_succ_cons, List.take_zero])
  go_ret
  exact ⟨rfl, HC.out, HD.out⟩

theorem next_bad {w : World} {b o : Nat} {r : Int} (h : DecR w b o [] r) :
    Calls Tryd.prog 33 #[.pointer (some ⟨b, o, none⟩)] w fun e w' => e = .panicked [fault 30] ∧ w' = w := by
  have H := hid h
  clear h
  go_enter Tryd.func33, Tryd.ntmps33
  go_wp2_with (go_at_call 43; refine (take_bad (n := 1) H.out (by simp) (by simp)).mono ?_; rintro e w1 ⟨rfl, rfl⟩)
  exact ⟨rfl, rfl, rfl⟩

end Go.Proofs.YtchfoipkaookmabDoor
