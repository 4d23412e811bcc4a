import Derived.Test.YtfafkohghgliaabDoorRUnword
/- Unword: the walk. -/
namespace Go.Proofs.YtfafkohghgliaabDoor.Rt
open Go.RowKit Go.Sort
set_option linter.unusedVariables false

/-- what Unword answers -/
def unA (l : List Nat) : List Nat × Int := match unword l with
  | some r => (r, 0)
  | none => ([], 120)
theorem empty_of {l : List Nat} (h : l ≠ []) : (ofNats l).toList.isEmpty = false := by
  cases l with
  | nil => exact absurd rfl h
  | cons a l => simp [ofNats, ByteArray.toList_eq]
theorem ofNats_nil : ofNats [] = ⟨#[]⟩ := rfl
theorem pct_is {l : List Nat} (h8 : B8 l) : ((ofNats l).toList == [37]) = decide (l = [37]) := by
  rw [Bool.eq_iff_iff, beq_iff_eq, decide_eq_true_eq]
  constructor
  · intro h
    rw [ByteArray.toList_eq] at h
    have h2 : nums (ofNats l) = [37] := by unfold nums; rw [h]; rfl
    rw [nums_ofNats h8] at h2
    exact h2
  · rintro rfl; simp [ofNats, ByteArray.toList_eq]
theorem builder_later {B b : Nat} {p : Value} {bs : List Value} {w w' : World} (h : Lib.BuilderAt BT 5 B b p bs w) (hb : Below w.heap.size w w') : Lib.BuilderAt BT 5 B b p bs w' := by
  have hlt := h.lt
  obtain ⟨h1, v, h2, h3, h4⟩ := h
  exact ⟨h1, v, by rw [hb.block b hlt]; exact h2, h3.kept (row := none) ⟨hb.os, hb.tape, hb.output, hb.size, fun k hk _ => hb.block k hk⟩ (by cases v.ownBlock <;> simp), h4⟩
theorem Bld.on {w0 w w' : World} {b : Nat} {l : List Nat} (h : Bld w0 w b l) (hb : Below w.heap.size w w') : Bld w0 w' b l :=
  ⟨h.is.imp (fun x => builder_later x hb) (fun x => builder_later x hb), Below.on h.bl hb⟩

/-- what is read so far, and what is left -/
structure Rd (w wr : World) (l acc r : List Nat) : Prop where
  b8 : B8 r
  bld : Bld w wr w.heap.size acc
  eq : unw l.length l = (unw l.length r).map (acc ++ ·)
  len : acc.length + r.length ≤ l.length

set_option maxHeartbeats 4000000 in
theorem unword_is {l : List Nat} (h8 : B8 l) (hl : l.length + 1 ≤ 140737488355328) (w : World) :
    Calls Tryd.prog 60 #[.string (ofNats l)] w fun e w' => e = .returned (.tuple #[.string (ofNats (unA l).1), .int .i64 (unA l).2]) ∧ Below w.heap.size w w' := by
  have H8 := hid h8
  by_cases h37 : l = [37]
  · subst h37
    have hpc : ((ofNats [37]).toList == [37]) = true := by rw [pct_is H8.out]; rfl
    go_enter Tryd.func60, Tryd.ntmps60
    go_wp2_with fail
    go_ret2
    exact ⟨rfl, Below.refl _ _⟩
  · have hpc : ((ofNats l).toList == [37]) = false := by rw [pct_is h8]; simp [h37]
    by_cases h0 : l = []
    · subst h0
      have hne : (ofNats []).toList.isEmpty = true := by simp [ofNats, ByteArray.toList_eq]
      go_enter Tryd.func60, Tryd.ntmps60
      go_wp2_with fail
      go_ret2
      exact ⟨rfl, Below.refl _ _⟩
    · have hne := empty_of h0
      have HU : Hid (unword l = unw l.length l) := hid (by rw [unword, if_neg h37, if_neg h0])
      have HR : Hid (Rd w (w.alloc (.cells #[.pointer none, .slice none 0 0] BT)) l [] l) := hid ⟨h8, Bld.new w, by simp, by simp⟩
      clear h8 h37 h0
      go_enter Tryd.func60, Tryd.ntmps60
      go_wp2_with fail
      clear hne hpc
      go_loopg [0] l.length (fun g s0 wr => ∃ acc r : List Nat, s0 = .string (ofNats r) ∧ g = r.length ∧ r.length ≤ l.length ∧ Hid (Rd w wr l acc r))
      case atStart => exact ⟨[], l, rfl, rfl, Nat.le_refl _, HR⟩
      case round =>
        obtain ⟨acc, r, rfl, rfl, hrl, HK⟩ := hrel
        clear HR
        by_cases hr : r = []
        · subst hr
          have hne : (ofNats []).toList.isEmpty = true := by simp [ofNats, ByteArray.toList_eq]
          have HE : Hid (unA l = (acc, 0)) := hid (by
            have h1 := HK.out.eq
            have h2 : unw l.length [] = some [] := by cases l.length <;> rfl
            rw [h2] at h1
            simp at h1
            rw [unA, HU.out, h1])
          go_wp2_with fail
          refine (text_is HK.out.bld).mono ?_
          rintro e w2 ⟨rfl, hw2⟩
          go_wp2_with fail
          go_ret2
          exact ⟨by rw [HE.out]; rfl, hw2⟩
        · have hne := empty_of hr
          have hsz : (ofNats r).size = r.length := ofNats_size r
          go_wp2_with fail
          refine (first_is HK.out.b8 (by omega) hr _).mono ?_
          rintro e w2 ⟨rfl, hw2⟩
          cases hf : fst r with
          | none =>
            have ef : fstA r = (0, 0) := by rw [fstA, hf]; rfl
            have HE : Hid (unA l = ([], 120)) := hid (by
              have h1 := HK.out.eq
              rw [unw_none hr hf] at h1
              rw [unA, HU.out, h1]; rfl)
            rw [ef]
            have HB := hid (Below.on HK.out.bld.bl hw2)
            clear hw2
            go_wp2_with fail
            go_ret2
            exact ⟨by rw [HE.out]; rfl, HB.out⟩
          | some p =>
            obtain ⟨b, n⟩ := p
            have ef : fstA r = (b, n) := by rw [fstA, hf]; rfl
            rw [ef]
            obtain ⟨hn, hnl, hb8⟩ := fst_size HK.out.b8 hf
            have hn0 : n ≠ 0 := by omega
            have HB := hid (HK.out.bld.on hw2)
            have HS : Hid (unw l.length l = (unw l.length (r.drop n)).map ((acc ++ [b]) ++ ·)) := hid (by
              have h1 := HK.out.eq
              rw [unw_step HK.out.b8 hrl hf, Option.map_map] at h1
              rw [h1]
              congr 1
              funext x
              simp)
            have hex : (ofNats r).extract n r.length = ofNats (r.drop n) := by
              rw [ofNats_extract HK.out.b8, List.take_length]
            have HL := hid HK.out.len
            have HD := hid (HK.out.b8.drop n)
            clear hw2 HK hn
            go_wp2_with fail
            refine (add_is HB.out hb8 (by have := HL.out; omega)).mono ?_
            rintro e w3 ⟨rfl, hw3⟩
            have HW := hid hw3
            clear hw3
            go_wp2_with fail
            go_roundg (r.drop n).length
            case measure => simp; omega
            case rel => exact ⟨acc ++ [b], r.drop n, rfl, rfl, by simp; omega, hid ⟨HD.out, HW.out, HS.out, by have := HL.out; simp; omega⟩⟩

end Go.Proofs.YtfafkohghgliaabDoor.Rt
