import Derived.Test.YtfafkohghgliaabDoorTuTpT
import Derived.Test.YtfafkohghgliaabDoorTuRow
import Derived.Test.YtfafkohghgliaabDoorTuRefE
import Derived.Test.YtfafkohghgliaabDoorTuRefN
import Derived.Test.YtfafkohghgliaabDoorRWord
import Derived.Test.YtfafkohghgliaabDoorShelfT
import Derived.Lib.ItoaMem
import Derived.Lib.ItoaLen
import Derived.Lib.SmallJoins
/- The program's words. -/
namespace Go.Proofs.YtfafkohghgliaabDoor.Tu
open Go.RowKit Go.Sort Go.Proofs.YtfafkohghgliaabDoor Go.Proofs.YtfafkohghgliaabDoor.Rt Go.Proofs.YtfafkohghgliaabDoor.Gt
set_option linter.unusedVariables false
set_option linter.unusedSectionVars false
variable [DecidableEq Vl]
set_option linter.unusedSimpArgs false
set_option maxRecDepth 100000

abbrev PowTab (w : World) : Prop := Lib.TabIs Tryd.prog w "internal/strconv.uint64pow10" .u64 Lib.pow10Tab
theorem gPow : Tryd.prog.globalNamed "internal/strconv.uint64pow10" = some 0 := by kernel_rfl
theorem PowTab.later {w w' : World} (h : PowTab w) (hb : Below w.heap.size w w') : PowTab w' := Joins.tab_stays gPow h hb (Nat.le_refl _)
theorem ofNats_dec (n : Nat) : ofNats (decN n) = ⟨(Lib.decDigits n).toArray⟩ := by
  simp [ofNats, decN, map_back]
theorem ofNats_decI (n : Int) : ofNats (Tu.decI n) = ⟨(Lib.itoa n).toArray⟩ := by
  unfold Tu.decI Lib.itoa
  by_cases h : n < 0
  · rw [if_pos h, if_pos h]
    simp [ofNats, decN, map_back]
  · rw [if_neg h, if_neg h, show n.natAbs = n.toNat by omega, ofNats_dec]
theorem fmt_is {n : Int} (h : In64 n) (w : World) (hp : PowTab w) : Calls Tryd.prog 50 #[.int .i64 n, .int .i64 10] w fun e w' => e = .returned (.string (ofNats (Tu.decI n))) ∧ Below w.heap.size w w' := by
  refine (Tryd.strconv_FormatInt_10 n h.1 h.2 w hp).mono ?_
  rintro e w' ⟨rfl, k, os, rfl⟩
  refine ⟨by rw [ofNats_decI], ?_⟩
  exact ⟨rfl, rfl, rfl, by simp [grow], fun j hj => by simp [grow, Array.getElem?_append, hj]⟩
set_option maxHeartbeats 2000000 in
theorem wordOf_is {x : Vl} (h : x.ok) (hs : 3 * x.s.length + 10 ≤ 140737488355328) (w : World) (hp : PowTab w) : Calls Tryd.prog 32 #[x.val] w fun e w' => e = .returned (.string (ofNats (saidL x))) ∧ Below w.heap.size w w' := by
  have HI : ∀ w', Below w.heap.size w w' → Hid (Calls Tryd.prog 50 #[.int .i64 x.n, .int .i64 10] w' fun e w'' => e = .returned (.string (ofNats (Tu.decI x.n))) ∧ Below w.heap.size w w'') := fun w' hb => hid ((fmt_is h.n64 w' (hp.later hb)).mono fun e w'' ⟨he, hb2⟩ => ⟨he, Below.on hb hb2⟩)
  have HT : ∀ w', Below w.heap.size w w' → Hid (Calls Tryd.prog 51 #[.string (ofNats x.s)] w' fun e w'' => e = .returned (.string (ofNats (wordL x.s))) ∧ Below w.heap.size w w'') := fun w' hb => hid ((word_is h.b8 (by omega) w').mono fun e w'' ⟨he, hb2⟩ => ⟨he, Below.on hb hb2⟩)
  have hwl := (wordL_len x.s).2
  clear h hp
  obtain ⟨k, f, n, s⟩ := x
  simp only at HI HT hs hwl
  by_cases h1 : k = 1
  · subst h1
    cases f
    all_goals
      go_enter Tryd.func32, Tryd.ntmps32
      go_wp2_with fail
      go_ret
      exact ⟨rfl, by (repeat (first | exact Below.refl _ _ | assumption | refine Below.drew ?_ | refine Below.al ?_ _ | refine Below.setCell ?_ (by first | exact Nat.le_refl _ | (simp; omega) | (simp; done)) _ | refine Below.on ?_ (by assumption)))⟩
  by_cases h2 : k = 2
  · subst h2
    have HE : Hid (saidL ⟨2, f, n, s⟩ = Tu.decI n) := rfl
    obtain ⟨z, hz⟩ : ∃ z, z = ofNats (Tu.decI n) := ⟨_, rfl⟩
    rw [← hz] at HI
    have HZ := hid hz
    clear hz
    go_enter Tryd.func32, Tryd.ntmps32
    go_wp2_with (go_at_call 50; go_loud (refine (HI _ (by (repeat (first | exact Below.refl _ _ | assumption | refine Below.drew ?_ | refine Below.al ?_ _ | refine Below.setCell ?_ (by first | exact Nat.le_refl _ | (simp; omega) | (simp; done)) _ | refine Below.on ?_ (by assumption))))).out.mono ?_; rintro e w2 ⟨rfl, hb2⟩; have HB2 := hid hb2; clear hb2))
    go_ret
    exact ⟨ret_s (by rw [HZ.out, HE.out]), HB2.out⟩
  by_cases h3 : k = 3
  · subst h3
    have HE : Hid (saidL ⟨3, f, n, s⟩ = 39 :: wordL s) := rfl
    obtain ⟨b, hb⟩ : ∃ b, b = ofNats s := ⟨_, rfl⟩
    have e : (Vl.val ⟨3, f, n, s⟩) = vlv 3 f n b := by rw [hb]
    obtain ⟨z, hz⟩ : ∃ z, z = ofNats (wordL s) := ⟨_, rfl⟩
    have hzs : ¬ 9223372036854775807 < 1 + z.size := by rw [hz, ofNats_size]; omega
    have HZ : Hid ((⟨#[39]⟩ : ByteArray) ++ z = ofNats (39 :: wordL s)) := by show _ = _; rw [hz, show (⟨#[39]⟩ : ByteArray) = ofNats [39] from rfl, ofNats_append]; rfl
    rw [← hb, ← hz] at HT
    rw [e]
    clear hb e hz
    go_enter Tryd.func32, Tryd.ntmps32
    go_wp2_with (go_at_call 51; go_loud (refine (HT _ (by (repeat (first | exact Below.refl _ _ | assumption | refine Below.drew ?_ | refine Below.al ?_ _ | refine Below.setCell ?_ (by first | exact Nat.le_refl _ | (simp; omega) | (simp; done)) _ | refine Below.on ?_ (by assumption))))).out.mono ?_; rintro e w2 ⟨rfl, hb2⟩; have HB2 := hid hb2; clear hb2))
    go_ret
    exact ⟨ret_s (by rw [HZ.out, HE.out]), HB2.out⟩
  · have HE : Hid (saidL ⟨k, f, n, s⟩ = nNull) := by show _ = _; simp [saidL, h1, h2, h3]
    have d1 : ((k : Int) == 1) = false := by simp; omega
    have d2 : ((k : Int) == 2) = false := by simp; omega
    have d3 : ((k : Int) == 3) = false := by simp; omega
    clear h1 h2 h3
    go_enter Tryd.func32, Tryd.ntmps32
    go_wp2_with fail
    go_ret
    exact ⟨ret_s (by rw [HE.out]; rfl), by (repeat (first | exact Below.refl _ _ | assumption | refine Below.drew ?_ | refine Below.al ?_ _ | refine Below.setCell ?_ (by first | exact Nat.le_refl _ | (simp; omega) | (simp; done)) _ | refine Below.on ?_ (by assumption)))⟩
end Go.Proofs.YtfafkohghgliaabDoor.Tu
