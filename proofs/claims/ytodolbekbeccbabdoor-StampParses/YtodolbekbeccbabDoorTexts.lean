import Derived.Test.YtodolbekbeccbabDoorParseMath
import Derived.Test.YtodolbekbeccbabDoorEqs
import Derived.Test.YtodolbekbeccbabDoorOpens
namespace Go.Proofs.YtodolbekbeccbabDoor
open Go.RowKit Go.Sort

theorem len_size (s : ByteArray) : s.data.toList.length = s.size := by rw [Array.length_toList]; rfl

theorem txt_le {a b c : Int} (h : StB a b c) : (txt a b c).size ≤ 42 := by
  have hp := prs_txt h
  unfold prs at hp
  split at hp
  · cases hp
  · rename_i hl
    have := len_size (txt a b c)
    omega

theorem parse_txt {a b c : Int} {p : ByteArray} (h : StB a b c) (e : p = txt a b c) (w : World) (hv : Vars w) :
    Calls Tryd.prog 7 #[.string p] w fun e w' => e = .returned (.tuple #[stv a b c, .int .i64 0]) ∧ Below w.heap.size w w' := by
  subst e
  refine (parse_short (txt a b c) w (txt_le h) hv).mono ?_
  rintro e w' ⟨⟨x, y, z, er, rfl, hx⟩, hb⟩
  refine ⟨?_, hb⟩
  rw [prs_txt h] at hx
  obtain ⟨⟨ha0, _⟩, ⟨hb0, _⟩, hc0, _⟩ := h
  rcases hx with ⟨e, rfl⟩ | ⟨e, _⟩
  · simp only [Option.some.injEq, Prod.mk.injEq] at e
    obtain ⟨rfl, rfl, rfl⟩ := e
    rw [Int.toNat_of_nonneg ha0, Int.toNat_of_nonneg hb0, Int.toNat_of_nonneg hc0]
  · cases e

theorem text_is {a b c : Int} {p : ByteArray} (h : StB a b c) (e : p = txt a b c) (w : World) (hv : Vars w) :
    Calls Tryd.prog 5 #[stv a b c] w fun e w' => e = .returned (.string p) ∧ Below w.heap.size w w' := by
  rw [e]; exact text_any a b c w h hv.pow
theorem reftext_is {a b c : Int} {p : ByteArray} (h : StB a b c) (e : p = txt a b c) (w : World) :
    Calls Tryd.prog 6 #[stv a b c] w fun e w' => e = .returned (.string p) ∧ Below w.heap.size w w' := by
  rw [e]; exact reftext_any a b c w h

set_option maxHeartbeats 1000000 in
theorem texts_walk (a b c : Int) (w : World) (hs : StB a b c) (hv : Vars w) :
    Calls Tryd.prog 3 #[stv a b c] w fun e w' => e = .returned (.bool true) ∧ Below w.heap.size w w' := by
  obtain ⟨p, hp⟩ : ∃ p, p = txt a b c := ⟨_, rfl⟩
  have HP := hid hp
  have HV := hid hv
  clear hp hv
  have k3 : ∀ w, (binOp .eql 25 (stv a b c) (stv a b c)).run Tryd.prog w = .ok (.bool true) w := fun w => by rw [run_eq, sameB_self]
  have A : StampAt (w.alloc (.cells #[.int .u64 a, .int .u32 b, .int .u32 c] 25)) w.heap.size a b c := by
    refine ⟨?_, ?_, ?_⟩ <;> (simp [go_sem]; done)
  have hb : Hid (Below w.heap.size w (w.alloc (.cells #[.int .u64 a, .int .u32 b, .int .u32 c] 25))) := Below.al (Below.refl _ _) _
  go_enter Tryd.func3, Tryd.ntmps3
  go_wp2_with fail
  refine (text_is hs HP.out _ (HV.out.later hb.out)).mono ?_
  rintro e w1 ⟨rfl, hw⟩
  replace A := A.later hw
  have hb := hid (Below.on hb.out hw)
  have ⟨a0, a1, a2⟩ := A
  clear hw
  go_wp2_with fail
  refine (reftext_is hs HP.out _).mono ?_
  rintro e w2 ⟨rfl, hw⟩
  clear a0 a1 a2
  replace A := A.later hw
  have hb := hid (Below.on hb.out hw)
  have ⟨a0, a1, a2⟩ := A
  clear hw
  go_wp2_with fail
  refine (parse_txt hs HP.out _ (HV.out.later hb.out)).mono ?_
  rintro e w3 ⟨rfl, hw⟩
  clear a0 a1 a2
  replace A := A.later hw
  have hb := hid (Below.on hb.out hw)
  have ⟨a0, a1, a2⟩ := A
  have hlt : w.heap.size < w3.heap.size := World.block_lt_of_cell? _ _ a0
  clear hw
  go_wp2_with fail
  go_ret
  exact ⟨rfl, Below.al hb.out _⟩

theorem opened_stampTexts {H : Type} {enc : TypeId × Value → H} {W : World} {r : Reach} {b : Nat} {v : Value} {d : DataW H} {p : List MemPlace}
    (hv : Value.okWide Tryd.prog W r b 25 v) (h : DataW.Trod enc Tryd.prog W 0 (fun _ => true) true 25 v d p) (hV : Vars W) :
    Calls Tryd.prog 3 #[v] W fun e w' => e = .returned (.bool true) ∧ Below W.heap.size W w' := by
  obtain ⟨cs, rfl, hs⟩ := WideShapes.okWide_struct Tryd.underlying25 hv
  obtain ⟨fuel, hf⟩ := h
  obtain ⟨x, y, z, e, w0, w1, w2⟩ := trod_stamp hf
  obtain ⟨cs⟩ := cs
  simp only [Value.cells] at e
  subst e
  exact texts_walk x y z W ⟨bounds_u64 w0, bounds_u32 w1, bounds_u32 w2⟩ hV

end Go.Proofs.YtodolbekbeccbabDoor
