import Derived.Test.YtodolbekbeccbaaPackIs
import Derived.Test.YtodolbekbeccbaaRefPack
import Derived.Test.YtodolbekbeccbaaPackUnpack
import Derived.Test.YtodolbekbeccbaaOpens
namespace Go.Proofs.Ytodolbekbeccbaa
open Go.RowKit Go.Sort

theorem unpack_is {a b c : Int} {p : ByteArray} (h : StB a b c) (e : p = strOfNums (pk a b c)) (w : World) :
    Calls Try.prog 17 #[.string p] w fun e w' => e = .returned (.tuple #[stv a b c, .int .i64 0]) ∧ Below w.heap.size w w' := by
  obtain ⟨h1, h2, h3⟩ := piece_pk h
  have := unpack_yes p w (by rw [e, strOfNums_size, pk_length])
  rw [e, h1, h2, h3] at this
  rw [e]; exact this
theorem refpack_is {a b c : Int} {p : ByteArray} (h : StB a b c) (e : p = strOfNums (pk a b c)) (w : World) :
    Calls Try.prog 16 #[stv a b c] w fun e w' => e = .returned (.string p) ∧ Below w.heap.size w w' := by
  rw [e]; exact refpack_any a b c w h

set_option maxHeartbeats 1000000 in
theorem packs_walk (a b c : Int) (w : World) (hs : StB a b c) :
    Calls Try.prog 8 #[stv a b c] w fun e w' => e = .returned (.bool true) ∧ Below w.heap.size w w' := by
  obtain ⟨p, hp⟩ : ∃ p, p = strOfNums (pk a b c) := ⟨_, rfl⟩
  have HP := hid hp
  clear hp
  have k3 : ∀ w, (binOp .eql 25 (stv a b c) (stv a b c)).run Try.prog w = .ok (.bool true) w := fun w => by rw [run_eq, sameB_self]
  have A : StampAt (w.alloc (.cells #[.int .u64 a, .int .u32 b, .int .u32 c] 25)) w.heap.size a b c := by
    refine ⟨?_, ?_, ?_⟩ <;> (simp [go_sem]; done)
  have hb : Below w.heap.size w (w.alloc (.cells #[.int .u64 a, .int .u32 b, .int .u32 c] 25)) := Below.al (Below.refl _ _) _
  go_enter Try.func8, Try.ntmps8
  go_wp2_with fail
  refine (pack_is hs HP.out _).mono ?_
  rintro e w1 ⟨rfl, hw⟩
  replace A := A.later hw
  replace hb := Below.on hb hw
  have ⟨a0, a1, a2⟩ := A
  clear hw
  go_wp2_with fail
  refine (refpack_is hs HP.out _).mono ?_
  rintro e w2 ⟨rfl, hw⟩
  clear a0 a1 a2
  replace A := A.later hw
  replace hb := Below.on hb hw
  have ⟨a0, a1, a2⟩ := A
  clear hw
  go_wp2_with fail
  refine (unpack_is hs HP.out _).mono ?_
  rintro e w3 ⟨rfl, hw⟩
  clear a0 a1 a2
  replace A := A.later hw
  replace hb := Below.on hb hw
  have ⟨a0, a1, a2⟩ := A
  have hlt : w.heap.size < w3.heap.size := World.block_lt_of_cell? _ _ a0
  clear hw
  go_wp2_with fail
  go_ret
  exact ⟨rfl, Below.al hb _⟩

theorem opened_stampPacks {H : Type} {enc : TypeId × Value → H} {W : World} {r : Reach} {b : Nat} {v : Value} {d : DataW H} {p : List MemPlace}
    (hv : Value.okWide Try.prog W r b 25 v) (h : DataW.Trod enc Try.prog W 0 (fun _ => true) true 25 v d p) :
    Calls Try.prog 8 #[v] W fun e w' => e = .returned (.bool true) ∧ Below W.heap.size W w' := by
  obtain ⟨cs, rfl, hs⟩ := WideShapes.okWide_struct Try.underlying25 hv
  obtain ⟨fuel, hf⟩ := h
  obtain ⟨x, y, z, e, w0, w1, w2⟩ := trod_stamp hf
  obtain ⟨cs⟩ := cs
  simp only [Value.cells] at e
  subst e
  exact packs_walk x y z W ⟨bounds_u64 w0, bounds_u32 w1, bounds_u32 w2⟩

end Go.Proofs.Ytodolbekbeccbaa
