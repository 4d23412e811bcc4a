import Derived.Test.YtodolbekbeccbabPackIs
import Derived.Test.YtodolbekbeccbabRefUnpack
import Derived.Test.YtodolbekbeccbabUnpackPack
import Derived.ProofKit
import Derived.OpenShut
namespace Go.Proofs.Ytodolbekbeccbab
open Go.RowKit Go.Sort

set_option maxHeartbeats 1000000 in
theorem unpacks_no (s : ByteArray) (w : World) (hs : ((s.size : Int) != 16) = true) :
    Calls Try.prog 3 #[.string s] w fun e w' => e = .returned (.bool true) ∧ Below w.heap.size w w' := by
  have k3 : ∀ w, (binOp .neq 25 (stv 0 0 0) (stv 0 0 0)).run Try.prog w = .ok (.bool false) w := fun w => by rw [run_ne, sameB_self]; rfl
  have HS := hid hs
  clear hs
  go_enter Try.func3, Try.ntmps3
  go_wp2_with fail
  refine (unpack_no s _ HS.out).mono ?_
  rintro e w1 ⟨rfl, hw1⟩
  go_wp2_with fail
  refine (refunpack_no s _ HS.out).mono ?_
  rintro e w2 ⟨rfl, hw2⟩
  obtain ⟨hc, hf⟩ := bcell hw2
  have hz : w1.heap.size < w2.heap.size := by have := hw2.size; simp at this; omega
  go_wp2_with fail
  go_ret
  exact ⟨rfl, Below.al (Below.on (Below.al hw1 _) hw2) _⟩

set_option maxHeartbeats 1000000 in
theorem unpacks_yes (s : ByteArray) (w : World) (hs : s.size = 16) :
    Calls Try.prog 3 #[.string s] w fun e w' => e = .returned (.bool true) ∧ Below w.heap.size w w' := by
  have HS := hid hs
  have b1 := piece_bound s (i := 0) (j := 8) (n := 8) (by simp [hs])
  have b2 := piece_bound s (i := 8) (j := 12) (n := 4) (by simp [hs])
  have b3 := piece_bound s (i := 12) (j := 16) (n := 4) (by simp [hs])
  have HP := hid (pk_pieces s hs)
  have c1 := fun w => unpack_yes s w hs
  have c2 := fun w => refunpack_yes s w hs
  generalize piece s 0 8 = a at *
  generalize piece s 8 12 = b at *
  generalize piece s 12 16 = c at *
  have hst : StB a b c := ⟨⟨b1.1, by omega⟩, ⟨b2.1, by omega⟩, ⟨b3.1, by omega⟩⟩
  have k3 : ∀ w, (binOp .neq 25 (stv a b c) (stv a b c)).run Try.prog w = .ok (.bool false) w := fun w => by rw [run_ne, sameB_self]; rfl
  have C1 := hid c1
  have C2 := hid c2
  clear hs c1 c2 b1 b2 b3
  go_enter Try.func3, Try.ntmps3
  go_wp2_with fail
  refine (C1.out _).mono ?_
  rintro e w1 ⟨rfl, hw1⟩
  go_wp2_with fail
  refine (C2.out _).mono ?_
  rintro e w2 ⟨rfl, hw2⟩
  obtain ⟨hc, hf⟩ := bcell hw2
  have hz : w1.heap.size < w2.heap.size := by have := hw2.size; simp at this; omega
  go_wp2_with fail
  refine (pack_is hst HP.out.symm _).mono ?_
  rintro e w3 ⟨rfl, hw3⟩
  clear hc hf
  go_wp2_with fail
  go_ret
  exact ⟨rfl, Below.on (Below.al (Below.on (Below.al hw1 _) hw2) _) hw3⟩

theorem opened_stampUnpacks {H : Type} {enc : TypeId × Value → H} {W : World} {r : Reach} {b : Nat} {v : Value} {d : DataW H} {p : List MemPlace}
    (hv : Value.okWide Try.prog W r b 9 v) (h : DataW.Trod enc Try.prog W 0 (fun _ => true) true 9 v d p) :
    Calls Try.prog 3 #[v] W fun e w' => e = .returned (.bool true) ∧ Below W.heap.size W w' := by
  obtain ⟨s, rfl, rfl, rfl, hs⟩ := ChangeMaps.open_string Try.underlying9 hv h
  by_cases h16 : s.size = 16
  · exact unpacks_yes s W h16
  · exact unpacks_no s W (by rw [bne_iff_ne]; omega)

end Go.Proofs.Ytodolbekbeccbab
