import Derived.Test.YtodolbekbeccbabDoorRefParse
import Derived.ProofKit
import Derived.OpenShut
namespace Go.Proofs.YtodolbekbeccbabDoor
open Go.RowKit Go.Sort

theorem parse_none {s : ByteArray} (h : prs s.data.toList = none) (w : World) (hv : Vars w) :
    Calls Tryd.prog 7 #[.string s] w fun e w' => e = .returned (.tuple #[stv 0 0 0, .int .i64 10]) ∧ Below w.heap.size w w' := by
  by_cases hs : 42 < s.size
  · exact parse_long s w hs
  · refine (parse_short s w (by omega) hv).mono ?_
    rintro e w' ⟨⟨x, y, z, er, rfl, hx⟩, hb⟩
    refine ⟨?_, hb⟩
    rcases hx with ⟨e, _⟩ | ⟨_, rfl, rfl, rfl, rfl⟩
    · rw [h] at e; cases e
    · rfl

theorem refparse_none {s : ByteArray} (h : prs s.data.toList = none) (w : World) :
    Calls Tryd.prog 8 #[.string s] w fun e w' => e = .returned (.tuple #[stv 0 0 0, .int .i64 10]) ∧ Below w.heap.size w w' := by
  by_cases hs : 42 < s.size
  · exact refparse_long s w hs
  · refine (refparse_short s w (by omega)).mono ?_
    rintro e w' ⟨⟨x, y, z, er, rfl, hx⟩, hb⟩
    refine ⟨?_, hb⟩
    rcases hx with ⟨hst, e, _⟩ | ⟨_, rfl, rfl, rfl, rfl⟩
    · rw [e, prs_txt hst] at h; cases h
    · rfl

theorem refparse_txt {a b c : Int} {s : ByteArray} (h : StB a b c) (e : s = txt a b c) (w : World) :
    Calls Tryd.prog 8 #[.string s] w fun e w' => e = .returned (.tuple #[stv a b c, .int .i64 0]) ∧ Below w.heap.size w w' := by
  refine (refparse_short s w (by rw [e]; exact txt_le h)).mono ?_
  rintro e' w' ⟨⟨x, y, z, er, rfl, hx⟩, hb⟩
  refine ⟨?_, hb⟩
  have hp : prs s.data.toList = some (a.toNat, b.toNat, c.toNat) := by rw [e]; exact prs_txt h
  rcases hx with ⟨hst, e2, rfl⟩ | ⟨e2, _⟩
  · rw [e2, prs_txt hst] at hp
    simp only [Option.some.injEq, Prod.mk.injEq] at hp
    obtain ⟨h1, h2, h3⟩ := hp
    obtain ⟨⟨p1, _⟩, ⟨p2, _⟩, p3, _⟩ := hst
    obtain ⟨⟨q1, _⟩, ⟨q2, _⟩, q3, _⟩ := h
    obtain rfl : x = a := by omega
    obtain rfl : y = b := by omega
    obtain rfl : z = c := by omega
    rfl
  · rw [e2] at hp; cases hp

set_option maxHeartbeats 1000000 in
theorem parses_no (s : ByteArray) (w : World) (hs : prs s.data.toList = none) (hv : Vars w) :
    Calls Tryd.prog 4 #[.string s] w fun e w' => e = .returned (.bool true) ∧ Below w.heap.size w w' := by
  have k3 : ∀ w, (binOp .neq 25 (stv 0 0 0) (stv 0 0 0)).run Tryd.prog w = .ok (.bool false) w := fun w => by rw [run_ne, sameB_self]; rfl
  have HS := hid hs
  have HV := hid hv
  clear hs hv
  go_enter Tryd.func4, Tryd.ntmps4
  go_wp2_with fail
  refine (parse_none HS.out _ HV.out).mono ?_
  rintro e w1 ⟨rfl, hw1⟩
  go_wp2_with fail
  refine (refparse_none HS.out _).mono ?_
  rintro e w2 ⟨rfl, hw2⟩
  obtain ⟨hc, hf⟩ := bcell hw2
  have hz : w1.heap.size < w2.heap.size := by have := hw2.size; simp at this; omega
  go_wp2_with fail
  go_ret
  exact ⟨rfl, Below.al (Below.on (Below.al hw1 _) hw2) _⟩

set_option maxHeartbeats 1000000 in
theorem parses_yes (s : ByteArray) (a b c : Int) (w : World) (hst : StB a b c) (hs : s = txt a b c) (hv : Vars w) :
    Calls Tryd.prog 4 #[.string s] w fun e w' => e = .returned (.bool true) ∧ Below w.heap.size w w' := by
  have HS := hid hs
  have HV := hid hv
  have k3 : ∀ w, (binOp .neq 25 (stv a b c) (stv a b c)).run Tryd.prog w = .ok (.bool false) w := fun w => by rw [run_ne, sameB_self]; rfl
  clear hs hv
  go_enter Tryd.func4, Tryd.ntmps4
  go_wp2_with fail
  refine (parse_txt hst HS.out _ HV.out).mono ?_
  rintro e w1 ⟨rfl, hw1⟩
  go_wp2_with fail
  refine (refparse_txt hst HS.out _).mono ?_
  rintro e w2 ⟨rfl, hw2⟩
  obtain ⟨hc, hf⟩ := bcell hw2
  have hz : w1.heap.size < w2.heap.size := by have := hw2.size; simp at this; omega
  have hB := hid (Below.al (Below.on (Below.al hw1 (.cells #[.int .u64 a, .int .u32 b, .int .u32 c] 25)) hw2) (.cells #[.int .u64 a, .int .u32 b, .int .u32 c] 25))
  go_wp2_with fail
  refine (text_is hst HS.out _ (HV.out.later hB.out)).mono ?_
  rintro e w3 ⟨rfl, hw3⟩
  clear hc hf
  go_wp2_with fail
  go_ret
  exact ⟨rfl, Below.on hB.out hw3⟩

theorem opened_stampParses {H : Type} {enc : TypeId × Value → H} {W : World} {r : Reach} {b : Nat} {v : Value} {d : DataW H} {p : List MemPlace}
    (hv : Value.okWide Tryd.prog W r b 9 v) (h : DataW.Trod enc Tryd.prog W 0 (fun _ => true) true 9 v d p) (hV : Vars W) :
    Calls Tryd.prog 4 #[v] W fun e w' => e = .returned (.bool true) ∧ Below W.heap.size W w' := by
  obtain ⟨s, rfl, rfl, rfl, hs⟩ := ChangeMaps.open_string Tryd.underlying9 hv h
  cases hp : prs s.data.toList with
  | none => exact parses_no s W hp hV
  | some q =>
    obtain ⟨a, b, c⟩ := q
    exact parses_yes s a b c W (prs_ok hp) (ByteArray.ext (Array.toList_inj.1 (prs_back hp))) hV

end Go.Proofs.YtodolbekbeccbabDoor
