import Derived.Test.YtggmhodogfngdaaDoorGtItoa
import Derived.Test.YtggmhodogfngdaaDoorGtBld
import Derived.Test.YtggmhodogfngdaaDoorGtRefW
/- Small calls of a reply: a number, a blank and a word, a row of pairs. -/
namespace Go.Proofs.YtggmhodogfngdaaDoor.Gt
open Go.Proofs.YtggmhodogfngdaaDoor Go.Proofs.YtggmhodogfngdaaDoor.Rt Go.RowKit Go.Sort
set_option linter.unusedVariables false

set_option maxHeartbeats 1000000 in
theorem gdec_is {n : Nat} (h : n < 4294967296) (w : World) (ht : PowTab w) :
    Calls Tryd.prog 13 #[.int .u32 (n : Int)] w fun r w' => r = .returned (.string (ofNats (decN n))) ∧ Below w.heap.size w w' := by
  have hw : IntKind.u64.wrap (n : Int) = n := by rw [IntKind.wrap_u64]; omega
  have C := hid (fmt_any n (by omega) w ht)
  go_enter Tryd.func13, Tryd.ntmps13
  go_wp2_with fail
  refine C.out.mono ?_
  rintro e w1 ⟨rfl, hb⟩
  have HB := hid hb
  clear hb
  rw [dec_nats]
  go_wp2_with fail
  go_ret
  exact ⟨rfl, HB.out⟩

def sp : ByteArray := ⟨#[32]⟩
theorem sp_nats (l : List Nat) : sp ++ ofNats l = ofNats (32 :: l) := by
  rw [show sp = ofNats [32] from rfl, ofNats_append]; rfl
set_option maxHeartbeats 1000000 in
theorem rw_is {l : List Nat} (h8 : B8 l) (hl : 3 * l.length + 1 ≤ 140737488355328) (w : World) :
    Calls Tryd.prog 21 #[.string (ofNats l)] w fun r w' => r = .returned (.string (ofNats (32 :: wordL l))) ∧ Below w.heap.size w w' := by
  have C := hid (rword_is h8 hl w)
  have hz : (ofNats (wordL l)).size ≤ 3 * l.length + 1 := by rw [ofNats_size]; exact (wordL_len l).2
  have HR : Hid (sp ++ ofNats (wordL l) = ofNats (32 :: wordL l)) := hid (sp_nats _)
  generalize ofNats (wordL l) = s1 at *
  have zd : sp.size = 1 := rfl
  have hsp : (⟨#[32]⟩ : ByteArray) = sp := rfl
  have n1 : ¬ 9223372036854775807 < 1 + s1.size := by omega
  go_enter Tryd.func21, Tryd.ntmps21
  go_wp2_with fail
  refine C.out.mono ?_
  rintro e w1 ⟨rfl, hb⟩
  have HB := hid hb
  clear hb
  go_wp2_with fail
  rw [HR.out]
  go_ret
  exact ⟨rfl, HB.out⟩

/-- a row of pairs of texts -/
def PrRow (w : World) (a : Option Addr) (xs : List (List Nat × List Nat)) : Prop :=
  ∀ i (h : i < xs.length), ∃ b o, a = some ⟨b, o, none⟩ ∧ w.cell? ⟨b, o + i * 2, none⟩ = some (.string (ofNats xs[i].1)) ∧ w.cell? ⟨b, o + i * 2 + 1, none⟩ = some (.string (ofNats xs[i].2))
theorem cell_on {w w' : World} {p : Addr} {v : Value} (hb : Below w.heap.size w w') (h : w.cell? p = some v) : w'.cell? p = some v := by
  rw [hb.cell (World.block_lt_of_cell? _ _ h)]; exact h
theorem PrRow.later {w w' : World} {a : Option Addr} {xs : List (List Nat × List Nat)} (h : PrRow w a xs) (hb : Below w.heap.size w w') : PrRow w' a xs := fun i hi => by
  obtain ⟨b, o, ha, h1, h2⟩ := h i hi
  exact ⟨b, o, ha, cell_on hb h1, cell_on hb h2⟩
/-- texts of bytes, not too long, all together -/
def szP (xs : List (List Nat × List Nat)) : Nat := (xs.map fun x => x.1.length + x.2.length + 2).sum
def OkP (xs : List (List Nat × List Nat)) : Prop := (∀ x ∈ xs, B8 x.1 ∧ B8 x.2) ∧ szP xs ≤ 1099511627776
theorem szP_mem : ∀ {xs : List (List Nat × List Nat)} {x : List Nat × List Nat}, x ∈ xs → x.1.length + x.2.length + 2 ≤ szP xs
  | y :: ys, x, h => by
    rcases List.mem_cons.1 h with rfl | h
    · simp [szP]
    · have := szP_mem h
      simp [szP] at this ⊢; omega
theorem szP_take : ∀ (xs : List (List Nat × List Nat)) (k : Nat), szP (xs.take k) ≤ szP xs
  | [], k => by simp
  | x :: xs, 0 => by simp [szP]
  | x :: xs, k + 1 => by have := szP_take xs k; simp [szP] at this ⊢; omega
theorem pairs_len : ∀ xs : List (List Nat × List Nat), (pairsL xs).length ≤ 3 * szP xs
  | [] => by simp [pairsL]
  | (k, v) :: r => by
    have h1 := wordL_len k
    have h2 := wordL_len v
    have h3 := pairs_len r
    simp [pairsL, szP] at h3 ⊢; omega

end Go.Proofs.YtggmhodogfngdaaDoor.Gt
