import Derived.Test.YtggmhodogfngdaaDoorGtSmall
import Derived.Deep.RegionHeld3
/- The reply to a scan. -/
namespace Go.Proofs.YtggmhodogfngdaaDoor.Gt
open Go.Proofs.YtggmhodogfngdaaDoor Go.Proofs.YtggmhodogfngdaaDoor.Rt Go.RowKit Go.Sort
set_option linter.unusedVariables false

def prHd : List Nat := [112, 97, 105, 114, 115, 32]
/-- the reply's text -/
def prL (xs : List (List Nat × List Nat)) : List Nat := prHd ++ decN xs.length ++ pairsL xs
theorem blk_on {w w' : World} {k : Nat} {cs : Array Value} {T : TypeId} {fr : Nat × Nat} (hb : Below w.heap.size w w') (h : w.heap[k]? = some (.cells cs T fr)) : w'.heap[k]? = some (.cells cs T fr) := by
  have hl : k < w.heap.size := by
    rcases Nat.lt_or_ge k w.heap.size with h' | h'
    · exact h'
    · simp [Array.getElem?_eq_none h'] at h
  rw [hb.block k hl]; exact h
theorem box_cells {w : World} {k : Nat} {u v : Value} {T : TypeId} (h : w.heap[k]? = some (.cells #[u, v] T (0, 0))) : w.cell? ⟨k, 0, none⟩ = some u ∧ w.cell? ⟨k, 1, none⟩ = some v := by
  rw [Lib.cell_of_heap h, Lib.cell_of_heap h]; exact ⟨rfl, rfl⟩

set_option maxHeartbeats 4000000 in
set_option maxRecDepth 100000 in
theorem pairs_is {xs : List (List Nat × List Nat)} {a : Option Addr} {cap : Nat} (hx : OkP xs) (hn : xs.length ≤ 1099511627776) (w : World) (ht : PowTab w) (hr : PrRow w a xs) :
    Calls Tryd.prog 16 #[.slice a xs.length cap] w fun r w' => r = .returned (.string (ofNats (prL xs))) ∧ Below w.heap.size w w' := by
  have HX := hid hx
  have HRow := hid hr
  have HB0 := hid (Bld.new w)
  have CI := hid (fun W (hW : PowTab W) => itoa_all (e := (xs.length : Int)) (by omega) (by omega) W hW)
  have HT := hid ht
  have hz0 : (ofNats (decI (xs.length : Int))).size ≤ 21 := by rw [ofNats_size]; exact decI_le (by omega) (by omega)
  have HR : Hid ((⟨#[112, 97, 105, 114, 115, 32]⟩ : ByteArray) ++ ofNats (decI (xs.length : Int)) = ofNats (prHd ++ decN xs.length)) := hid (by
    rw [show (⟨#[112, 97, 105, 114, 115, 32]⟩ : ByteArray) = ofNats prHd from rfl, ofNats_append]
    rw [show decI (xs.length : Int) = decN xs.length by unfold decI; rw [if_neg (by omega)]; rfl])
  have HL0 : Hid ((prHd ++ decN xs.length).length ≤ 30) := hid (by
    have := decN_le (u := xs.length) (by omega)
    simp [prHd]; omega)
  obtain ⟨ph, hph⟩ : ∃ ph : ByteArray, ph = ⟨#[112, 97, 105, 114, 115, 32]⟩ := ⟨_, rfl⟩
  have zd : ph.size = 6 := by rw [hph]; rfl
  rw [← hph] at HR
  have hph' : (⟨#[112, 97, 105, 114, 115, 32]⟩ : ByteArray) = ph := hph.symm
  clear hph hx hr ht
  generalize ofNats (decI (xs.length : Int)) = s0 at *
  have n0 : ¬ 9223372036854775807 < 6 + s0.size := by omega
  go_enter Tryd.func16, Tryd.ntmps16
  go_wp2_with fail
  refine (CI.out _ (HT.out.later (Below.al (Below.refl _ _) _))).mono ?_
  rintro e w1 ⟨rfl, hb⟩
  have HB1 := hid (HB0.out.on hb)
  clear hb HB0
  go_wp2_with fail
  rw [HR.out]
  refine (adds_is HB1.out (by have := HL0.out; show ([] : List Nat).length + _ ≤ _; rw [List.length_nil]; omega)).mono ?_
  rintro e w2 ⟨rfl, hb, ho⟩
  have HB2 := hid hb
  clear hb ho HB1
  go_wp2_with fail
  go_loopg [13] xs.length (fun g s13 wr => ∃ k : Nat, k ≤ xs.length ∧ g = xs.length - k ∧ s13 = .int .i64 k ∧ Hid (Bld w wr w.heap.size (prHd ++ decN xs.length ++ pairsL (xs.take k))))
  case atStart => exact ⟨0, by omega, by omega, rfl, hid (by simpa [pairsL] using HB2.out)⟩
  case round =>
    obtain ⟨k, hk, rfl, rfl, HK⟩ := hrel
    clear HB2
    by_cases hlt : k < xs.length
    · obtain ⟨⟨tk, tv⟩, htx⟩ : ∃ x, x = xs[k] := ⟨_, rfl⟩
      obtain ⟨b, o, rfl, c1, c2⟩ := (HRow.out.later HK.out.bl) k hlt
      rw [← htx] at c1 c2
      simp only [] at c1 c2
      have h8 := HX.out.1 (tk, tv) (by rw [htx]; exact List.getElem_mem hlt)
      have hz := szP_mem (xs := xs) (x := (tk, tv)) (by rw [htx]; exact List.getElem_mem hlt)
      have hz' := HX.out.2
      simp only [] at h8 hz
      have HTK : Hid (pairsL (xs.take (k + 1)) = pairsL (xs.take k) ++ 32 :: (wordL tk ++ 32 :: wordL tv)) := hid (by
        rw [List.take_succ_eq_append_getElem hlt, ← htx, pairs_snoc])
      have HLen : Hid ((prHd ++ decN xs.length ++ pairsL (xs.take k)).length + (32 :: (wordL tk ++ 32 :: wordL tv)).length ≤ 140737488355328) := hid (by
        have h1 := HL0.out
        have h2 := pairs_len (xs.take k)
        have h3 := szP_take xs k
        have h4 := (wordL_len tk).2
        have h5 := (wordL_len tv).2
        rw [List.length_append]
        simp only [List.length_cons, List.length_append] at h1 ⊢
        omega)
      have C1 := hid (fun W => word_is h8.1 (by omega) W)
      have C2 := hid (fun W => word_is h8.2 (by omega) W)
      have z1 : (ofNats (wordL tk)).size ≤ 3 * tk.length + 1 := by rw [ofNats_size]; exact (wordL_len tk).2
      have z2 : (ofNats (wordL tv)).size ≤ 3 * tv.length + 1 := by rw [ofNats_size]; exact (wordL_len tv).2
      have HS : Hid (sp ++ ofNats (wordL tk) ++ sp ++ ofNats (wordL tv) = ofNats (32 :: (wordL tk ++ 32 :: wordL tv))) := hid (by
        rw [sp_nats, show sp = ofNats [32] from rfl, ofNats_append, ofNats_append]; simp)
      have CS : Hid (∀ W, Bld w W w.heap.size (prHd ++ decN xs.length ++ pairsL (xs.take k)) → Calls Tryd.prog 32 #[.pointer (some ⟨w.heap.size, 0, none⟩), .string (sp ++ ofNats (wordL tk) ++ sp ++ ofNats (wordL tv))] W fun e w' => (∃ u, e = .returned u) ∧ Bld w w' w.heap.size (prHd ++ decN xs.length ++ pairsL (xs.take (k + 1))) ∧ Oth W w' w.heap.size) := hid (fun W hW => by
        rw [HS.out]
        refine (adds_is hW HLen.out).mono ?_
        rintro e w' ⟨rfl, h1, h2⟩
        refine ⟨⟨_, rfl⟩, ?_, h2⟩
        rw [HTK.out, ← List.append_assoc]; exact h1)
      have hXb : wr.heap.size ≠ w.heap.size := by have := HK.out.lt; omega
      generalize ofNats (wordL tk) = s1 at *
      generalize ofNats (wordL tv) = s2 at *
      generalize ofNats tk = t1 at *
      generalize ofNats tv = t2 at *
      have zs : sp.size = 1 := rfl
      have hsp : (⟨#[32]⟩ : ByteArray) = sp := rfl
      have n1 : ¬ 9223372036854775807 < 1 + s1.size := by omega
      have n2 : ¬ 9223372036854775807 < 1 + s1.size + 1 := by omega
      have n3 : ¬ 9223372036854775807 < 1 + s1.size + 1 + s2.size := by omega
      obtain ⟨wb, hwb⟩ : ∃ wb, wb = wr.alloc (.cells #[.string t1, .string t2] 50) := ⟨_, rfl⟩
      have hX : wb.heap[wr.heap.size]? = some (.cells #[.string t1, .string t2] 50 (0, 0)) := by rw [hwb]; exact heap_alloc_new wr _
      have HKB : Bld w wb w.heap.size (prHd ++ decN xs.length ++ pairsL (xs.take k)) := by rw [hwb]; exact HK.out.on (Below.al (Below.refl _ _) _)
      clear h8 htx HTK HS HLen
      go_wp2_with fail
      rw [← hwb]
      clear hwb HK
      go_region_held3 (fun z => z.cell? ⟨wr.heap.size, 0, none⟩ = some (.string t1) ∧ z.cell? ⟨wr.heap.size, 1, none⟩ = some (.string t2))
        ((refine box_cells (T := 50) ?_; (repeat (first | with_reducible assumption | with_reducible refine blk_on (Below.drew (Below.refl _ _)) ?_ | with_reducible refine blk_on (by assumption) ?_ | with_reducible refine Oth.later (by assumption) ?_ hXb (by decide)))))
        (first
          | (go_at_call 17; with_reducible refine (C1.out _).mono ?_; rintro e w1 ⟨rfl, hb1⟩)
          | (go_at_call 17; with_reducible refine (C2.out _).mono ?_; rintro e w1 ⟨rfl, hb1⟩)
          | (go_at_call 32; refine (CS.out _ (by (repeat (first | with_reducible assumption | with_reducible refine Bld.on ?_ (Below.drew (Below.refl _ _)) | with_reducible refine Bld.on ?_ (by assumption))))).mono ?_; rintro e w3 ⟨⟨u, rfl⟩, hb3, ho3⟩))
      all_goals go_wp2_with fail
      all_goals go_roundg (xs.length - (k + 1))
      all_goals first | omega | exact ⟨k + 1, by omega, rfl, by go_num, hid (by assumption)⟩
    · obtain rfl : k = xs.length := by omega
      have HE : Hid (prHd ++ decN xs.length ++ pairsL (xs.take xs.length) = prL xs) := hid (by rw [List.take_length]; rfl)
      go_wp2_with fail
      refine (text_is HK.out).mono ?_
      rintro e w3 ⟨rfl, hw3⟩
      rw [HE.out]
      go_wp2_with fail
      go_ret
      exact ⟨rfl, hw3⟩

end Go.Proofs.YtggmhodogfngdaaDoor.Gt
