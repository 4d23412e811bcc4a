import Derived.Test.YtfkiccdjffhhhaaGreatDoorRTwinM
/- twin: the walk. -/
namespace Go.Proofs.YtfkiccdjffhhhaaGreatDoor.Rt
open Go.RowKit Go.Sort
set_option linter.unusedVariables false

abbrev Cf.at (c : Cf) (a : Option Addr) (cp : Nat) : Cf := { c with a := a, cp := cp }
def LooseR (w : World) (g : Nat) : Prop := ∀ o, w.frozen? ⟨g, o, none⟩ = false
theorem LooseR.later {w w' : World} {g : Nat} (h : LooseR w g) (hb : Below w.heap.size w w') (hg : g < w.heap.size) : LooseR w' g := fun o => (hb.frozen (p := ⟨g, o, none⟩) hg).trans (h o)
theorem LooseR.setc {w : World} {g : Nat} (h : LooseR w g) (a : Addr) (v : Value) : LooseR (w.setCell a v) g := fun o => by simpa using h o
theorem copied_s {w : World} {g n : Nat} {xs : List ByteArray} {cur : Array Value} (hn : xs.length = n) (hc : ∀ i, i < n + 2 → cur[i]? = some (.string mt))
    (hg : w.heap[g]? = some (.cells (flatS xs ++ cur.toList.drop n).toArray 9 (0, 0))) : CellsS w g (fun i => if i < n then nthS xs i else mt) (n + 2) := by
  have hl : (flatS xs).length = n := by simp [flatS, hn]
  intro i hi
  have hcell : ∀ j v, (flatS xs ++ cur.toList.drop n)[j]? = some v → w.cell? ⟨g, j, none⟩ = some v := fun j v hj => by simp only [World.cell?, hg]; simpa using hj
  refine hcell _ _ ?_
  by_cases h : i < n
  · simp only [h, if_true]
    rw [List.getElem?_append_left (by omega)]
    simp [flatS, nthS, show i < xs.length by omega]
  · simp only [h, if_false]
    rw [List.getElem?_append_right (by omega), List.getElem?_drop, hl, show n + (i - n) = i by omega]
    simpa using hc i hi

set_option maxHeartbeats 4000000 in
set_option maxRecDepth 100000 in
theorem twin_is {c : Cf} {w : World} (h : c.Ok w) (hl : c.ss.length ≤ 8796093022208) (ht : PowTab w) :
    Calls Tryz.prog 6 #[c.val] w fun e w' => ∃ a cp, e = .returned (c.at a cp).val ∧ (c.at a cp).Ok w' ∧ Below w.heap.size w w' := by
  obtain ⟨sh, cl, a, cp, ss, ca, pk, wi⟩ := c
  simp only at hl
  obtain ⟨wA, hwA⟩ : ∃ wA, wA = (w.alloc (.cells #[.int .i64 sh, .int .i64 cl, .slice a ss.length cp, .int .i64 ca, .int .i64 pk, .int .u64 wi] 25)).alloc (.cells #[.int .i64 0, .int .i64 0, .slice none 0 0, .int .i64 0, .int .i64 0, .int .u64 0] 25) := ⟨_, rfl⟩
  have hbA : Below w.heap.size w wA := by rw [hwA]; (repeat (first | exact Below.refl _ _ | assumption | refine Below.drew ?_ | refine Below.al ?_ _ | refine Below.setCell ?_ (by first | exact Nat.le_refl _ | (simp; omega) | (simp; done)) _ | refine Below.on ?_ (by assumption)))
  have HC : Hid (BoxC wA w.heap.size ⟨sh, cl, a, cp, ss, ca, pk, wi⟩) := hid (by rw [hwA]; exact (BoxC.new w ⟨sh, cl, a, cp, ss, ca, pk, wi⟩ _).later (Below.al (Below.refl _ _) _))
  have HD : Hid (BoxC wA (w.heap.size + 1) ⟨0, 0, none, 0, [], 0, 0, 0⟩) := hid (by rw [hwA]; have := BoxC.new (w.alloc (.cells #[.int .i64 sh, .int .i64 cl, .slice a ss.length cp, .int .i64 ca, .int .i64 pk, .int .u64 wi] 25)) ⟨0, 0, none, 0, [], 0, 0, 0⟩ 25; rw [World.size_alloc] at this; exact this)
  have HF : Hid (LooseR wA w.heap.size ∧ LooseR wA (w.heap.size + 1) ∧ w.heap.size + 1 < wA.heap.size) := hid (by rw [hwA]; exact ⟨fun o => by simp [go_sem], fun o => by simp [go_sem], by simp⟩)
  have hmk := make_tx wA (ss.length + 2) (by omega)
  rw [show ((ss.length + 2 : Nat) : Int) = (ss.length : Int) + 2 by omega] at hmk
  obtain ⟨cur, hcur⟩ : ∃ cur, cur = madeCells (Value.string ⟨#[]⟩).cells (ss.length + 2) := ⟨_, rfl⟩
  obtain ⟨G, hG⟩ : ∃ G, G = wA.heap.size := ⟨_, rfl⟩
  obtain ⟨wB, hwB⟩ : ∃ wB, wB = wA.alloc (.cells cur 9) := ⟨_, rfl⟩
  have hcB := madeS wA (ss.length + 2)
  rw [← hcur, ← hwB, ← hG] at hmk hcB
  have hbB : Below wA.heap.size wA wB := by rw [hwB]; exact Below.al (Below.refl _ _) _
  have hkB : wB.heap[G]? = some (.cells cur 9 (0, 0)) := by rw [hwB, hG]; exact World.alloc_heap_new _ _
  have hcz : cur.size = ss.length + 2 := by rw [hcur]; simp [madeCells]
  have hcc : ∀ i, i < ss.length + 2 → cur[i]? = some (.string mt) := fun i hi => by
    have h3 := hcB i hi
    simp only [World.cell?, hkB] at h3
    exact h3
  have HR := hid ((h.row.later hbA).later hbB)
  have HOK := hid h
  have HTA := hid (ht.later hbA)
  have HBB := hid hbB
  have HBA := hid hbA
  have HGs := hid hG
  obtain ⟨b0, b1, b2, b3, b4, b5⟩ := HC.out.later hbB
  have HK := hid hkB
  simp only at b0 b1 b2 b3 b4 b5
  have HCC := hid hcc; have HCZ := hid hcz
  clear hcur hwB hcB hbB hkB hcz hcc h ht hbA hG
  go_enter Tryz.func6, Tryz.ntmps6
  rw [hwA] at hmk
  clear hwA
  go_wp2_with (first | (refine wpList_copy_s rfl _ _ rfl G ss.length (ss.length + 2) a cp ss cur rfl rfl rfl (by omega) HK.out HCZ.out HR.out ?_; intro w2 hk2 hb2; have HK2 := hid hk2; have HB2 : Hid (Below wA.heap.size wA w2) := hid (HBB.out.trans (HGs.out ▸ hb2)); have ⟨d0, d1, d2, d3, d4, d5⟩ := HC.out.later HB2.out; clear hk2 hb2))
  have HL : Hid (CellsS w2 G (fun i => if i < ss.length then nthS ss i else mt) (ss.length + 2) ∧ LooseR w2 G) := hid ⟨copied_s rfl HCC.out HK2.out, fun o => by simp [World.frozen?, HK2.out]⟩
  go_loopg [4] 2 (fun gg s4 wr => ∃ k : Nat, ss.length ≤ k ∧ k ≤ ss.length + 2 ∧ gg = ss.length + 2 - k ∧ s4 = .int .i64 k ∧ ∃ f, Hid (CellsS wr G f (ss.length + 2) ∧ (∀ i, i < ss.length → f i = nthS ss i) ∧ LooseR wr G ∧ Below wA.heap.size wA wr ∧ G < wr.heap.size))
  case atStart => exact ⟨ss.length, by omega, by omega, by omega, rfl, _, hid ⟨HL.out.1, fun i hi => by simp [hi], HL.out.2, HB2.out, (Array.getElem?_eq_some_iff.1 HK2.out).1⟩⟩
  case round =>
    obtain ⟨k, hk1, hk, rfl, rfl, f, HQ⟩ := hrel
    clear HK2 hmk HL HB2 d0 d1 d2 d3 d4 d5 b0 b1 b2 b3 b4 b5
    by_cases hlt : k < ss.length + 2
    · have MK := hid (mark_is (i := -1) (j := k) (by omega) (by omega) wr (HTA.out.later HQ.out.2.2.2.1))
      have HA : Hid (∀ w1, Below wr.heap.size wr w1 → CellsS w1 G f (ss.length + 2) ∧ LooseR w1 G ∧ Below wA.heap.size wA w1 ∧ G < w1.heap.size) := hid (fun w1 hb => ⟨HQ.out.1.later hb, HQ.out.2.2.1.later hb HQ.out.2.2.2.2, Below.on HQ.out.2.2.2.1 hb, Nat.lt_of_lt_of_le HQ.out.2.2.2.2 hb.size⟩)
      have hkI : (k : Int) < (ss.length : Int) + 2 := by omega
      go_wp2_with (go_at_call 15; refine MK.out.mono ?_; rintro e w3 ⟨s, rfl, hb3⟩; have d0 := (HA.out w3 hb3).1 k hlt; have l0 := (HA.out w3 hb3).2.1 k)
      go_roundg (ss.length + 2 - (k + 1))
      case measure => omega
      case rel =>
        refine ⟨k + 1, by omega, by omega, rfl, by go_num, putS f k s, hid ⟨(HA.out w3 hb3).1.put hlt s, fun i hi => ?_, (HA.out w3 hb3).2.1.setc _ _, ?_, by simpa using (HA.out w3 hb3).2.2.2⟩⟩
        · simp only [putS, show i ≠ k by omega, if_false]; exact HQ.out.2.1 i hi
        · exact Below.setCell (HA.out w3 hb3).2.2.1 (p := ⟨G, k, none⟩) (by rw [HGs.out]; exact Nat.le_refl _) _
    · obtain rfl : k = ss.length + 2 := by omega
      obtain ⟨b0, b1, b2, b3, b4, b5⟩ := HC.out.later HQ.out.2.2.2.1
      obtain ⟨e0, e1, e2, e3, e4, e5⟩ := HD.out.later HQ.out.2.2.2.1
      have f0 : ∀ o, wr.frozen? ⟨w.heap.size, o, none⟩ = false := HF.out.1.later HQ.out.2.2.2.1 (by have := HF.out.2.2; omega)
      have f1 : ∀ o, wr.frozen? ⟨w.heap.size + 1, o, none⟩ = false := HF.out.2.1.later HQ.out.2.2.2.1 HF.out.2.2
      simp only at b0 b1 b2 b3 b4 b5 e0 e1 e2 e3 e4 e5
      have HG2 : Hid (w.heap.size + 1 < G) := hid (by rw [HGs.out]; exact HF.out.2.2)
      have HBW := hid (Below.on HBA.out HQ.out.2.2.2.1)
      go_wp2_with fail
      refine bodyPost_ret (v := (Cf.at ⟨sh, cl, a, cp, ss, ca, pk, wi⟩ (some ⟨G, 0, none⟩) (ss.length + 2)).val) (by simp [results, Tryz.results6, go_sem, e0, e1, e2, e3, e4, e5]) rfl ⟨_, _, rfl, ⟨?_, HOK.out.len, HOK.out.sh⟩, ?_⟩
      · intro i hi
        refine ⟨G, 0, rfl, ?_⟩
        have hG := HG2.out
        have hc := HQ.out.1 i (by have : i < ss.length := hi; omega)
        rw [HQ.out.2.1 i hi] at hc
        rw [Nat.zero_add]
        repeat (with_reducible refine cell_setc (by simp only [ne_eq, Addr.mk.injEq]; omega) ?_)
        exact hc
      · have hB := HBW.out
        (repeat (first | with_reducible exact Below.refl _ _ | with_reducible assumption | with_reducible refine Below.drew ?_ | with_reducible refine Below.al ?_ _ | with_reducible refine Below.setCell ?_ (by first | exact Nat.le_refl _ | (simp; omega) | (simp; done)) _ | with_reducible refine Below.on ?_ (by assumption)))

end Go.Proofs.YtfkiccdjffhhhaaGreatDoor.Rt
