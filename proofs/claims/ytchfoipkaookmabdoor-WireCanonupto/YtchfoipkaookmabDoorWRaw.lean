import Derived.Test.YtchfoipkaookmabDoorWOwn
namespace Go.Proofs.YtchfoipkaookmabDoor
open Go.RowKit Go.Sort
set_option linter.unusedVariables false

theorem ptrOf_ptr (cs : List (Nat × List Nat)) : ∃ q, ptrOf cs = .pointer q := by
  cases cs with
  | nil => exact ⟨_, rfl⟩
  | cons x r => exact ⟨_, rfl⟩

set_option maxHeartbeats 400000 in
theorem raw_any {w : World} {A : Nat → Prop} {b o : Nat} {bs t : List Nat} (h : EncAt w A b o bs) (ht : B8 t) (hA : ∀ k, A k → k < w.heap.size) (hl : bs.length + t.length ≤ 9223372036854775807) :
    Calls Tryd.prog 25 #[.pointer (some ⟨b, o, none⟩), .string (ofNats t)] w fun e w' => e = .returned (.tuple #[]) ∧ Cel b o 2 w w' ∧ EncAt w' A b o (bs ++ t) := by
  obtain ⟨hself, ⟨cs, rfl, hch, hcA, c0⟩, c1, lo⟩ := h
  obtain ⟨q, hq⟩ := ptrOf_ptr cs
  rw [hq] at c0
  have HQ := hid hq
  clear hq
  obtain ⟨n, hn⟩ : ∃ n, n = (total cs).length := ⟨_, rfl⟩
  rw [← hn] at c1 hl
  have HN := hid hn
  have HT := hid ht
  have HS := hid hself
  have HC := hid hcA
  have HH := hid hch
  have HAA := hid hA
  have hbl : b < w.heap.size := World.block_lt_of_cell? _ _ c0
  have f : ∀ i, w.frozen? ⟨b, i, none⟩ = false := lo
  have hts : ((ofNats t).size : Int) = (t.length : Int) := by rw [ofNats_size]
  have hw : IntKind.i64.wrap ((n : Int) + (t.length : Int)) = (n : Int) + (t.length : Int) := by rw [IntKind.wrap_i64]; omega
  clear hn ht hself hcA hch hA
  go_enter Tryd.func25, Tryd.ntmps25
  go_wp2_with fail
  go_end0
  have C := (((Cel.refl b o 2 w).set o ⟨Nat.le_refl _, by omega⟩ (.pointer (some ⟨w.heap.size, 0, none⟩))).set (o + 1) ⟨by omega, by omega⟩ (.int .i64 ((n : Int) + (t.length : Int)))).al (.cells #[.pointer q, .string (ofNats t)] 71)
  refine ⟨rfl, C, HS.out, ⟨(w.heap.size, t) :: cs, rfl, ⟨?_, ?_, HT.out, HH.out.keep HC.out (fun k i v hk hv => C.cell (.inl (fun e => hk (e ▸ HS.out))) hv)⟩, ?_, ?_⟩, ?_, C.loose hbl lo⟩
  · rw [HQ.out]; simp [go_sem]
  · simp [go_sem]
  · intro x hx
    rcases List.mem_cons.1 hx with h | h
    · subst h; exact fun ha => absurd (HAA.out _ ha) (Nat.lt_irrefl _)
    · exact HC.out x h
  · rw [World.cell?_alloc_past _ _ _ (by simpa [World.setCell] using hbl)]
    exact cell_setc (by simp) (World.cell?_setCell_same _ _ _ c0)
  · rw [World.cell?_alloc_past _ _ _ (by simpa [World.setCell] using hbl), World.cell?_setCell_same _ _ _ (cell_setc (by simp) c1), List.length_append, ← HN.out]
    rfl

end Go.Proofs.YtchfoipkaookmabDoor
