import Derived.Test.YtodolbekbeccbabSortCall
namespace Go.Proofs.Ytodolbekbeccbab
open Go.RowKit Go.Sort Go.Shelf Go.Lib
set_option linter.unusedVariables false

set_option maxHeartbeats 1000000 in
theorem sort_any (a : Option Addr) (c n : Nat) (xs : List St) (w : World) (hn : xs.length = n) (h : Row w a xs) (hl : n * 16 ≤ 140737488351232) :
    Calls Try.prog 15 #[.slice a n c] w fun e w' => ∃ g, e = .returned (.slice (some ⟨g, 0, none⟩) n n) ∧ w.heap.size ≤ g ∧
      w'.ownsRow w.heap.size 25 3 (.slice (some ⟨g, 0, none⟩) n n) n (flat (srt xs)) ∧ Below w.heap.size w w' := by
  obtain ⟨i0, hi, hz0, hz1, hz2⟩ := info_parts Try.infoSt
  have sorted := hid (fun W hown => @sortfunc_any ⟨zst⟩ w.heap.size w.heap.size n xs W hn hown (by omega))
  have HN := hid hn
  have H0 := hid h
  clear hn h
  go_enter Try.func15, Try.ntmps15
  go_wp2_with (first
    | (refine wpList_make_full _ rfl _ _ 31 rfl w.heap.size 25 i0 (stv 0 0 0) 3 Try.underlying31 hi hz0 hz1 .i64 .i64 _ _ n rfl rfl (by omega) (by omega) (by rw [hz2]; omega) (by unfold maxLen; omega) (Nat.le_refl _) ?_)
    | go_in)
  intro w1 hown0 hg0
  have HO : Hid (w1.ownsRow w.heap.size 25 3 (.slice (some ⟨w.heap.size, 0, none⟩) n n) n (flat (tab n fun _ => zst))) := by rw [← made_flat]; exact hown0
  have HB : Hid (Below w.heap.size w w1) := Below.grown (Below.refl _ _) hg0 (Nat.le_refl _) (fun k hk => by cases hk)
  clear hown0 hg0
  obtain ⟨w2, hrun, hown2, hb2⟩ := run_copy_st w1 w.heap.size w.heap.size n a c (tab n fun _ => zst) xs 3 (tab_length _ _) HN.out HO.out (H0.out.later HB.out)
  have HO := hid hown2
  have HB := hid (HB.out.trans hb2)
  clear hown2 hb2
  go_wp2_with (go_at_call 24; refine (sorted.out _ HO.out).mono ?_; rintro e w3 ⟨rfl, hown3, hb3⟩)
  go_ret
  exact ⟨w.heap.size, rfl, Nat.le_refl _, hown3, HB.out.trans hb3⟩

end Go.Proofs.Ytodolbekbeccbab
