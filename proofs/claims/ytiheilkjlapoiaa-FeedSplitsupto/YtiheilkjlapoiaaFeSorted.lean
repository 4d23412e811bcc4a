import Derived.Test.YtiheilkjlapoiaaFeColl
import Derived.Test.YtiheilkjlapoiaaFeSort
/- slices.SortedFunc at slices.Values of entries. -/
namespace Go.Proofs.Ytiheilkjlapoiaa.Lg
open Go.RowKit Go.Sort Go.Shelf Go.Lib Lk
set_option linter.unusedVariables false

theorem sortedFunc_is {w : World} {Bm : Nat} {am : Option Addr} {cm : Nat} {M : List En} (hm : w.cell? ⟨Bm, 0, none⟩ = some (.slice am M.length cm)) (hM : RowE w am M) (hlen : M.length ≤ 3518437208882) :
    Calls Try.prog 15 #[.func (.func VALS1) #[] #[.pointer (some ⟨Bm, 0, none⟩)], .func (.func 17) #[] #[]] w fun e w' => ∃ (a : Option Addr) (n c : Nat) (U : List En), e = .returned (.slice a n c) ∧ Hid (U.length = n) ∧ Hid (OwnL w.heap.size w' (.slice a n c) n U) ∧
      Hid (U.Perm M) ∧ Hid (U.Pairwise (fun x y => ltE y x = false)) ∧ Hid (Below w.heap.size w w') := by
  have CO := hid (collect_is hm hM hlen)
  clear hm hM
  go_enter Try.func15, Try.ntmps15
  go_wp2_with fail
  refine CO.out.mono ?_
  rintro e w1 ⟨v, rfl, h2, h3⟩
  obtain ⟨a, c, rfl⟩ := owns_slice h2.out
  obtain ⟨n, hn⟩ : ∃ n, n = M.length := ⟨_, rfl⟩
  rw [← hn] at h2 ⊢
  have SO := hid (sortE_is h2.out hn.symm (by omega))
  have HN := hid hn
  clear hn
  go_wp2_with fail
  refine SO.out.mono ?_
  rintro e w2 ⟨rfl, U', hpU, hsU, hoU, honl⟩
  have HB2 : Hid (Below w.heap.size w w2) := h3.out.trans (honl.below (B := w.heap.size) (fun b hb => (h2.out.lt b hb).1) h3.out.size)
  have HFin : Hid (U'.length = n) ∧ Hid (OwnL w.heap.size w2 (.slice a n c) n U') ∧ Hid (U'.Perm M) ∧ Hid (U'.Pairwise (fun x y => ltE y x = false)) ∧ Hid (Below w.heap.size w w2) :=
    ⟨hid (by rw [hpU.length_eq]; exact HN.out.symm), hoU, hid hpU, hsU, HB2⟩
  clear hpU hsU hoU honl HB2
  go_wp2_with fail
  go_ret
  exact ⟨a, n, c, U', rfl, HFin⟩
end Go.Proofs.Ytiheilkjlapoiaa.Lg
