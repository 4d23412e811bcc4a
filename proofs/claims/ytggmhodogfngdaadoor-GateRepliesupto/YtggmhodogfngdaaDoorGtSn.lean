import Derived.Test.YtggmhodogfngdaaDoorGtNm
import Derived.Test.YtggmhodogfngdaaDoorGtItoa
/- The statuses' names: the program's function. -/
namespace Go.Proofs.YtggmhodogfngdaaDoor.Gt
open Go.Proofs.YtggmhodogfngdaaDoor Go.Proofs.YtggmhodogfngdaaDoor.Rt Go.RowKit Go.Sort
set_option linter.unusedVariables false

set_option maxHeartbeats 2000000 in
set_option maxRecDepth 100000 in
theorem sname_is {e : Int} (h0 : -9223372036854775808 ≤ e) (h1 : e ≤ 9223372036854775807) (w : World) (ht : PowTab w) (hn : NmTab w) :
    Calls Tryd.prog 12 #[.int .i64 e] w fun r w' => r = .returned (.string (ofNats (nameL e))) ∧ Below w.heap.size w w' := by
  have HN := hid hn
  have HT := hid ht
  clear hn ht
  go_enter Tryd.func12, Tryd.ntmps12
  go_wp2_with (first | (refine wpList_load_at (by rfl) 62 _ (by rfl) ⟨0, 0, none⟩ (by rfl) tabC _ (fun j v hj => by rw [Addr.add_lit, Nat.zero_add]; exact HN.out j v hj) Tryd.underlying62 (by rfl) infoNm ?_) | fail)
  go_loopg [6] 15 (fun g s6 wr => ∃ k : Nat, k ≤ 15 ∧ g = 15 - k ∧ s6 = .int .i64 k ∧ Hid (Below w.heap.size w wr) ∧ Hid (look (tabN.drop k) e = nameL e))
  case atStart => exact ⟨0, by omega, by omega, rfl, hid (Below.refl _ _), hid rfl⟩
  case round =>
    obtain ⟨k, hk, rfl, rfl, HB, HL⟩ := hrel
    by_cases hlt : k < 15
    · have hix : ∀ W, (Instr.index 62 (.agg tabC.toArray) (.int .i64 (k : Int))).run Tryd.prog W = .ok (.agg #[.int .i64 ((tabN.getD k (0, [])).1 : Int), .string (ofNats (tabN.getD k (0, [])).2)]) W := fun W => index_nm W k hlt
      have HS : Hid (look (tabN.drop k) e = if ((tabN.getD k (0, [])).1 : Int) = e then (tabN.getD k (0, [])).2 else look (tabN.drop (k + 1)) e) := hid (by
        have hk' : k < tabN.length := hlt
        rw [look_step hk' e]
        simp [List.getD_eq_getElem?_getD, List.getElem?_eq_getElem hk'])
      generalize (tabN.getD k (0, [])).1 = c at *
      generalize (tabN.getD k (0, [])).2 = nm at *
      by_cases hq : (c : Int) = e
      · have HR : Hid (nm = nameL e) := hid (by rw [← HL.out, HS.out, if_pos hq])
        go_wp2_with fail
        go_ret
        refine ⟨by rw [HR.out]; rfl, ?_⟩
        have HB' := HB.out
        (repeat (first | with_reducible exact Below.refl _ _ | with_reducible assumption | with_reducible refine Below.drew ?_ | with_reducible refine Below.al ?_ _ | with_reducible refine Below.setCell ?_ (by first | exact Nat.le_refl _ | (simp; omega) | (simp; done)) _ | with_reducible refine Below.on ?_ (by assumption)))
      · have HL' : Hid (look (tabN.drop (k + 1)) e = nameL e) := hid (by rw [← HL.out, HS.out, if_neg hq])
        go_wp2_with fail
        go_roundg (15 - (k + 1))
        case measure => omega
        case rel =>
          refine ⟨k + 1, by omega, rfl, by go_num, hid ?_, HL'⟩
          have HB' := HB.out
          (repeat (first | with_reducible exact Below.refl _ _ | with_reducible assumption | with_reducible refine Below.drew ?_ | with_reducible refine Below.al ?_ _ | with_reducible refine Below.setCell ?_ (by first | exact Nat.le_refl _ | (simp; omega) | (simp; done)) _ | with_reducible refine Below.on ?_ (by assumption)))
    · obtain rfl : k = 15 := by omega
      have HR : Hid (decI e = nameL e) := hid HL.out
      go_wp2_with fail
      refine (itoa_all h0 h1 _ (HT.out.later HB.out)).mono ?_
      rintro r w2 ⟨rfl, hb⟩
      have HB2 := hid hb
      clear hb
      go_wp2_with fail
      go_ret
      exact ⟨by rw [HR.out]; rfl, Below.on HB.out HB2.out⟩

end Go.Proofs.YtggmhodogfngdaaDoor.Gt
