import Derived.Test.YtggmhodogfngdaaDoorGtDf
import Derived.Test.YtggmhodogfngdaaDoorGtUnw
import Derived.Test.YtggmhodogfngdaaDoorGtFd
/- The document's unword of a field, and its number. -/
namespace Go.Proofs.YtggmhodogfngdaaDoor.Gt
open Go.Proofs.YtggmhodogfngdaaDoor Go.Proofs.YtggmhodogfngdaaDoor.Rt Go.RowKit Go.Sort Go.Shelf
set_option linter.unusedVariables false
set_option linter.unusedSimpArgs false

theorem getD_some {A : List (List Nat)} {i : Nat} (h : i < A.length) : A[i]? = some (A.getD i []) := by simp [List.getD, h]
theorem getD_mem {A : List (List Nat)} {i : Nat} (h : i < A.length) : A.getD i [] ∈ A := List.mem_of_getElem? (getD_some h)
set_option maxRecDepth 100000 in
set_option maxHeartbeats 1000000 in
theorem dunw_is {A : List (List Nat)} {a : Option Addr} {c i : Nat} (hA : TxOk A) (hL : A.length ≤ 401) (hi : i ≤ 8) {w : World} (hr : TxRow w a A) :
    Calls Tryd.prog 44 #[.slice a A.length c, .int .i64 (i : Int)] w fun e w' => e = .returned (.string (ofNats (unI A i))) ∧ Below w.heap.size w w' := by
  by_cases h : i < A.length
  · obtain ⟨g, rfl, hc⟩ := hr i h
    have hm := hA _ (getD_mem h)
    have hE : unI A i = unT (A.getD i []) := by unfold unI; rw [getD_some h]
    have RU := hid (fun W => runword_is hm.1 (by have := hm.2; omega) W)
    rw [unA_is] at RU
    have d1 : decide ((A.length : Int) ≤ (i : Int)) = false := by simp; omega
    have hlt : (i : Int) < (A.length : Int) := by omega
    rw [hE]
    clear hE hm hr hA
    generalize ofNats (unT (A.getD i [])) = t at *
    generalize (if badT (A.getD i []) then (120 : Int) else 0) = q at *
    generalize ofNats (A.getD i []) = s at *
    go_enter Tryd.func44, Tryd.ntmps44
    go_wp2_with fail
    refine (RU.out _).mono ?_
    rintro e w1 ⟨rfl, hb⟩
    have HB := hid hb
    clear hb RU
    go_wp2_with fail
    go_ret
    exact ⟨rfl, HB.out⟩
  · have hE : unI A i = [] := by unfold unI; rw [List.getElem?_eq_none (by omega)]
    have d1 : decide ((A.length : Int) ≤ (i : Int)) = true := by simp; omega
    have hge : A.length ≤ i := by omega
    rw [hE]
    clear hE hr hA h
    go_enter Tryd.func44, Tryd.ntmps44
    go_wp2_with fail
    go_ret
    exact ⟨rfl, Below.refl _ _⟩
theorem stW_lt (v b : Nat) : stW v b < 18446744073709551616 := by
  unfold stW
  exact Nat.mod_lt _ (by omega)
theorem sumW_ltv : ∀ (l : List Nat) (v : Nat), v < 18446744073709551616 → sumW v l < 18446744073709551616
  | [], v, h => by unfold sumW; rw [List.foldl_nil]; exact h
  | x :: l, v, h => by
    have := sumW_ltv l (stW v x) (stW_lt v x)
    unfold sumW at this ⊢
    rw [List.foldl_cons]; exact this
theorem sumW_lt (l : List Nat) : sumW 0 l < 18446744073709551616 := sumW_ltv l 0 (by omega)
theorem sumW_take {l : List Nat} {k b : Nat} (h : l[k]? = some b) : sumW 0 (l.take (k + 1)) = stW (sumW 0 (l.take k)) b := by
  rw [List.take_add_one, h]
  exact sumW_app _ _ _
set_option maxRecDepth 100000 in
set_option maxHeartbeats 1000000 in
theorem dnum_is {A : List (List Nat)} {a : Option Addr} {c : Nat} (hA : TxOk A) (hL : A.length ≤ 401) {w : World} (hr : TxRow w a A) :
    Calls Tryd.prog 45 #[.slice a A.length c] w fun e w' => e = .returned (.int .i64 (numW A)) ∧ Below w.heap.size w w' := by
  by_cases h : 3 < A.length
  · obtain ⟨g, rfl, hc⟩ := hr 3 h
    have hm := hA _ (getD_mem h)
    have hE : numW A = (let v := sumW 0 (A.getD 3 []); if v < 9223372036854775808 then (v : Int) else (v : Int) - 18446744073709551616) := by unfold numW; rw [getD_some h]
    obtain ⟨z, hz⟩ : ∃ z, z = numW A := ⟨_, rfl⟩
    rw [← hz] at hE ⊢
    have HE := hid hE
    clear hz
    have d1 : (3 : Int) < (A.length : Int) := by omega
    have hc' : ∀ W : World, W.heap[g]? = w.heap[g]? → W.cell? ⟨g, 3, none⟩ = some (.string (ofNats (A.getD 3 []))) := fun W hW => by
      rw [World.cell?_of_block (a := ⟨g, 3, none⟩) hW]; exact hc
    have HC := hid hc'
    have hgl : g < w.heap.size := World.block_lt_of_cell? _ _ hc
    clear hr hA hE hc'
    generalize hs : A.getD 3 [] = s at *
    obtain ⟨h8, hl⟩ := hm
    have hsz : (ofNats s).size = s.length := ofNats_size s
    have H8 := hid h8
    clear h8 hs
    go_enter Tryd.func45, Tryd.ntmps45
    go_wp2_with fail
    go_loopg [3, 4] s.length (fun q s1 s2 wr => ∃ (k v : Nat), k ≤ s.length ∧ q = s.length - k ∧ s1 = .int .u64 v ∧ s2 = .int .i64 k ∧ Hid (v = sumW 0 (s.take k)) ∧ v < 18446744073709551616 ∧ Hid (Below w.heap.size w wr))
    case atStart => exact ⟨0, 0, by omega, by omega, rfl, rfl, hid (by simp [sumW]), by omega, hid (Below.refl _ _)⟩
    case round =>
      obtain ⟨k, v, hk, rfl, rfl, rfl, HV, hv, HB⟩ := hrel
      have hcr := HC.out wr (HB.out.block g hgl)
      by_cases hlt : k < s.length
      · obtain ⟨ch, hch⟩ : ∃ c, s[k]? = some c := ⟨_, List.getElem?_eq_getElem hlt⟩
        have hix : ∀ w, (Instr.index 9 (.string (ofNats s)) (.int .i64 (k : Int))).run Tryd.prog w = .ok (.int .u8 (ch : Int)) w := fun w => index_ofNats H8.out hch w
        have hc8 : ch < 256 := H8.out ch (List.mem_of_getElem? hch)
        have HN : Hid (stW v ch = sumW 0 (s.take (k + 1))) := hid (by rw [sumW_take hch, HV.out])
        have hn := stW_lt v ch
        have e1 : IntKind.u64.wrap ((v : Int) * 10) = ((v * 10 % 18446744073709551616 : Nat) : Int) := by rw [IntKind.wrap_u64]; omega
        have e0 : IntKind.u64.wrap (ch : Int) = (ch : Int) := by rw [IntKind.wrap_u64]; omega
        have e2 : IntKind.u64.wrap (((v * 10 % 18446744073709551616 : Nat) : Int) + (ch : Int)) = (((v * 10 + ch) % 18446744073709551616 : Nat) : Int) := by rw [IntKind.wrap_u64]; omega
        have e3 : IntKind.u64.wrap ((((v * 10 + ch) % 18446744073709551616 : Nat) : Int) - 48) = ((stW v ch : Nat) : Int) := by rw [IntKind.wrap_u64]; unfold stW; omega
        generalize stW v ch = u at *
        generalize v * 10 % 18446744073709551616 = x1 at *
        generalize (v * 10 + ch) % 18446744073709551616 = x2 at *
        clear hch
        go_wp2_with fail
        go_roundg (s.length - (k + 1))
        case measure => omega
        case rel => exact ⟨k + 1, u, by omega, rfl, rfl, by go_num, HN, hn, HB⟩
      · obtain rfl : k = s.length := by omega
        have HF : Hid (IntKind.i64.wrap (v : Int) = z) := hid (by
          rw [HE.out]
          have h1 := HV.out
          rw [List.take_length] at h1
          rw [← h1, IntKind.wrap_i64]
          split <;> omega)
        clear hlt
        have hwz := HF.out
        go_wp2_with fail
        go_ret
        exact ⟨rfl, HB.out⟩
  · have hE : numW A = 0 := by unfold numW; rw [List.getElem?_eq_none (by omega)]
    have d1 : ¬ (3 : Int) < (A.length : Int) := by omega
    rw [hE]
    clear hE hr hA h
    go_enter Tryd.func45, Tryd.ntmps45
    go_wp2_with fail
    go_ret
    exact ⟨rfl, Below.refl _ _⟩
end Go.Proofs.YtggmhodogfngdaaDoor.Gt
