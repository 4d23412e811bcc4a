import Derived.Test.YtfkiccdjffhhhaaGreatDoorRdLines
import Derived.Test.YtfkiccdjffhhhaaGreatDoorRMay
import Derived.Test.YtfkiccdjffhhhaaGreatDoorRdSplit
/- cut: a text's lines, each with its end. -/
namespace Go.Proofs.YtfkiccdjffhhhaaGreatDoor.Rt
open Go.RowKit Go.Sort
set_option linter.unusedVariables false

def endB (l : List UInt8) : ByteArray := ⟨(l ++ [10]).toArray⟩
theorem flatCons (l : List UInt8) (b : List (List UInt8)) : flat (l :: b) = l ++ 10 :: flat b := by simp [flat]
theorem flatApp (a b : List (List UInt8)) : flat (a ++ b) = flat a ++ flat b := List.flatMap_append
theorem flat_take : ∀ (ls : List (List UInt8)) (k : Nat), (flat ls).drop (flat (ls.take k)).length = flat (ls.drop k)
  | ls, 0 => by simp [flat]
  | [], k + 1 => by simp [flat]
  | l :: ls, k + 1 => by
    have ih := flat_take ls k
    rw [List.take_succ_cons, List.drop_succ_cons, flatCons, flatCons, ← ih]
    simp only [List.length_append, List.length_cons]
    rw [show l.length + ((flat (ls.take k)).length + 1) = (l ++ [10]).length + (flat (ls.take k)).length by simp; omega, ← List.drop_drop]
    congr 1
    rw [show l ++ 10 :: flat ls = (l ++ [10]) ++ flat ls by simp, List.drop_left]
theorem flat_next {ls : List (List UInt8)} {k : Nat} (h : k < ls.length) : (flat (ls.take (k + 1))).length = (flat (ls.take k)).length + ls[k].length + 1 := by
  rw [List.take_succ_eq_append_getElem h, flatApp, List.length_append]
  have : (flat [ls[k]]).length = ls[k].length + 1 := by simp [flat]
  omega
theorem flat_le (ls : List (List UInt8)) (k : Nat) : (flat (ls.take k)).length ≤ (flat ls).length := by
  have : flat ls = flat (ls.take k) ++ flat (ls.drop k) := by
    rw [← flatApp, List.take_append_drop]
  rw [this]
  simp
/-- within the line k that begins at f, at i -/
structure In (ls : List (List UInt8)) (k f i : Nat) : Prop where
  lk : k ≤ ls.length
  fr : f = (flat (ls.take k)).length
  le : f ≤ i
  wi : ∀ h : k < ls.length, i ≤ f + ls[k].length
  en : k = ls.length → i = (flat ls).length
section
variable {ls : List (List UInt8)} {k f i : Nat}
theorem In.lt (h : In ls k f i) (hi : i < (flat ls).length) : k < ls.length := by
  rcases Nat.lt_or_ge k ls.length with h1 | h1
  · exact h1
  · have := h.en (by have := h.lk; omega); omega
theorem In.at (h : In ls k f i) (hk : k < ls.length) (hi : i < (flat ls).length) : (flat ls)[i] = (ls[k] ++ [10])[i - f]'(by have := h.wi hk; simp; omega) := by
  have e := flat_take ls k
  rw [← h.fr, List.drop_eq_getElem_cons hk, flatCons] at e
  have hle := h.le
  have hw := h.wi hk
  have h1 : (flat ls)[i]? = ((flat ls).drop f)[i - f]? := by rw [List.getElem?_drop]; congr 1; omega
  rw [e, show ls[k] ++ 10 :: flat (ls.drop (k + 1)) = (ls[k] ++ [10]) ++ flat (ls.drop (k + 1)) by simp, List.getElem?_append_left (by simp; omega)] at h1
  rw [List.getElem?_eq_getElem hi, List.getElem?_eq_getElem (by simp; omega)] at h1
  exact Option.some.inj h1
theorem In.ten (h : In ls k f i) (hk : k < ls.length) (hi : i < (flat ls).length) (hn : (10 : UInt8) ∉ ls[k]) : ((flat ls)[i] = 10 ↔ i = f + ls[k].length) := by
  rw [h.at hk hi]
  have hw := h.wi hk
  have hle := h.le
  rw [List.getElem_append]
  split
  · rename_i h1
    constructor
    · intro e
      exact absurd (e ▸ List.getElem_mem _) hn
    · intro e; omega
  · rename_i h1
    simp
    omega
theorem In.step (h : In ls k f i) (hk : k < ls.length) (hi : i < f + ls[k].length) : In ls k f (i + 1) :=
  ⟨h.lk, h.fr, by have := h.le; omega, fun h' => by omega, fun e => by omega⟩
theorem In.next (h : In ls k f i) (hk : k < ls.length) (hi : i = f + ls[k].length) : In ls (k + 1) (i + 1) (i + 1) := by
  have hf := flat_next hk
  have hfr := h.fr
  refine ⟨hk, by omega, Nat.le_refl _, fun h' => by omega, fun e => ?_⟩
  have : ls.take (k + 1) = ls := by rw [e, List.take_length]
  rw [this] at hf
  omega
theorem In.piece (h : In ls k f i) (hk : k < ls.length) (hi : i = f + ls[k].length) {t : ByteArray} (ht : t.data.toList = flat ls) : t.extract f (i + 1) = endB ls[k] := by
  have e := flat_take ls k
  rw [← h.fr, List.drop_eq_getElem_cons hk, flatCons] at e
  have h2 : (t.extract f (i + 1)).data.toList = ls[k] ++ [10] := by
    rw [ByteArray.data_extract, Array.toList_extract, List.extract_eq_take_drop, ht, e]
    rw [show i + 1 - f = (ls[k] ++ [10]).length by simp; omega, show ls[k] ++ 10 :: flat (ls.drop (k + 1)) = (ls[k] ++ [10]) ++ flat (ls.drop (k + 1)) by simp, List.take_left]
  cases hx : t.extract f (i + 1) with
  | mk d =>
    rw [hx] at h2
    simp only at h2
    unfold endB
    rw [← h2]
end
/-- the lines that are there so far -/
def outV (ls : List (List UInt8)) (k : Nat) : List Value := (ls.take k).map fun l => .string (endB l)
structure Ct (w wr : World) (ls : List (List UInt8)) (k f i : Nat) (v : Value) : Prop where
  inn : In ls k f i
  row : wr.ownsRow w.heap.size 9 1 v k (outV ls k)
  bel : Below w.heap.size w wr
theorem outV_next {ls : List (List UInt8)} {k : Nat} (h : k < ls.length) : outV ls (k + 1) = outV ls k ++ [.string (endB ls[k])] := by
  unfold outV
  rw [List.take_succ_eq_append_getElem h, List.map_append]
  rfl
/-- what cut answers -/
def CutP (w : World) (ls : List (List UInt8)) (e : Ending) (w' : World) : Prop := ∃ a c, e = .returned (.slice a ls.length c) ∧ RowS w' a (ls.map endB) ∧ Below w.heap.size w w'
theorem rowS_own {w : World} {B n c : Nat} {a : Option Addr} {xs : List ByteArray} (h : w.ownsRow B 9 1 (.slice a n c) n (xs.map Value.string)) (hl : xs.length = n) : RowS w a xs := by
  have h' := h
  obtain ⟨_, ⟨e, h0⟩ | ⟨g, cap, cur, e, _⟩⟩ := h
  · intro i hi
    omega
  · injection e with e1 e2 e3
    subst e1
    intro i hi
    refine ⟨g, 0, rfl, ?_⟩
    rw [Nat.zero_add, World.ownsRow.cellAt h' i (by omega)]
    simp [nthS, hi]
set_option maxRecDepth 16000 in
set_option maxHeartbeats 4000000 in
theorem cutT_is {t : ByteArray} {ls : List (List UInt8)} {w : World} (ht : t.data.toList = flat ls) (hn : ∀ l ∈ ls, (10 : UInt8) ∉ l) (hl : ls.length ≤ 1000) (hs : t.size ≤ 1000) :
    Calls Tryz.prog 9 #[.string t] w (CutP w ls) := by
  obtain ⟨i0, hi0, hz0, hs0, hb0⟩ := info_some infoStr
  have hsz : (flat ls).length = t.size := by rw [← ht, Lib.size_eq]
  have HSZ := hid hsz
  have HN := hid hn
  have HT := hid ht
  have HB : Hid (Ct w w ls 0 0 0 (.slice none 0 0)) := hid ⟨⟨Nat.zero_le _, by simp [flat], Nat.le_refl _, fun _ => Nat.zero_le _, fun e => by
    have : ls = [] := List.eq_nil_of_length_eq_zero e.symm
    rw [this]; rfl⟩, World.ownsRow_nil _ _ _ _, Below.refl _ _⟩
  clear hn ht hsz
  go_enter Tryz.func9, Tryz.ntmps9
  go_wp2_with fail
  go_loopg [3, 4, 5] t.size (fun g s3 s4 s5 wr => ∃ k f i : Nat, ∃ va vc, i ≤ t.size ∧ g = t.size - i ∧ f ≤ i ∧ k ≤ 1000 ∧ s3 = .slice va k vc ∧ s4 = .int .i64 f ∧ s5 = .int .i64 i ∧ Hid (Ct w wr ls k f i (.slice va k vc)))
  case atStart => exact ⟨0, 0, 0, none, 0, by omega, by omega, by omega, by omega, rfl, rfl, rfl, HB⟩
  case round =>
    obtain ⟨k, f, i, va, vc, hi, rfl, hfi, hk1, rfl, rfl, rfl, HQ⟩ := hrel
    by_cases hlt : i < t.size
    · have HK : Hid (k < ls.length) := hid (HQ.out.inn.lt (by rw [HSZ.out]; exact hlt))
      have hten : (((t[i]'hlt).toNat : Int) == 10) = decide (i = f + (ls[k]'HK.out).length) := by
        have h1 := HQ.out.inn.ten HK.out (by rw [HSZ.out]; exact hlt) (HN.out _ (List.getElem_mem _))
        have h2 : (flat ls)[i]'(by rw [HSZ.out]; exact hlt) = t[i]'hlt := by
          have : t.data.toList[i]'(by rw [HT.out, HSZ.out]; exact hlt) = t[i]'hlt := by simp; rfl
          rw [← this]
          congr 1
          exact HT.out.symm
        rw [h2] at h1
        rw [Bool.eq_iff_iff, beq_iff_eq, decide_eq_true_eq, ← h1]
        constructor
        · intro e
          apply UInt8.toNat_inj.1
          have : (10 : UInt8).toNat = 10 := rfl
          omega
        · intro e; rw [e]; rfl
      by_cases hEq : i = f + (ls[k]'HK.out).length
      · rw [decide_eq_true hEq] at hten
        have HP := hid (HQ.out.inn.piece HK.out hEq HT.out)
        have HX := hid (HQ.out.inn.next HK.out hEq)
        obtain ⟨L, hL⟩ : ∃ L, L = ls[k]'HK.out := ⟨_, rfl⟩
        have HV := hid (outV_next HK.out)
        rw [← hL] at HP HV
        clear hEq hL
        have HAL : Hid (∀ o, Below wr.heap.size wr (wr.alloc o)) := hid fun o => Below.al (Below.refl _ _) _
        have HOX : Hid (∀ o, (wr.alloc o).ownsRow w.heap.size 9 1 (.slice va k vc) k (outV ls k)) := hid fun o => owns_keep HQ.out.row fun g hg => (HAL.out o).block g (World.ownsRow.lt HQ.out.row g hg).2
        have HNT : Hid (∀ j u, [Value.string (t.extract f (i + 1))][j]? = some u → (wr.alloc (.cells #[.string (t.extract f (i + 1))] 9)).cell? ((⟨wr.heap.size, 0, none⟩ : Addr).add j) = some u) := hid fun j u hj => by
          rw [Addr.add_lit, Nat.zero_add]
          rw [World.cell?_alloc_new]
          simpa using hj
        have HM1 : Hid (k + 1 ≤ maxLen) := by show _ ≤ _; unfold maxLen; omega
        have HM2 : Hid ((k + 1) * 16 ≤ 140737488355328) := by show _ ≤ _; omega
        have HB2 : Hid (w.heap.size ≤ wr.heap.size) := hid HQ.out.bel.size
        go_wp2_with (at_builtin; refine wpList_append_own _ rfl _ _ 22 rfl w.heap.size 9 i0 (.string ⟨#[]⟩) 1 16 Tryz.underlying22 hi0 hz0 hs0 hb0 rfl (by decide) (.slice va k vc) k (outV ls k) rfl (HOX.out _) ⟨wr.heap.size, 0, none⟩ 1 1 [.string (t.extract f (i + 1))] rfl rfl HNT.out (by intro u hu; rw [List.mem_singleton.1 hu]; rfl) HM1.out HM2.out (Nat.le_trans HB2.out (HAL.out _).size) ?_; intro v' w3 hown hgrow hold; obtain ⟨va', vc', e9⟩ := row_sl hown; subst e9; have HOWN := hid hown; have HGR := hid hgrow; clear hown hgrow hold)
        go_roundg (t.size - (i + 1))
        case measure => omega
        case rel =>
          refine ⟨k + 1, i + 1, i + 1, va', vc', by omega, by omega, by omega, by have := HK.out; omega, rfl, by go_num, by go_num, hid ⟨HX.out, ?_, ?_⟩⟩
          · rw [HV.out, ← HP.out]; exact HOWN.out
          · refine (Below.on HQ.out.bel (HAL.out (.cells #[.string (t.extract f (i + 1))] 9))).trans ((grown_onl HGR.out).below (fun g hg => (World.ownsRow.lt HQ.out.row g hg).1) ?_)
            exact Nat.le_trans HB2.out (HAL.out _).size
      · rw [decide_eq_false hEq] at hten
        have HX := hid (HQ.out.inn.step HK.out (by have := HQ.out.inn.wi HK.out; omega))
        clear hEq
        go_wp2_with fail
        go_roundg (t.size - (i + 1))
        case measure => omega
        case rel => exact ⟨k, f, i + 1, va, vc, by omega, by omega, by omega, by omega, rfl, rfl, by go_num, hid ⟨HX.out, HQ.out.row, HQ.out.bel⟩⟩
    · obtain rfl : t.size = i := by omega
      have HK : Hid (k = ls.length ∧ f = t.size) := hid (by
        have h1 := HQ.out.inn
        have h2 := HSZ.out
        rcases Nat.lt_or_ge k ls.length with h3 | h3
        · have := h1.wi h3
          have h4 := flat_next h3
          have h5 := flat_le ls (k + 1)
          have h6 := h1.fr
          omega
        · have h4 : k = ls.length := by have := h1.lk; omega
          have h6 := h1.fr
          rw [h4, List.take_length] at h6
          exact ⟨h4, by omega⟩)
      have hf : f = t.size := HK.out.2
      have hff : ¬ (f : Int) < (t.size : Int) := by omega
      clear hf
      go_wp2_with fail
      go_ret
      refine ⟨va, vc, by rw [HK.out.1]; rfl, rowS_own (n := k) (c := vc) (B := w.heap.size) ?_ (by rw [List.length_map]; exact HK.out.1.symm), HQ.out.bel⟩
      have e : outV ls k = (ls.map endB).map Value.string := by
        unfold outV
        rw [HK.out.1, List.take_length, List.map_map]
        rfl
      rw [← e]
      exact HQ.out.row
end Go.Proofs.YtfkiccdjffhhhaaGreatDoor.Rt
