import Derived.Test.YtdllhkjdckcgmaaDoorIRefs
import Derived.Test.YtdllhkjdckcgmaaDoorIMirP
namespace Go.Proofs.YtdllhkjdckcgmaaDoor
open Go.RowKit Go.Sort
set_option linter.unusedVariables false

theorem nthE_drop {l : List En} {k : Nat} (h : k < l.length) : l.drop k = nthE l k :: l.drop (k + 1) := by
  rw [nthE, List.getElem?_eq_getElem h]; exact List.drop_eq_getElem_cons h
theorem ceil_cons (x : En) (l : List En) (key : ByteArray) : (rangeX (x :: l) key ⟨#[]⟩).head? = if lt x.1 key = true then (rangeX l key ⟨#[]⟩).head? else some x := by
  have hi : inS key ⟨#[]⟩ x.1 = !lt x.1 key := by simp [inS]
  unfold rangeX
  rw [List.filter_cons, hi]
  cases lt x.1 key <;> simp
theorem floor_snoc (x : En) (l : List En) (key : ByteArray) : (rangeX (l ++ [x]) ⟨#[]⟩ (zb key)).reverse.head? = if lt key x.1 = true then (rangeX l ⟨#[]⟩ (zb key)).reverse.head? else some x := by
  have hi : inS ⟨#[]⟩ (zb key) x.1 = !lt key x.1 := by simp [inS, lt_nil, zb_ne, lt_zb]
  unfold rangeX
  rw [List.filter_append, List.filter_cons, hi]
  cases lt key x.1 <;> simp

set_option maxHeartbeats 2000000 in
theorem reflen_is {w : World} {p : Nat} {v : Value} {log : List Ch} (h : Ri w p v log) :
    Calls Tryd.prog 25 #[.pointer (some ⟨p, 0, none⟩)] w fun e w' => e = .returned (.int .i64 (ixL log).length) ∧ Below w.heap.size w w' := by
  have EN := hid (refent_is h ⟨#[]⟩ ⟨#[]⟩ (range_all _))
  clear h
  go_enter Tryd.func25, Tryd.ntmps25
  go_wp2_with (go_at_call 31; refine EN.out.mono ?_; rintro e w1 ⟨a, c, rfl, hr1, hb1⟩; have hr1 := hid hr1; have hb1 := hid hb1)
  go_ret
  exact ⟨rfl, hb1.out⟩

set_option maxHeartbeats 4000000 in
theorem refceil_is {w : World} {p : Nat} {v : Value} {log : List Ch} (h : Ri w p v log) (key : ByteArray) (hl : (ixL log).length ≤ 9223372036854775806) :
    Calls Tryd.prog 29 #[.pointer (some ⟨p, 0, none⟩), .string key] w fun e w' => e = .returned (firV (rangeX (ixL log) key ⟨#[]⟩).head?) ∧ Below w.heap.size w w' := by
  have EN := hid (refent_is h ⟨#[]⟩ ⟨#[]⟩ (range_all _))
  obtain ⟨E, hE⟩ : ∃ E, E = ixL log := ⟨_, rfl⟩
  rw [← hE] at EN hl ⊢
  clear h hE
  go_enter Tryd.func29, Tryd.ntmps29
  go_wp2_with (go_at_call 31; refine EN.out.mono ?_; rintro e w1 ⟨a, c, rfl, hr1, hb1⟩; have hr1 := hid hr1; have hb1 := hid hb1)
  go_loopg [8] E.length (fun g s8 wr => ∃ k : Nat, k ≤ E.length ∧ g = E.length - k ∧ s8 = .int .i64 k ∧ Hid ((rangeX E key ⟨#[]⟩).head? = (rangeX (E.drop k) key ⟨#[]⟩).head?) ∧ Hid (Below w1.heap.size w1 wr))
  case atStart => exact ⟨0, by omega, by omega, rfl, rfl, Below.refl _ _⟩
  case round =>
    obtain ⟨k, hk, rfl, rfl, HP, HB⟩ := hrel
    by_cases hlt : k < E.length
    · obtain ⟨b, off, rfl, d0, d1⟩ := hr1.out k hlt
      have d0 := cell_later HB.out d0
      have d1 := cell_later HB.out d1
      have HS : Hid ((rangeX E key ⟨#[]⟩).head? = if lt (nthE E k).1 key = true then (rangeX (E.drop (k + 1)) key ⟨#[]⟩).head? else some (nthE E k)) := by show _ = _; rw [HP.out, nthE_drop hlt, ceil_cons]
      obtain ⟨x, hx⟩ : ∃ x, x = nthE E k := ⟨_, rfl⟩
      rw [← hx] at d0 d1 HS
      clear hx HP
      by_cases hc : lt x.1 key = true
      · have q1 : Op.bytesLess x.1.toList key.toList = true := hc
        have HP2 : Hid ((rangeX E key ⟨#[]⟩).head? = (rangeX (E.drop (k + 1)) key ⟨#[]⟩).head?) := by show _ = _; rw [HS.out, if_pos hc]
        clear hc
        go_wp2_with fail
        go_roundg (E.length - (k + 1))
        case measure => omega
        case rel => exact ⟨k + 1, by omega, rfl, by go_num, HP2, HB⟩
      · have q1 : Op.bytesLess x.1.toList key.toList = false := Bool.eq_false_iff.2 hc
        have HP2 : Hid ((rangeX E key ⟨#[]⟩).head? = some x) := by show _ = _; rw [HS.out, if_neg hc]
        clear hc
        go_wp2_with fail
        go_quiet (fail)
        go_wp2_with fail
        rw [HP2.out]
        refine bodyPost_ret (v := firV (some x)) (by simp [results, Tryd.results29, go_sem, firV]) rfl ⟨rfl, ?_⟩
        exact Below.drewN (Below.on hb1.out HB.out) _
    · obtain rfl : k = E.length := by omega
      have HP2 : Hid ((rangeX E key ⟨#[]⟩).head? = none) := by show _ = _; rw [HP.out, List.drop_length]; rfl
      clear hlt HP
      go_wp2_with fail
      rw [HP2.out]
      refine bodyPost_ret (v := firV none) (by simp [results, Tryd.results29, go_sem, firV]) rfl ⟨rfl, Below.on hb1.out HB.out⟩

set_option maxHeartbeats 4000000 in
theorem reffloor_is {w : World} {p : Nat} {v : Value} {log : List Ch} (h : Ri w p v log) (key : ByteArray) (hl : (ixL log).length ≤ 9223372036854775806) :
    Calls Tryd.prog 27 #[.pointer (some ⟨p, 0, none⟩), .string key] w fun e w' => e = .returned (firV (rangeX (ixL log) ⟨#[]⟩ (zb key)).reverse.head?) ∧ Below w.heap.size w w' := by
  have EN := hid (refent_is h ⟨#[]⟩ ⟨#[]⟩ (range_all _))
  obtain ⟨E, hE⟩ : ∃ E, E = ixL log := ⟨_, rfl⟩
  rw [← hE] at EN hl ⊢
  clear h hE
  have hw0 : IntKind.i64.wrap ((E.length : Int) - 1) = (E.length : Int) - 1 := by rw [IntKind.wrap_i64]; omega
  go_enter Tryd.func27, Tryd.ntmps27
  go_wp2_with (go_at_call 31; refine EN.out.mono ?_; rintro e w1 ⟨a, c, rfl, hr1, hb1⟩; have hr1 := hid hr1; have hb1 := hid hb1)
  go_loopg [8] E.length (fun g s8 wr => g ≤ E.length ∧ s8 = .int .i64 ((g : Int) - 1) ∧ Hid ((rangeX E ⟨#[]⟩ (zb key)).reverse.head? = (rangeX (E.take g) ⟨#[]⟩ (zb key)).reverse.head?) ∧ Hid (Below w1.heap.size w1 wr))
  case atStart => exact ⟨Nat.le_refl _, rfl, by show _ = _; rw [List.take_of_length_le (Nat.le_refl _)], Below.refl _ _⟩
  case round =>
    obtain ⟨hj, rfl, HP, HB⟩ := hrel
    cases gk with
    | zero =>
      have HP2 : Hid ((rangeX E ⟨#[]⟩ (zb key)).reverse.head? = none) := by show _ = _; rw [HP.out]; rfl
      clear HP
      go_wp2_with fail
      rw [HP2.out]
      refine bodyPost_ret (v := firV none) (by simp [results, Tryd.results27, go_sem, firV]) rfl ⟨rfl, Below.on hb1.out HB.out⟩
    | succ i =>
      have hi : i < E.length := by omega
      obtain ⟨b, off, rfl, d0, d1⟩ := hr1.out i hi
      have d0 := cell_later HB.out d0
      have d1 := cell_later HB.out d1
      have HS : Hid ((rangeX E ⟨#[]⟩ (zb key)).reverse.head? = if lt key (nthE E i).1 = true then (rangeX (E.take i) ⟨#[]⟩ (zb key)).reverse.head? else some (nthE E i)) := by show _ = _; rw [HP.out, nthE_take hi, floor_snoc]
      obtain ⟨x, hx⟩ : ∃ x, x = nthE E i := ⟨_, rfl⟩
      rw [← hx] at d0 d1 HS
      clear hx HP
      rw [show (((i + 1 : Nat) : Int) - 1) = (i : Int) by omega]
      by_cases hc : lt key x.1 = true
      · have q1 : Op.bytesLess x.1.toList key.toList = false := lt_asymm hc
        have q2 : (x.1.toList == key.toList) = false := toList_beq' (decide_eq_false (fun e => lt_ne hc e.symm))
        have HP2 : Hid ((rangeX E ⟨#[]⟩ (zb key)).reverse.head? = (rangeX (E.take i) ⟨#[]⟩ (zb key)).reverse.head?) := by show _ = _; rw [HS.out, if_pos hc]
        clear hc
        go_wp2_with fail
        go_roundg i
        case measure => omega
        case rel => exact ⟨by omega, by go_num, HP2, HB⟩
      · have h3 : Op.bytesLess x.1.toList key.toList = true ∨ (Op.bytesLess x.1.toList key.toList = false ∧ (x.1.toList == key.toList) = true) := by
          rcases lt_tri x.1 key with e | e | e
          · exact .inr ⟨by rw [e]; exact lt_irrefl key, toList_beq' (decide_eq_true e)⟩
          · exact .inl e
          · exact absurd e hc
        have HP2 : Hid ((rangeX E ⟨#[]⟩ (zb key)).reverse.head? = some x) := by show _ = _; rw [HS.out, if_neg hc]
        clear hc
        rcases h3 with q1 | ⟨q1, q2⟩
        all_goals go_wp2_with fail
        all_goals go_quiet (fail)
        all_goals go_wp2_with fail
        all_goals rw [HP2.out]
        all_goals refine bodyPost_ret (v := firV (some x)) (by simp [results, Tryd.results27, go_sem, firV]) rfl ⟨rfl, ?_⟩
        all_goals exact Below.drewN (Below.on hb1.out HB.out) _

end Go.Proofs.YtdllhkjdckcgmaaDoor
