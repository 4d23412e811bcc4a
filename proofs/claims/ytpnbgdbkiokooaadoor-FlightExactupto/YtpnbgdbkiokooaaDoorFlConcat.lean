import Derived.Test.YtpnbgdbkiokooaaDoorFlDrop
/- slices.Grow, slices.Concat at texts; All and Drain. -/
namespace Go.Proofs.YtpnbgdbkiokooaaDoor.Fl
open Go.RowKit Go.Sort Go.Proofs.YtpnbgdbkiokooaaDoor
set_option linter.unusedVariables false

theorem run_zeros (w : World) (n : Nat) (h0 : 0 < n) (hl : n * 64 ≤ 140737488355328) : ∃ c w', (Builtin.append_ #[22, 3] 22 #[.slice none 0 0, .int .i64 n]).run Tryd.prog w = .ok (.slice (some ⟨w.heap.size, 0, none⟩) n c) w' ∧ n ≤ c ∧ Hid (RowAt w' w.heap.size 0 c []) ∧ Hid (Below w.heap.size w w') := by
  obtain ⟨i0, hi0, hz0, hz1, hz2⟩ := info_ofF infoStr
  have hr := Lib.run_append_nil_zeros (P := Tryd.prog) w 22 3 22 9 i0 _ .i64 .i64 Tryd.underlying22 Tryd.underlying3 hi0 hz0 n h0 (by omega) (by omega) (by rw [hz2]; omega)
  have hge := grownCap_ge w n 0 9
  have hcm := grownCap_le_maxLen w n 0 9 (by unfold maxLen; omega)
  refine ⟨_, _, hr, hge, ⟨⟨_, World.alloc_heap_new w.drew _⟩, Nat.zero_le _, hcm, fun i t e => by simp at e, fun j hj => ?_⟩, Below.al (Below.drew (Below.refl _ _)) _⟩
  have e1 : (w.drew.alloc (.cells (Builtin.zeroCells (Value.string ⟨#[]⟩).cells n ++ Builtin.zeroCells (Value.string ⟨#[]⟩).cells (grownCap w n 0 9 - n)) 9)).cell? ⟨w.heap.size, 0 + j, none⟩ = _ := World.cell?_alloc_new w.drew _ _ (0 + j)
  rw [e1, Nat.zero_add]
  have hsz : (Builtin.zeroCells (Value.string ⟨#[]⟩).cells n ++ Builtin.zeroCells (Value.string ⟨#[]⟩).cells (grownCap w n 0 9 - n)).size = grownCap w n 0 9 := by
    rw [Array.size_append, size_zeroCells, size_zeroCells]
    simp [Value.cells]
    omega
  rw [Array.getElem?_eq_getElem (by rw [hsz]; exact hj)]
  rfl
theorem grow_is (w : World) (n : Nat) (hl : n * 64 ≤ 140737488355328) : Calls Tryd.prog 35 #[.slice none 0 0, .int .i64 (n : Int)] w fun e w' => ∃ a c, e = .returned (.slice a 0 c) ∧ Hid (RowF w' w.heap.size (.slice a 0 c) []) ∧ Hid (Below w.heap.size w w') := by
  have k1 : IntKind.i64.wrap (n : Int) = (n : Int) := by rw [IntKind.wrap_i64]; omega
  by_cases h0 : n = 0
  · subst h0
    go_enter Tryd.func35, Tryd.ntmps35
    go_wp2_with fail
    go_ret
    exact ⟨none, 0, rfl, RowF.nil _ _, Below.refl _ _⟩
  · obtain ⟨c, w1, hr, hc, hrow, hb⟩ := run_zeros w n (by omega) hl
    have hp : 0 < n := by omega
    clear hl h0
    go_enter Tryd.func35, Tryd.ntmps35
    go_wp2_with (at_builtin; refine Lib.wpList_append_run _ rfl _ _ _ _ rfl _ _ rfl rfl _ _ hr ?_)
    go_ret
    exact ⟨_, _, rfl, .inr ⟨w.heap.size, 0, c, rfl, Nat.le_refl _, hrow.out⟩, hb⟩

abbrev Ls := List (Value × List ByteArray)
def cat (l : Ls) : List ByteArray := l.flatMap (·.2)
def nthL (l : Ls) (i : Nat) : Value × List ByteArray := (l[i]?).getD (.slice none 0 0, [])
theorem nthL_get {l : Ls} {i : Nat} (h : i < l.length) : l[i]? = some (nthL l i) := by
  rw [nthL, List.getElem?_eq_getElem h]; rfl
theorem cat_take {l : Ls} {i : Nat} (h : i < l.length) : cat (l.take (i + 1)) = cat (l.take i) ++ (nthL l i).2 := by
  rw [List.take_add_one, nthL_get h, cat, List.flatMap_append]; simp [cat]
theorem cat_le (l : Ls) (i : Nat) : (cat (l.take i)).length ≤ (cat l).length := by
  have : cat l = cat (l.take i) ++ cat (l.drop i) := by
    rw [cat, cat, cat, ← List.flatMap_append, List.take_append_drop]
  rw [this, List.length_append]; omega
/-- lists handed over -/
structure Lst (w : World) (b : Nat) (l : Ls) : Prop where
  cell : ∀ i, i < l.length → w.cell? ⟨b, i, none⟩ = some (nthL l i).1
  rd : ∀ i, i < l.length → Rd w (nthL l i).1 (nthL l i).2
theorem Lst.later {w w' : World} {b : Nat} {l : Ls} (h : Lst w b l) (hb : Below w.heap.size w w') : Lst w' b l := ⟨fun i hi => cell_later hb (h.cell i hi), fun i hi => (h.rd i hi).later hb⟩

set_option maxHeartbeats 4000000 in
theorem concat_is {w : World} {b k : Nat} {l : Ls} (h : Lst w b l) (hk : l.length = k) (hkb : k ≤ 1000) (hl : (cat l).length * 64 ≤ 140737488355328) :
    Calls Tryd.prog 19 #[.slice (some ⟨b, 0, none⟩) k k] w fun e w' => ∃ v, e = .returned v ∧ Hid (RowF w' w.heap.size v (cat l)) ∧ Hid (Below w.heap.size w w') := by
  have HL := hid h
  have HLL := hid hl
  have HK := hid hk
  clear h hl hk
  go_enter Tryd.func19, Tryd.ntmps19
  go_wp2_with fail
  go_loopg [3, 11] k (fun g s3 s11 wr => ∃ (i m : Nat), i ≤ k ∧ g = k - i ∧ s11 = .int .i64 i ∧ s3 = .int .i64 m ∧ Hid (m = (cat (l.take i)).length) ∧ wr = w)
  case atStart => exact ⟨0, 0, by omega, by omega, rfl, rfl, rfl, rfl⟩
  case round =>
    obtain ⟨i, m, hi, rfl, rfl, rfl, hm, rfl⟩ := hrel
    by_cases hlt : i < k
    · have hlt' : i < l.length := by rw [HK.out]; exact hlt
      have c0 := HL.out.cell i hlt'
      obtain ⟨a, c, hv, _⟩ := HL.out.rd i hlt'
      rw [hv] at c0
      have hs : Hid (m + (nthL l i).2.length = (cat (l.take (i + 1))).length) := by show _ = _; rw [cat_take hlt', List.length_append, hm.out]
      have hle : m + (nthL l i).2.length ≤ 2199023255552 := by
        have h1 := hs.out
        have h2 := cat_le l (i + 1)
        have h3 := HLL.out
        omega
      generalize (nthL l i).2.length = q at c0 hs hle
      clear hv
      have k1 : IntKind.i64.wrap ((m : Int) + (q : Int)) = ((m + q : Nat) : Int) := by rw [IntKind.wrap_i64]; omega
      have k2 : (((m + q : Nat) : Int) < 0) = False := eq_false (by omega)
      go_wp2_with fail
      go_roundg (k - (i + 1))
      case measure => omega
      case rel => exact ⟨i + 1, m + q, by omega, rfl, by go_num, by go_num, hs.out, rfl⟩
    · obtain rfl : k = i := by omega
      have hml : m * 64 ≤ 140737488355328 := by
        have h1 := hm.out
        have h2 := cat_le l k
        have h3 := HLL.out
        omega
      clear hlt hi
      go_wp2_with fail
      refine (grow_is wr m hml).mono ?_
      rintro e w1 ⟨a, c, rfl, hr1, hb1⟩
      clear hml
      go_wp2_with fail
      go_loopg [6, 27] k (fun g s6 s27 ws => ∃ (i : Nat), i ≤ k ∧ g = k - i ∧ s27 = .int .i64 i ∧ Hid (RowF ws wr.heap.size s6 (cat (l.take i))) ∧ Hid (Below wr.heap.size wr ws))
      case atStart => exact ⟨0, by omega, by omega, rfl, by rw [List.take_zero]; exact hr1, hb1⟩
      case round =>
        obtain ⟨i, hi, rfl, rfl, hr, hb⟩ := hrel
        clear hr1 hb1
        by_cases hlt : i < k
        · have hlt' : i < l.length := by rw [HK.out]; exact hlt
          have HLs := hid (HL.out.later hb.out)
          have c0 := HLs.out.cell i hlt'
          obtain ⟨i0, hi0, hz0, hz1, hz2⟩ := info_ofF infoStr
          obtain ⟨v', w2, hrun, hrow, hg, hn⟩ := run_append_F hr.out (HLs.out.rd i hlt') 22 hi0 hz0 hz1 hz2 (by
            have h2 := cat_le l (i + 1)
            have h3 := HLL.out
            rw [cat_take hlt', List.length_append] at h2
            omega) hb.out.size
          have hb2 := hid (hb.out.trans ((grown_onl hg).below (fun k e => (hr.out.lt k e).1) hb.out.size))
          rw [← cat_take hlt'] at hrow
          have hrow := hid hrow
          obtain ⟨a6, c6, rfl, _, _⟩ := hr.out.slice
          obtain ⟨a5, c5, hv, _⟩ := HLs.out.rd i hlt'
          rw [hv] at c0 hrun
          have hrun := hid hrun
          clear hn hg hv hi0 hz0 hz1 hz2 HLs hlt'
          go_wp2_with (at_builtin; refine Lib.wpList_append_run _ rfl _ _ _ _ rfl _ _ rfl rfl _ _ hrun.out ?_)
          go_roundg (k - (i + 1))
          case measure => omega
          case rel => exact ⟨i + 1, by omega, rfl, by go_num, hrow.out, hb2.out⟩
        · obtain rfl : k = i := by omega
          clear hlt hi
          have e : l.take k = l := List.take_of_length_le (by have := HK.out; omega)
          rw [e] at hr
          obtain ⟨a6, c6, rfl, _, _⟩ := hr.out.slice
          clear e
          go_wp2_with fail
          go_ret
          exact ⟨_, rfl, hr, hb⟩
end Go.Proofs.YtpnbgdbkiokooaaDoor.Fl
