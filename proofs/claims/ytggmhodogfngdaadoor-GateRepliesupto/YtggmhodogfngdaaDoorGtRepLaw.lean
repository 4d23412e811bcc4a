import Derived.Test.YtggmhodogfngdaaDoorGtDrs
/- The law on replies: the walk. -/
namespace Go.Proofs.YtggmhodogfngdaaDoor.Gt
open Go.Proofs.YtggmhodogfngdaaDoor Go.Proofs.YtggmhodogfngdaaDoor.Rt Go.RowKit Go.Sort
set_option linter.unusedVariables false

theorem infoAn : (Tryd.prog.info? 34).map (·.size) = some 18 := by kernel_rfl
theorem rep_len {a : An} (hk : a.Ok) : (repL a).length ≤ 10995116277760 := by
  have h1 := name_le hk.st0 hk.st1
  have h2 := decN_le (u := a.tc) (by have := hk.tc; omega)
  have h3 := decN_le (u := a.ts) (by have := hk.ts; omega)
  have h4 := stampL_len hk.aw hk.al hk.an
  have h5 := (wordL_len a.tok).2
  have h6 := hk.tl
  have h7 := pairs_len a.pr
  have h8 := hk.pr.2
  have h9 := decN_le (u := a.pr.length) (by have := hk.prn; omega)
  unfold repL
  split
  · simp [errHd]; omega
  split
  · simp [begL, begHd]; omega
  split
  · generalize hp : a.pr = pr at *
    cases pr with
    | nil => simp [valL, noneL]
    | cons x xs =>
      have := szP_mem (xs := x :: xs) (x := x) (by simp)
      have := (wordL_len x.2).2
      simp [valL, valHd]; omega
  split
  · simp [prL, prHd]; omega
  split
  · simp [comL, comHd]; omega
  · simp [okL]
theorem ne_empty {l : List Nat} (h : l ≠ []) : (ofNats l).toList.isEmpty = false := by
  cases l with
  | nil => exact absurd rfl h
  | cons a l => simp [ofNats, ByteArray.toList_eq]

set_option maxHeartbeats 4000000 in
set_option maxRecDepth 100000 in
theorem law_replies {a : An} (hk : a.Ok) (w : World) (ht : PowTab w) (hn : NmTab w) (hs : 0 < w.heap.size) (hr : PrRow w a.pa a.pr) :
    Calls Tryd.prog 3 #[.agg a.cells] w fun e w' => e = .returned (.bool true) ∧ Below w.heap.size w w' := by
  obtain ⟨hv, hne⟩ := rep_vis hk
  have h8 : B8 (repL a) := b8_vis hv
  have hlen := rep_len hk
  have hsz : (ofNats (repL a)).size = (repL a).length := ofNats_size _
  have hem := ne_empty hne
  obtain ⟨wb, hwb⟩ : ∃ wb, wb = w.alloc (.cells a.cells 34) := ⟨_, rfl⟩
  have hB : Below w.heap.size w wb := by rw [hwb]; (repeat (first | with_reducible exact Below.refl _ _ | with_reducible assumption | with_reducible refine Below.drew ?_ | with_reducible refine Below.al ?_ _ | with_reducible refine Below.setCell ?_ (by first | exact Nat.le_refl _ | (simp; omega) | (simp; done)) _ | with_reducible refine Below.on ?_ (by assumption)))
  have hX : wb.heap[w.heap.size]? = some (.cells a.cells 34 (0, 0)) := by rw [hwb]; exact heap_alloc_new w _
  have CP := hid (prep_is hk wb (ht.later hB) (hn.later hs hB) (by have := hB.size; omega) (hr.later hB))
  have CD := hid (fun W (hW : Below wb.heap.size wb W) => drep_is hk W ((ht.later hB).later hW) ((hr.later hB).later hW))
  have LD : Hid (∀ W, Below wb.heap.size wb W → ∀ j v, a.cells.toList[j]? = some v → W.cell? ((⟨w.heap.size, 0, none⟩ : Addr).add j) = some v) := hid (fun W hW j v hj => by
    rw [Addr.add_lit, Nat.zero_add]
    refine cell_on hW ?_
    rw [Lib.cell_of_heap hX]
    rw [← Array.getElem?_toList]; exact hj)
  have HB := hid hB
  have HV := hid hv
  have H8 := hid h8
  have hcl : a.cells.toList.length = 18 := rfl
  clear hv h8 hk hr ht hn hne hX hB hs
  generalize repL a = L at *
  generalize a.cells = C at *
  have HI : Hid ((Tryd.prog.info? 34).map (·.size) = some C.toList.length) := hid (by rw [hcl]; exact infoAn)
  clear hcl
  go_enter Tryd.func3, Tryd.ntmps3
  go_upto_region 1 with fail
  rw [← hwb]
  clear hwb
  go_wp2_with (first | (refine wpList_load_at (by rfl) 34 _ (by rfl) ⟨w.heap.size, 0, none⟩ (by rfl) C.toList _ (LD.out _ (by (repeat (first | with_reducible exact Below.refl _ _ | with_reducible assumption | with_reducible refine Below.drew ?_ | with_reducible refine Below.al ?_ _ | with_reducible refine Below.setCell ?_ (by first | exact Nat.le_refl _ | (simp; omega) | (simp; done)) _ | with_reducible refine Below.on ?_ (by assumption))))) Tryd.underlying34 (by rfl) HI.out ?_) | fail)
  refine CP.out.mono ?_
  rintro e w1 ⟨rfl, hb1⟩
  have HB1 := hid hb1
  clear hb1 CP
  go_wp2_with (first | (refine wpList_load_at (by rfl) 34 _ (by rfl) ⟨w.heap.size, 0, none⟩ (by rfl) C.toList _ (LD.out _ HB1.out) Tryd.underlying34 (by rfl) HI.out ?_) | fail)
  refine (CD.out _ HB1.out).mono ?_
  rintro e w2 ⟨rfl, hb2⟩
  have HB2 := hid (Below.on HB1.out hb2)
  clear hb2 HB1 CD
  go_wp2_with fail
  go_loopg [4] L.length (fun g s4 wr => ∃ k : Nat, k ≤ L.length ∧ g = L.length - k ∧ s4 = .int .i64 k ∧ Hid (Below wb.heap.size wb wr))
  case atStart => exact ⟨0, by omega, by omega, rfl, HB2⟩
  case round =>
    obtain ⟨k, hk, rfl, rfl, HK⟩ := hrel
    clear HB2
    by_cases hlt : k < L.length
    · have hc : L[k]? = some L[k] := List.getElem?_eq_getElem hlt
      obtain ⟨ch, hc'⟩ : ∃ ch, ch = L[k] := ⟨_, rfl⟩
      rw [← hc'] at hc
      have hch := HV.out ch (by rw [hc']; exact List.getElem_mem hlt)
      have hix : ∀ w, (Instr.index 9 (.string (ofNats L)) (.int .i64 (k : Int))).run Tryd.prog w = .ok (.int .u8 (ch : Int)) w := fun w => index_ofNats H8.out hc w
      have d1 : decide ((ch : Int) < 32) = false := by simp; omega
      have d2 : decide ((126 : Int) < (ch : Int)) = false := by simp; omega
      clear hc hc'
      go_wp2_with fail
      go_roundg (L.length - (k + 1))
      case measure => omega
      case rel => exact ⟨k + 1, by omega, rfl, by go_num, HK⟩
    · obtain rfl : k = L.length := by omega
      go_wp2_with fail
      go_ret
      exact ⟨rfl, Below.on HB.out HK.out⟩
end Go.Proofs.YtggmhodogfngdaaDoor.Gt
