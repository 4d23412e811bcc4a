import Derived.Test.YtodolbekbeccbabSortsPlain
namespace Go.Proofs.Ytodolbekbeccbab
open Go.RowKit Go.Sort
set_option linter.unusedVariables false

/-- what is written over the list -/
def falls (n i : Nat) : St := ⟨(n : Int) - (i : Int), 0, 0⟩

set_option maxHeartbeats 8000000 in
theorem sorts_walk (a : Option Addr) (c : Nat) (xs : List St) (w : World) (h : Row w a xs) (hl : xs.length * 16 ≤ 140737488351232) :
    Calls Try.prog 5 #[.slice a xs.length c] w fun e w' => e = .returned (.bool true) ∧ Below w.heap.size w w' := by
  obtain ⟨n, hn⟩ : ∃ n, xs.length = n := ⟨_, rfl⟩
  obtain ⟨M, hM⟩ : ∃ M, 2 * xs.length + 1 = M := ⟨_, rfl⟩
  obtain ⟨ys, hys⟩ : ∃ ys, srt xs = ys := ⟨_, rfl⟩
  have hyl : ys.length = n := by rw [← hys, srt_length, hn]
  obtain ⟨f, hf⟩ : ∃ f : Nat → St, f = fun i => if i < xs.length then nth xs i else mark i := ⟨_, rfl⟩
  have hxs : xs = tab n f := by
    rw [← hn, hf]; exact (tab_of_list xs).trans (tab_congr (fun i hi => by rw [if_pos hi]))
  have hmk : Hid (∀ i, n ≤ i → i < M → f i = mark i) := fun i hi _ => by rw [hf]; exact if_neg (by omega)
  have cut1 := hid (fun w h => cut_any a c xs w h (by omega))
  have roomy1 := hid (fun w al cl h => roomy_any al cl xs w h hl)
  rw [← hf, hM, hn] at roomy1
  rw [hn] at cut1 ⊢
  have hbd : n * 16 ≤ 140737488351232 := by omega
  have hMn : n < M := by omega
  have hMb : M ≤ 9223372036854775807 := by omega
  have Hn := hid hn
  have Hxs := hid hxs
  have Hys := hid hys
  have Hyl := hid hyl
  have H0 := hid h
  clear hn hM hf hxs hl h hys hyl
  go_enter Try.func5, Try.ntmps5
  go_wp2_with fail
  refine (cut1.out _ H0.out).mono ?_
  rintro e w1 ⟨v, rfl, hown, hb1⟩
  obtain ⟨al, cl, rfl, hrow1⟩ := row_of_owns_n Hn.out hown
  have HR := hid hrow1
  have HB := hid hb1
  clear hown cut1 hrow1 hb1
  go_wp2_with fail
  refine (refsort_is Hn.out HR.out hbd).mono ?_
  rintro e w2 ⟨v, rfl, hown, hb2⟩
  rw [Hys.out] at hown
  obtain ⟨aw, cw, rfl, hrow2⟩ := row_of_owns_n Hyl.out hown
  replace HR := hid (HR.out.later hb2)
  have HW := hid hrow2
  replace HB := hid (Below.on HB.out hb2)
  clear hown hb2 hrow2
  go_wp2_with fail
  refine (roomy1.out _ al cl HR.out).mono ?_
  rintro e w3 ⟨g, rfl, hg, hown3, hb3⟩
  have HO := hid hown3
  have Hg := hid hg
  have HT := hid hb3
  have H23 : Hid (w2.heap.size ≤ w3.heap.size) := hb3.size
  have Hgl : Hid (g < w3.heap.size) := (hown3.lt g rfl).2
  clear hown3 hb3 roomy1 hg
  go_wp2_with fail
  -- out
  refine (sort_any _ _ n xs _ Hn.out (given_row HO.out hMn Hxs.out) hbd).mono ?_
  rintro e w4 ⟨g0, rfl, hg0, hown, hb⟩
  rw [Hys.out] at hown
  have F0 := hid (owns_full Hyl.out hown).2.2
  have G0 := hid hg0
  replace HO := hid (owns_later HO.out hb)
  replace HT := hid (Below.on HT.out hb)
  clear hown hb hg0
  go_wp2_with fail
  refine (same_is Hyl.out (row_full F0.out) (HW.out.later HT.out) hbd).mono ?_
  rintro e w5 ⟨rfl, hb⟩
  replace F0 := hid (heap_later F0.out hb)
  replace HO := hid (owns_later HO.out hb)
  replace HT := hid (Below.on HT.out hb)
  clear hb
  go_wp2_with fail
  refine (spared_any g al cl M n f _ (row_of_owns_at HO.out) (by rw [← Hxs.out]; exact HR.out.later HT.out) hMn hMb hmk.out).mono ?_
  rintro e w6 ⟨rfl, hb⟩
  replace F0 := hid (heap_later F0.out hb)
  replace HO := hid (owns_later HO.out hb)
  replace HT := hid (Below.on HT.out hb)
  clear hb
  go_wp2_with fail
  -- twin
  refine (sort_any _ _ n xs _ Hn.out (given_row HO.out hMn Hxs.out) hbd).mono ?_
  rintro e w7 ⟨g1, rfl, hg1, hown, hb⟩
  rw [Hys.out] at hown
  have G1 : Hid (g0 < g1) := Nat.lt_of_lt_of_le (heap_lt F0.out) hg1
  replace F0 := hid (heap_later F0.out hb)
  have F1 := hid (owns_full Hyl.out hown).2.2
  replace HO := hid (owns_later HO.out hb)
  replace HT := hid (Below.on HT.out hb)
  clear hown hb hg1
  go_wp2_with fail
  -- other
  obtain ⟨w8, hw8⟩ : ∃ w8, w8 = w7.alloc (.cells #[.int .u64 3, .int .u32 0, .int .u32 0, .int .u64 2, .int .u32 0, .int .u32 0, .int .u64 1, .int .u32 0, .int .u32 0] 25) := ⟨_, rfl⟩
  have hb8 : Below w7.heap.size w7 w8 := by rw [hw8]; exact Below.al (Below.refl _ _) _
  have F8 : w8.heap[w7.heap.size]? = some (.cells (flat [⟨3, 0, 0⟩, ⟨2, 0, 0⟩, ⟨1, 0, 0⟩]).toArray 25 (0, 0)) := by rw [hw8]; exact heap_alloc_new w7 _
  rw [← hw8]
  replace F0 := hid (heap_later F0.out hb8)
  replace F1 := hid (heap_later F1.out hb8)
  replace HO := hid (owns_later HO.out hb8)
  replace HT := hid (Below.on HT.out hb8)
  have F8' := hid F8
  obtain ⟨p7, hp7⟩ : ∃ p7, p7 = w7.heap.size := ⟨_, rfl⟩
  rw [← hp7] at F8' ⊢
  clear hw8 hb8 F8 hp7
  refine (sort_any _ _ 3 [⟨3, 0, 0⟩, ⟨2, 0, 0⟩, ⟨1, 0, 0⟩] _ rfl (row_full F8'.out) (by decide)).mono ?_
  rintro e w9 ⟨g2, rfl, hg2, hown, hb⟩
  rw [srt321] at hown
  have G2 : Hid (g1 < g2) := Nat.lt_of_lt_of_le (heap_lt F1.out) hg2
  replace F0 := hid (heap_later F0.out hb)
  replace F1 := hid (heap_later F1.out hb)
  have F2 := hid (owns_full rfl hown).2.2
  replace HO := hid (owns_later HO.out hb)
  replace HT := hid (Below.on HT.out hb)
  clear hown hb hg2 F8'
  go_wp2_with fail
  refine (same_is Hyl.out (row_full F0.out) (HW.out.later HT.out) hbd).mono ?_
  rintro e w10 ⟨rfl, hb⟩
  replace F0 := hid (heap_later F0.out hb)
  replace F1 := hid (heap_later F1.out hb)
  replace F2 := hid (heap_later F2.out hb)
  replace HO := hid (owns_later HO.out hb)
  replace HT := hid (Below.on HT.out hb)
  clear hb
  go_wp2_with fail
  refine (same_is Hyl.out (row_full F1.out) (HW.out.later HT.out) hbd).mono ?_
  rintro e w11 ⟨rfl, hb⟩
  replace F0 := hid (heap_later F0.out hb)
  replace F1 := hid (heap_later F1.out hb)
  replace F2 := hid (heap_later F2.out hb)
  replace HO := hid (owns_later HO.out hb)
  replace HT := hid (Below.on HT.out hb)
  have c0 : w11.cell? ⟨g2, 0, none⟩ = some (.int .u64 1) := by simp [World.cell?, F2.out, flat, St.cs]
  have c6 : w11.cell? ⟨g2, 6, none⟩ = some (.int .u64 3) := by simp [World.cell?, F2.out, flat, St.cs]
  clear hb
  go_wp2_with fail
  clear c0 c6
  have A0 : Hid (FullAt w11 g0 n) := ⟨ys, Hyl.out, F0.out⟩
  have A1 : Hid (FullAt w11 g1 n) := ⟨ys, Hyl.out, F1.out⟩
  have A2 : Hid (FullAt w11 g2 3) := ⟨_, rfl, F2.out⟩
  have sort0 : Hid (∀ a c W, Calls Try.prog 15 #[.slice a 0 c] W fun e w' => ∃ g, e = .returned (.slice (some ⟨g, 0, none⟩) 0 0) ∧ W.heap.size ≤ g ∧ w'.ownsRow W.heap.size 25 3 (.slice (some ⟨g, 0, none⟩) 0 0) 0 (flat (srt [])) ∧ Below W.heap.size W w') := fun a c W => sort_any a c 0 [] W rfl (fun i hi => by simp at hi) (by decide)
  go_region_held3 (fun w' => True) (exact True.intro)
    (first
      | (go_at_call 15; have hA3 := A3; refine (sort0.out _ _ _).mono ?_; rintro e wb ⟨g4, rfl, hg4, ho4, hbb⟩; have HBb : Hid (Below wa.heap.size wa wb) := (by refine Below.on ?_ hbb; repeat (first | exact Below.refl _ _ | refine Below.drew ?_ | refine Below.al ?_ _)); have HG4 : Hid (g3 < g4) := Nat.lt_of_lt_of_le A3.out.lt hg4; have A4 : Hid (FullAt wb g4 0) := full_of_owns (n := 0) (srt_length []) ho4; clear hg4 ho4 hbb hA3)
      | (go_at_call 15; refine (sort0.out _ _ _).mono ?_; rintro e wa ⟨g3, rfl, hg3, ho3, hba⟩; have HBa : Hid (Below w11.heap.size w11 wa) := (by refine Below.on ?_ hba; repeat (first | exact Below.refl _ _ | refine Below.drew ?_ | refine Below.al ?_ _)); have HG3 : Hid (g2 < g3) := Nat.lt_of_lt_of_le A2.out.lt hg3; have A3 : Hid (FullAt wa g3 0) := full_of_owns (n := 0) (srt_length []) ho3; clear hg3 ho3 hba)
      | (go_at_call 17; refine (apart5 w3.heap.size n _ g0 g1 g2 g3 g4 (A0.out.later (Below.on HBa.out HBb.out)) (A1.out.later (Below.on HBa.out HBb.out)) (A2.out.later (Below.on HBa.out HBb.out)) (A3.out.later HBb.out) A4.out G0.out G1.out G2.out HG3.out HG4.out hbd).mono ?_; rintro e wc ⟨rfl, hbc⟩))
  replace HO := hid (owns_under (owns_later HO.out (Below.on HBa.out HBb.out)) hbc Hgl.out)
  replace HT := hid ((Below.on (Below.on HT.out HBa.out) HBb.out).trans (hbc.mono H23.out))
  clear A0 A1 A2 A3 A4 HBa HBb HG3 HG4 hbc F0 F1 F2 G0 G1 G2 sort0
  go_wp2_with fail
  -- again
  refine (sort_any _ _ n xs _ Hn.out (given_row HO.out hMn Hxs.out) hbd).mono ?_
  rintro e w12 ⟨g5, rfl, hg5, hown, hb⟩
  rw [Hys.out] at hown
  have G5 : Hid (g5 ≠ g) := fun e => by have := (HO.out.lt g rfl).2; omega
  have F5 := hid (owns_full Hyl.out hown).2.2
  replace HO := hid (owns_later HO.out hb)
  replace HT := hid (Below.on HT.out hb)
  clear hown hb hg5
  go_wp2_with fail
  refine (same_is Hn.out (given_row HO.out hMn Hxs.out) (HR.out.later HT.out) hbd).mono ?_
  rintro e w13 ⟨rfl, hb⟩
  replace F5 := hid (heap_later F5.out hb)
  replace HO := hid (owns_later HO.out hb)
  replace HT := hid (Below.on HT.out hb)
  clear hb
  go_wp2_with fail
  refine (same_is Hyl.out (row_full F5.out) (HW.out.later HT.out) hbd).mono ?_
  rintro e w14 ⟨rfl, hb⟩
  replace F5 := hid (heap_later F5.out hb)
  replace HO := hid (owns_later HO.out hb)
  replace HT := hid (Below.on HT.out hb)
  clear hb
  go_wp2_with fail
  refine (spared_any g al cl M n f _ (row_of_owns_at HO.out) (by rw [← Hxs.out]; exact HR.out.later HT.out) hMn hMb hmk.out).mono ?_
  rintro e w15 ⟨rfl, hb⟩
  replace F5 := hid (heap_later F5.out hb)
  replace HO := hid (owns_later HO.out hb)
  replace HT := hid (Below.on HT.out hb)
  clear hb
  go_wp2_with fail
  go_loopg [11] n (fun g' s11 wr => ∃ k : Nat, k ≤ n ∧ g' = n - k ∧ s11 = .int .i64 k ∧ (∃ bs, wr.ownsRow bs 25 3 (.slice (some ⟨g, 0, none⟩) M M) M (flat (tab M fun i => if i < k then falls n i else f i))) ∧ wr.heap[g5]? = some (.cells (flat ys).toArray 25 (0, 0)) ∧ Below w2.heap.size w2 wr)
  case atStart => exact ⟨0, by omega, by omega, rfl, ⟨_, by simpa using HO.out⟩, F5.out, HT.out⟩
  case round =>
    clear HO F5 HT
    obtain ⟨k, hk, rfl, rfl, ⟨bs, hown⟩, hF5, hb⟩ := hrel
    by_cases hlt : k < n
    · have hkM : k < M := by omega
      obtain ⟨c0, c1, c2⟩ := (row_of_owns_at hown).of_tab hkM
      have fz : ∀ o, wr.frozen? ⟨g, o, none⟩ = false := fun o => hown.frozenAt o
      have hput := owns_put hown (k := k) (by rw [tab_length]; exact hkM) (falls n k)
      rw [tab_set (g := fun i => if i < k + 1 then falls n i else f i) (by simp) (fun i _ hne => step_fn (falls n) f hne)] at hput
      have HP := hid hput
      have HB5 : Hid ((put3 wr g k (falls n k)).heap[g5]? = some (.cells (flat ys).toArray 25 (0, 0))) := (put3_heap wr g k g5 _ G5.out).trans hF5
      have HBP := hid (below_put3 hb Hg.out (k * 3) (falls n k))
      generalize (if k < k then falls n k else f k) = y at c0 c1 c2
      clear hput hown hF5 hb
      go_wp2_with fail
      go_roundg (n - (k + 1))
      case measure => omega
      case rel => exact ⟨k + 1, by omega, rfl, by go_num, ⟨_, HP.out⟩, HB5.out, HBP.out⟩
    · obtain rfl : n = k := by omega
      have hr := (row_of_owns_at hown).cut (Nat.le_of_lt hMn)
      obtain ⟨zs, hzs⟩ : ∃ zs, zs = tab n fun i => if i < n then falls n i else f i := ⟨_, rfl⟩
      have hzl : Hid (zs.length = n) := by show zs.length = n; rw [hzs, tab_length]
      rw [← hzs] at hr
      have HZ := hid hr
      have F5 := hid hF5
      have HT := hid hb
      clear hr hzs hown hF5 hb hlt hk hmk
      obtain ⟨us, hus⟩ : ∃ us, srt zs = us := ⟨_, rfl⟩
      have hul : Hid (us.length = n) := by show us.length = n; rw [← hus, srt_length]; exact hzl.out
      have Hus := hid hus
      clear hus
      go_wp2_with fail
      refine (sort_any _ _ n zs _ hzl.out HZ.out hbd).mono ?_
      rintro e w16 ⟨g6, rfl, hg6, hown, hb⟩
      rw [Hus.out] at hown
      have F6 := hid (owns_full hul.out hown).2.2
      replace HZ := hid (HZ.out.later hb)
      replace F5 := hid (heap_later F5.out hb)
      replace HT := hid (Below.on HT.out hb)
      clear hown hb hg6
      go_wp2_with fail
      refine (refsort_is hzl.out HZ.out hbd).mono ?_
      rintro e w17 ⟨v, rfl, hown, hb⟩
      rw [Hus.out] at hown
      obtain ⟨a7, c7, rfl, hrow7⟩ := row_of_owns_n hul.out hown
      have HR7 := hid hrow7
      replace F6 := hid (heap_later F6.out hb)
      replace F5 := hid (heap_later F5.out hb)
      replace HT := hid (Below.on HT.out hb)
      clear hown hb hrow7
      go_wp2_with fail
      refine (same_is hul.out (row_full F6.out) HR7.out hbd).mono ?_
      rintro e w18 ⟨rfl, hb⟩
      replace F5 := hid (heap_later F5.out hb)
      replace HT := hid (Below.on HT.out hb)
      clear hb
      go_wp2_with fail
      refine (same_is Hyl.out (row_full F5.out) (HW.out.later HT.out) hbd).mono ?_
      rintro e w19 ⟨rfl, hb⟩
      replace HT := hid (Below.on HT.out hb)
      clear hb
      go_wp2_with fail
      go_ret
      exact ⟨rfl, Below.on HB.out HT.out⟩

end Go.Proofs.Ytodolbekbeccbab
