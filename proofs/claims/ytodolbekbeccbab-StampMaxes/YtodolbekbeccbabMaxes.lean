import Derived.Test.YtodolbekbeccbabMax
import Derived.Test.YtodolbekbeccbabRefMax
import Derived.Test.YtodolbekbeccbabCut
import Derived.Test.YtodolbekbeccbabSpared
namespace Go.Proofs.Ytodolbekbeccbab
open Go.RowKit Go.Sort

/-- what is written over the list -/
def over (i : Nat) : St := ⟨5, IntKind.u32.wrap i, 0⟩

theorem less_zst (s : St) (h : s.ok) : s.less zst = false := by
  obtain ⟨h1, h2, h3⟩ := h
  exact lessB_iff_false.2 (by simp only [zst]; omega)

theorem max_one (m : St) (h : m.ok) : maxSt zst [m] = m := by
  show (if zst.less m then m else zst) = m
  by_cases e : zst.w = m.w ∧ zst.l = m.l ∧ zst.n = m.n
  · have : zst = m := by
      obtain ⟨a, b, c⟩ := m
      obtain ⟨e1, e2, e3⟩ := e
      simp only at e1 e2 e3
      subst e1 e2 e3; rfl
    rw [← this]; simp
  · have hl := less_anti e
    have : lessB m.w m.l m.n zst.w zst.l zst.n = false := less_zst m h
    rw [this] at hl
    have : zst.less m = true := by
      show lessB _ _ _ _ _ _ = true
      cases hh : lessB zst.w zst.l zst.n m.w m.l m.n
      · rw [hh] at hl; exact absurd hl (by decide)
      · rfl
    rw [this]; rfl

theorem max_ok (xs : List St) (m : St) (hm : m.ok) (h : ∀ x ∈ xs, x.ok) : (maxSt m xs).ok := by
  induction xs generalizing m with
  | nil => exact hm
  | cons x xs ih =>
    refine ih _ ?_ (fun y hy => h y (List.mem_cons_of_mem _ hy))
    by_cases e : m.less x = true
    · rw [if_pos e]; exact h x List.mem_cons_self
    · rw [if_neg e]; exact hm

theorem max_is {a : Option Addr} {c n : Nat} {xs : List St} {w : World} {m : St} (h : Row w a xs) (hl : xs.length ≤ 9223372036854775807) (hn : xs.length = n) (hm : maxSt zst xs = m) :
    Calls Try.prog 11 #[.slice a n c] w fun e w' => e = .returned (stv m.w m.l m.n) ∧ Below w.heap.size w w' := by
  subst hn hm; exact max_any a c xs w h hl
theorem refmax_is {a : Option Addr} {c n : Nat} {xs : List St} {w : World} {m : St} (h : Row w a xs) (hl : xs.length ≤ 9223372036854775807) (hn : xs.length = n) (hm : maxSt zst xs = m) :
    Calls Try.prog 12 #[.slice a n c] w fun e w' => e = .returned (stv m.w m.l m.n) ∧ Below w.heap.size w w' := by
  subst hn hm; exact refmax_any a c xs w h hl

set_option maxHeartbeats 4000000 in
theorem maxes_walk (a : Option Addr) (c : Nat) (xs : List St) (w : World) (h : Row w a xs) (hok : ∀ x ∈ xs, x.ok) (hl : xs.length * 16 ≤ 140737488351232) :
    Calls Try.prog 4 #[.slice a xs.length c] w fun e w' => e = .returned (.bool true) ∧ Below w.heap.size w w' := by
  obtain ⟨n, hn⟩ : ∃ n, xs.length = n := ⟨_, rfl⟩
  obtain ⟨M, hM⟩ : ∃ M, 2 * xs.length + 1 = M := ⟨_, rfl⟩
  obtain ⟨m, hm⟩ : ∃ m, maxSt zst xs = m := ⟨_, rfl⟩
  have mok : m.ok := by rw [← hm]; exact max_ok xs zst ⟨by decide, by decide, by decide⟩ hok
  have hone := hid (max_one m mok)
  obtain ⟨f, hf⟩ : ∃ f : Nat → St, f = fun i => if i < xs.length then nth xs i else mark i := ⟨_, rfl⟩
  have hxs : xs = tab n f := by
    rw [← hn, hf]; exact (tab_of_list xs).trans (tab_congr (fun i hi => by rw [if_pos hi]))
  have hmk : Hid (∀ i, n ≤ i → i < M → f i = mark i) := fun i hi _ => by rw [hf]; exact if_neg (by omega)
  have cut1 := hid (fun w h => cut_any a c xs w h (by omega))
  have roomy1 := hid (fun w al cl h => roomy_any al cl xs w h hl)
  rw [← hf, hM, hn] at roomy1
  rw [hn] at cut1 ⊢
  have hbd : n * 16 ≤ 140737488351232 := by omega
  have hMn : n < M := by omega
  have hMb : M ≤ 9223372036854775807 := by omega
  have Hm := hid hm
  have Hn := hid hn
  have Hxs := hid hxs
  have hlx : Hid (xs.length ≤ 9223372036854775807) := by show xs.length ≤ _; omega
  have eqm : ∀ w, (binOp .neq 25 (stv m.w m.l m.n) (stv m.w m.l m.n)).run Try.prog w = .ok (.bool false) w := fun w => by rw [run_ne, sameB_self]; rfl
  have eqz : ∀ w, (binOp .neq 25 (stv 0 0 0) (stv 0 0 0)).run Try.prog w = .ok (.bool false) w := fun w => by rw [run_ne, sameB_self]; rfl
  have H0 := hid h
  clear hn hM hm hf hxs hl h mok hok
  go_enter Try.func4, Try.ntmps4
  go_wp2_with fail
  refine (cut1.out _ H0.out).mono ?_
  rintro e w1 ⟨v, rfl, hown, hb1⟩
  rw [← Hn.out] at hown
  obtain ⟨al, cl, hv, hrow1⟩ := row_of_owns hown
  rw [Hn.out] at hv
  rw [hv]
  have HR := hid hrow1
  have HB := hid hb1
  have hsz1 := hid hb1.size
  clear hown hv cut1 hrow1 hb1
  go_wp2_with fail
  refine (roomy1.out _ al cl HR.out).mono ?_
  rintro e w2 ⟨g, rfl, hg, hown2, hb2⟩
  have HR := hid (HR.out.later hb2)
  have HB := hid (Below.on HB.out hb2)
  have HO := hid hown2
  have hgb : Hid (w.heap.size ≤ g) := Nat.le_trans hsz1.out hg
  clear hown2 hb2 roomy1 hg hsz1
  go_wp2_with fail
  have hrx : Hid (Row w2 (some ⟨g, 0, none⟩) xs) := by
    have := (row_of_owns_at HO.out).cut (Nat.le_of_lt hMn)
    rw [← Hxs.out] at this; exact this
  refine (max_is hrx.out hlx.out Hn.out Hm.out).mono ?_
  rintro e w3 ⟨rfl, hw⟩
  have HR := hid (HR.out.later hw)
  have HO := hid (owns_later HO.out hw)
  have HB := hid (Below.on HB.out hw)
  clear hw hrx
  go_upto_region 4 with fail
  obtain ⟨w4, hw4⟩ : ∃ w4, w4 = w3.alloc (.cells #[.int .u64 m.w, .int .u32 m.l, .int .u32 m.n] 25) := ⟨_, rfl⟩
  have hbw4 : Below w3.heap.size w3 w4 := by rw [hw4]; exact Below.al (Below.refl _ _) _
  have A5 : StampAt w4 w3.heap.size m.w m.l m.n := by
    rw [hw4]; refine ⟨?_, ?_, ?_⟩ <;> (simp [go_sem]; done)
  rw [← hw4]
  have HR := hid (HR.out.later hbw4)
  have HO := hid (owns_later HO.out hbw4)
  have HB := hid (Below.on HB.out hbw4)
  clear hw4 hbw4
  obtain ⟨p5, hp5⟩ : ∃ p5, p5 = w3.heap.size := ⟨_, rfl⟩
  rw [← hp5] at A5 ⊢
  clear hp5
  have HT : Hid (Row w4 al (tab n f)) := by rw [← Hxs.out]; exact HR.out
  have HG := hid (row_of_owns_at HO.out)
  have ⟨a0, a1, a2⟩ := A5
  have ka0 := cell_regrown a0; have ka1 := cell_regrown a1; have ka2 := cell_regrown a2
  refine wp_region_quiet_below (by kernel_rfl) (by kernel_rfl) ?_
  repeat (go_big_quiet_step (first | (go_at_call 12; exact Calls.regrown_of (refmax_is (HR.out.later (below_regrown _ _ _)) hlx.out Hn.out Hm.out)) | (go_at_call 13; exact Calls.regrown_of (spared_any g al cl M n f _ (HG.out.later (below_regrown _ _ _)) (HT.out.later (below_regrown _ _ _)) hMn hMb hmk.out))))
  refine wpQuiet_nil ?_
  intro w5 hw
  replace hw := below_of_regrown hw
  clear ka0 ka1 ka2 a0 a1 a2 HT HG
  replace A5 := A5.later hw
  have HR := hid (HR.out.later hw)
  have HO := hid (owns_later HO.out hw)
  have HB := hid (Below.on HB.out hw)
  have ⟨a0, a1, a2⟩ := A5
  clear hw
  go_wp2_with fail
  have hr1 : Hid (Row (w5.alloc (.cells #[.int .u64 m.w, .int .u32 m.l, .int .u32 m.n] 25)) (some ⟨w5.heap.size, 0, none⟩) [m]) := fun i hi => by
    obtain rfl : i = 0 := by simp at hi; omega
    exact ⟨w5.heap.size, 0, rfl, by simp [go_sem, nth], by simp [go_sem, nth], by simp [go_sem, nth]⟩
  refine (max_is (n := 1) hr1.out (by simp) rfl hone.out).mono ?_
  rintro e w6 ⟨rfl, hw⟩
  have hw' := Below.on (Below.al (Below.refl _ _) _) hw
  replace A5 := A5.later hw'
  have HR := hid (HR.out.later hw')
  have HO := hid (owns_later HO.out hw')
  have HB := hid (Below.on HB.out hw')
  clear hw hw' hr1 a0 a1 a2
  obtain ⟨w7, hw7⟩ : ∃ w7, w7 = w6.alloc (.cells #[.int .u64 m.w, .int .u32 m.l, .int .u32 m.n] 25) := ⟨_, rfl⟩
  have hbw7 : Below w6.heap.size w6 w7 := by rw [hw7]; exact Below.al (Below.refl _ _) _
  have A6 : StampAt w7 w6.heap.size m.w m.l m.n := by
    rw [hw7]; refine ⟨?_, ?_, ?_⟩ <;> (simp [go_sem]; done)
  go_upto_region 7 with fail
  rw [← hw7]
  obtain ⟨p6, hp6⟩ : ∃ p6, p6 = w6.heap.size := ⟨_, rfl⟩
  rw [← hp6] at A6 ⊢
  replace A5 := A5.later hbw7
  have HR := hid (HR.out.later hbw7)
  have HO := hid (owns_later HO.out hbw7)
  have HB := hid (Below.on HB.out hbw7)
  clear hw7 hbw7 hp6
  go_wp2_with fail
  refine (max_is (n := 0) (xs := []) (m := zst) (fun i hi => by simp at hi) (by decide) rfl rfl).mono ?_
  rintro e w8 ⟨rfl, hw⟩
  replace A5 := A5.later hw
  replace A6 := A6.later hw
  have HR := hid (HR.out.later hw)
  have HO := hid (owns_later HO.out hw)
  have HB := hid (Below.on HB.out hw)
  have ⟨a0, a1, a2⟩ := A5
  have ⟨b0, b1, b2⟩ := A6
  have h5 : p5 < w8.heap.size := World.block_lt_of_cell? _ _ a0
  have h6 : p6 < w8.heap.size := World.block_lt_of_cell? _ _ b0
  clear hw
  simp only [zst]
  go_wp2_with fail
  have HO := hid (owns_later HO.out (Below.al (Below.refl _ _) (.cells #[.int .u64 0, .int .u32 0, .int .u32 0] 25)))
  have HB := hid (Below.al HB.out (.cells #[.int .u64 0, .int .u32 0, .int .u32 0] 25))
  clear A5 A6 a0 a1 a2 b0 b1 b2 h5 h6 HR eqm eqz hone H0 Hm Hn Hxs hlx hmk
  go_loopg [8] n (fun g' s8 wr => ∃ k : Nat, k ≤ n ∧ g' = n - k ∧ s8 = .int .i64 k ∧ (∃ bs, wr.ownsRow bs 25 3 (.slice (some ⟨g, 0, none⟩) M M) M (flat (tab M fun i => if i < k then over i else f i))) ∧ Below w.heap.size w wr)
  case atStart => exact ⟨0, by omega, by omega, rfl, ⟨_, by simpa using HO.out⟩, HB.out⟩
  case round =>
    clear HO HB
    obtain ⟨k, hk, rfl, rfl, ⟨bs, hown⟩, hb⟩ := hrel
    by_cases hlt : k < n
    · have hkM : k < M := by omega
      obtain ⟨c0, c1, c2⟩ := (row_of_owns_at hown).of_tab hkM
      have fz : ∀ o, wr.frozen? ⟨g, o, none⟩ = false := fun o => hown.frozenAt o
      have hput := owns_put hown (k := k) (by rw [tab_length]; exact hkM) (over k)
      rw [tab_set (g := fun i => if i < k + 1 then over i else f i) (by simp) (fun i _ hne => step_fn over f hne)] at hput
      have HP := hid hput
      have HB := hid (below_put3 hb hgb.out (k * 3) (over k))
      generalize (if k < k then over k else f k) = y at c0 c1 c2
      clear hput hown
      go_wp2_with fail
      go_roundg (n - (k + 1))
      case measure => omega
      case rel => exact ⟨k + 1, by omega, rfl, by go_num, ⟨_, HP.out⟩, HB.out⟩
    · obtain rfl : k = n := by omega
      have hr := (row_of_owns_at hown).cut (Nat.le_of_lt hMn)
      obtain ⟨ys, hys⟩ : ∃ ys, ys = tab k fun i => if i < k then over i else f i := ⟨_, rfl⟩
      have hyl : Hid (ys.length = k) := by show ys.length = k; rw [hys, tab_length]
      have hyb : Hid (ys.length ≤ 9223372036854775807) := by show ys.length ≤ _; rw [hyl.out]; omega
      rw [← hys] at hr
      have HRR := hid hr
      obtain ⟨m, hm⟩ : ∃ m, maxSt zst ys = m := ⟨_, rfl⟩
      have Hm := hid hm
      have eqm : ∀ w, (binOp .eql 25 (stv m.w m.l m.n) (stv m.w m.l m.n)).run Try.prog w = .ok (.bool true) w := fun w => by rw [run_eq, sameB_self]
      clear hr hys hm hown
      go_wp2_with fail
      refine wp_region_quiet_below (by kernel_rfl) (by kernel_rfl) ?_
      repeat (go_big_quiet_step (first | (go_at_call 11; exact Calls.regrown_of (max_is (HRR.out.later (below_regrown _ _ _)) hyb.out hyl.out Hm.out)) | (go_at_call 12; exact Calls.regrown_of (refmax_is (HRR.out.later (below_regrown _ _ _)) hyb.out hyl.out Hm.out))))
      refine wpQuiet_nil ?_
      intro w9 hw
      replace hw := below_of_regrown hw
      go_wp2_with fail
      go_ret
      exact ⟨rfl, Below.on hb hw⟩

end Go.Proofs.Ytodolbekbeccbab
