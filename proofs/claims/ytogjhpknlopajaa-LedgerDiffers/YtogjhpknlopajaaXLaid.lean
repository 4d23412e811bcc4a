import Derived.Test.YtogjhpknlopajaaXRefD
/- The document's before and laid. -/
namespace Go.Proofs.Ytogjhpknlopajaa.Lg
open Go.RowKit Go.Sort Go.Shelf Go.Lib Lk
set_option linter.unusedVariables false

def befB (s : Bool) (a b : En) : Bool := if s then ltE a b else ltI a.id b.id
theorem before_is {s : Bool} {a b : En} {u : Bool} (hu : befB s a b = u) (w : World) : Calls Try.prog 97 #[.agg #[.int .u32 a.id.1, .int .u32 a.id.2, .int .u32 a.home, .int .i64 a.oc, .int .u64 a.w, .int .u32 a.l, .int .u32 a.n], .agg #[.int .u32 b.id.1, .int .u32 b.id.2, .int .u32 b.home, .int .i64 b.oc, .int .u64 b.w, .int .u32 b.l, .int .u32 b.n], .bool s] w fun r w' => r = .returned (.bool u) ∧ Below w.heap.size w w' := by
  obtain ⟨w0, hw0⟩ : ∃ w0, w0 = (w.alloc (.cells #[.int .u32 a.id.1, .int .u32 a.id.2, .int .u32 a.home, .int .i64 a.oc, .int .u64 a.w, .int .u32 a.l, .int .u32 a.n] 33)).alloc (.cells #[.int .u32 b.id.1, .int .u32 b.id.2, .int .u32 b.home, .int .i64 b.oc, .int .u64 b.w, .int .u32 b.l, .int .u32 b.n] 33) := ⟨_, rfl⟩
  have hb0 : Below w.heap.size w w0 := by rw [hw0]; exact Below.al (Below.al (Below.refl _ _) _) _
  have HB0 := hid hb0
  obtain ⟨z, hz⟩ : ∃ z, sameB a.w a.l a.n b.w b.l b.n = z := ⟨_, rfl⟩
  have qq : ∀ W, (binOp .neq 31 (.agg #[.int .u64 a.w, .int .u32 a.l, .int .u32 a.n]) (.agg #[.int .u64 b.w, .int .u32 b.l, .int .u32 b.n])).run Try.prog W = .ok (.bool (!z)) W := fun W => by rw [← hz]; exact run_neS _ _ _ _ _ _ W
  clear hb0
  by_cases hc : s = true ∧ z = false
  · obtain ⟨rfl, rfl⟩ := hc
    have e : lessB a.w a.l a.n b.w b.l b.n = u := by rw [← hu]; simp [befB, ltE, hz]
    have BL := hid (fun W => refbelow_is e W)
    clear hu hz e
    go_enter Try.func97, Try.ntmps97
    go_wp2_with (go_at_call 41; refine (BL.out _).mono ?_; rintro r w1 ⟨rfl, hb1⟩; rw [← hw0] at hb1)
    go_ret
    exact ⟨rfl, Below.on HB0.out hb1⟩
  · have e : ltI a.id b.id = u := by
      rw [← hu]
      cases s with
      | false => rfl
      | true =>
        have hz1 : z = true := by cases z with
          | true => rfl
          | false => exact absurd ⟨rfl, rfl⟩ hc
        rw [hz1] at hz
        obtain ⟨e1, e2, e3⟩ := sameB_iff.1 hz
        simp only [befB, ltE, hz, if_true, Bool.true_and]
        rw [e1, e2, e3, less_irr]; rfl
    have EA := hid (fun W => earlier_is e W)
    clear hu hz e
    cases s with
    | false =>
      clear hc
      go_enter Try.func97, Try.ntmps97
      go_wp2_with (go_at_call 40; refine (EA.out _).mono ?_; rintro r w1 ⟨rfl, hb1⟩; rw [← hw0] at hb1)
      go_ret
      exact ⟨rfl, Below.on HB0.out hb1⟩
    | true =>
      cases z with
      | false => exact absurd ⟨rfl, rfl⟩ hc
      | true =>
        clear hc
        go_enter Try.func97, Try.ntmps97
        go_wp2_with (go_at_call 40; refine (EA.out _).mono ?_; rintro r w1 ⟨rfl, hb1⟩; rw [← hw0] at hb1)
        go_ret
        exact ⟨rfl, Below.on HB0.out hb1⟩
/-- a list with one more entry in its place -/
def insL (lt : En → En → Bool) : List En → En → List En
  | [], e => [e]
  | x :: l, e => if lt e x then e :: x :: l else x :: insL lt l e
theorem insL_perm (lt : En → En → Bool) : ∀ (l : List En) (e : En), (insL lt l e).Perm (e :: l)
  | [], e => List.Perm.refl _
  | x :: l, e => by
    rw [insL]
    split
    · exact List.Perm.refl _
    · exact ((insL_perm lt l e).cons x).trans (List.Perm.swap e x l)
theorem insL_length (lt : En → En → Bool) (l : List En) (e : En) : (insL lt l e).length = l.length + 1 := by
  rw [(insL_perm lt l e).length_eq]; rfl
theorem insL_sorted {lt : En → En → Bool} (irr : ∀ x, lt x x = false) (tr : ∀ x y z, lt x y = true → lt y z = true → lt x z = true) : ∀ {l : List En} (e : En), l.Pairwise (fun x y => lt y x = false) → (insL lt l e).Pairwise (fun x y => lt y x = false)
  | [], e, _ => by simp [insL]
  | x :: l, e, h => by
    rw [List.pairwise_cons] at h
    have asy : ∀ a b, lt a b = true → lt b a = false := fun a b hab => by
      cases hba : lt b a with
      | false => rfl
      | true => have := tr a b a hab hba; rw [irr] at this; cases this
    rw [insL]
    split
    · rename_i hex
      rw [List.pairwise_cons, List.pairwise_cons]
      refine ⟨fun y hy => ?_, h⟩
      rcases List.mem_cons.1 hy with rfl | hy
      · exact asy _ _ hex
      · cases hye : lt y e with
        | false => rfl
        | true => have := tr y e x hye hex; rw [h.1 y hy] at this; cases this
    · rename_i hex
      rw [List.pairwise_cons]
      refine ⟨fun y hy => ?_, insL_sorted irr tr e h.2⟩
      rcases List.mem_cons.1 ((insL_perm lt l e).mem_iff.1 hy) with rfl | hy
      · simpa using hex
      · exact h.1 y hy
theorem drop_nth {l : List En} {k : Nat} (h : k < l.length) : l.drop k = nthE l k :: l.drop (k + 1) := by
  rw [List.drop_eq_getElem_cons h]; simp [nthE, h]
/-- while an entry is laid in its place -/
def Laying (lt : En → En → Bool) (l : List En) (e : En) (k : Nat) (dn : Bool) (O : List En) : Prop :=
  (dn = true → O ++ l.drop k = insL lt l e) ∧ (dn = false → O = l.take k ∧ insL lt l e = l.take k ++ insL lt (l.drop k) e)
theorem laying_start (lt : En → En → Bool) (l : List En) (e : En) : Laying lt l e 0 false [] := ⟨by simp, fun _ => by simp⟩
theorem laying_in {lt : En → En → Bool} {l : List En} {e : En} {k : Nat} {O : List En} (h : Laying lt l e k false O) (hk : k < l.length) (hlt : lt e (nthE l k) = true) : Laying lt l e (k + 1) true (O ++ [e] ++ [nthE l k]) := by
  obtain ⟨h1, h2⟩ := h.2 rfl
  refine ⟨fun _ => ?_, by simp⟩
  rw [h2, drop_nth hk, insL, if_pos hlt, h1]; simp
theorem laying_on {lt : En → En → Bool} {l : List En} {e : En} {k : Nat} {dn : Bool} {O : List En} (h : Laying lt l e k dn O) (hk : k < l.length) (hno : dn = true ∨ lt e (nthE l k) = false) : Laying lt l e (k + 1) dn (O ++ [nthE l k]) := by
  cases dn with
  | true => exact ⟨fun _ => by rw [← h.1 rfl, drop_nth hk]; simp, by simp⟩
  | false =>
    have hlt : lt e (nthE l k) = false := by rcases hno with h | h; · cases h
                                             · exact h
    obtain ⟨h1, h2⟩ := h.2 rfl
    refine ⟨by simp, fun _ => ⟨by rw [h1, nthE_take hk], ?_⟩⟩
    rw [h2, drop_nth hk, insL, if_neg (by simp [hlt]), nthE_take hk]; simp
theorem laying_end {lt : En → En → Bool} {l : List En} {e : En} {dn : Bool} {O : List En} (h : Laying lt l e l.length dn O) : (if dn then O else O ++ [e]) = insL lt l e := by
  cases dn with
  | true => have := h.1 rfl; simpa using this
  | false =>
    obtain ⟨h1, h2⟩ := h.2 rfl
    rw [h2, h1]; simp [insL]
set_option maxHeartbeats 8000000 in
theorem laid_is {w : World} {a : Option Addr} {n c : Nat} {l : List En} {e : En} {s : Bool} (hrow : RowC En.zero ecs 7 w a l) (hn : l.length = n) (hl : n + 1 ≤ 3518437208883) :
    Calls Try.prog 87 #[.slice a n c, .agg #[.int .u32 e.id.1, .int .u32 e.id.2, .int .u32 e.home, .int .i64 e.oc, .int .u64 e.w, .int .u32 e.l, .int .u32 e.n], .bool s] w fun r w' => ∃ (a' : Option Addr) (c' : Nat), r = .returned (.slice a' (n + 1) c') ∧ Hid (OwnL w.heap.size w' (.slice a' (n + 1) c') (n + 1) (insL (befB s) l e)) ∧ Hid (Below w.heap.size w w') := by
  obtain ⟨wx, hwx⟩ : ∃ wx, wx = w.alloc (.cells #[.int .u32 e.id.1, .int .u32 e.id.2, .int .u32 e.home, .int .i64 e.oc, .int .u64 e.w, .int .u32 e.l, .int .u32 e.n] 33) := ⟨_, rfl⟩
  have HBX : Hid (Below w.heap.size w wx) := by rw [hwx]; exact Below.al (Below.refl _ _) _
  have hkx : wx.heap[w.heap.size]? = some (.cells #[.int .u32 e.id.1, .int .u32 e.id.2, .int .u32 e.home, .int .i64 e.oc, .int .u64 e.w, .int .u32 e.l, .int .u32 e.n] 33) := by rw [hwx]; exact (MapKept.heap_alloc _ _).1
  have hsx : w.heap.size < wx.heap.size := by rw [hwx]; simp
  have HKB : Hid (BoxE wx w.heap.size e) := by rw [hwx]; exact box_new _ _
  have HR := hid (RowC.later hrow HBX.out)
  have HLN := hid hn
  obtain ⟨i0, hi, hz0, hz1, hz2⟩ := info_of infoEn
  clear hrow hn hkx
  go_enter Try.func87, Try.ntmps87
  go_wp2_with fail
  rw [← hwx]
  clear hwx
  go_loopg [7, 8, 9] n (fun g s7 s8 s9 wr => ∃ (k : Nat) (dn : Bool) (O : List En) (a' : Option Addr) (n' c' : Nat), k ≤ n ∧ g = n - k ∧ s9 = .int .i64 k ∧ s8 = .bool dn ∧ s7 = .slice a' n' c' ∧ n' = (if dn then k + 1 else k) ∧ Hid (OwnL wx.heap.size wr (.slice a' n' c') n' O) ∧ Hid (Laying (befB s) l e k dn O) ∧ Hid (Below wx.heap.size wx wr))
  case atStart => exact ⟨0, false, [], none, 0, 0, by omega, by omega, rfl, rfl, rfl, rfl, ⟨rfl, .inl ⟨rfl, rfl⟩⟩, laying_start _ _ _, Below.refl _ _⟩
  case round =>
    obtain ⟨k, dn, O, a', n', c', hk, rfl, rfl, rfl, rfl, hn', HO, HY, HB⟩ := hrel
    have hnb : n' ≤ k + 1 := by rw [hn']; split <;> omega
    have HN' := hid hn'
    have bE := HKB.out.later HB.out
    clear hn'
    by_cases hlt : k < n
    · obtain ⟨b, off, eb, hc⟩ := RowC.later HR.out HB.out k (by rw [HLN.out]; exact hlt)
      have hk1 : (k : Int) < (n : Int) := by omega
      obtain ⟨x, hxe⟩ : ∃ x, x = nthE l k := ⟨_, rfl⟩
      have hxe' : (l[k]?).getD En.zero = x := hxe.symm
      rw [hxe'] at hc
      subst eb
      obtain ⟨u, hu⟩ : ∃ u, befB s e x = u := ⟨_, rfl⟩
      have BF := hid (fun W => before_is hu W)
      have HX := hid hxe
      have HU := hid hu
      have HRX : Hid (∀ W, Below wr.heap.size wr W → W.cell? ⟨b, off + k * 7, none⟩ = some (.int .u32 x.id.1) ∧ W.cell? ⟨b, off + k * 7 + 1, none⟩ = some (.int .u32 x.id.2) ∧ W.cell? ⟨b, off + k * 7 + 2, none⟩ = some (.int .u32 x.home) ∧ W.cell? ⟨b, off + k * 7 + 3, none⟩ = some (.int .i64 x.oc) ∧ W.cell? ⟨b, off + k * 7 + 4, none⟩ = some (.int .u64 x.w) ∧ W.cell? ⟨b, off + k * 7 + 5, none⟩ = some (.int .u32 x.l) ∧ W.cell? ⟨b, off + k * 7 + 6, none⟩ = some (.int .u32 x.n)) := fun W hb => ⟨cell_later hb (hc 0 _ rfl), cell_later hb (hc 1 _ rfl), cell_later hb (hc 2 _ rfl), cell_later hb (hc 3 _ rfl), cell_later hb (hc 4 _ rfl), cell_later hb (hc 5 _ rfl), cell_later hb (hc 6 _ rfl)⟩
      have g0 : wr.cell? ⟨b, off + k * 7, none⟩ = some (.int .u32 x.id.1) := hc 0 _ rfl
      have g1 : wr.cell? ⟨b, off + k * 7 + 1, none⟩ = some (.int .u32 x.id.2) := hc 1 _ rfl
      have g2 : wr.cell? ⟨b, off + k * 7 + 2, none⟩ = some (.int .u32 x.home) := hc 2 _ rfl
      have g3 : wr.cell? ⟨b, off + k * 7 + 3, none⟩ = some (.int .i64 x.oc) := hc 3 _ rfl
      have g4 : wr.cell? ⟨b, off + k * 7 + 4, none⟩ = some (.int .u64 x.w) := hc 4 _ rfl
      have g5 : wr.cell? ⟨b, off + k * 7 + 5, none⟩ = some (.int .u32 x.l) := hc 5 _ rfl
      have g6 : wr.cell? ⟨b, off + k * 7 + 6, none⟩ = some (.int .u32 x.n) := hc 6 _ rfl
      have s0 := cell_regrown g0
      have s1 := cell_regrown g1
      have s2 := cell_regrown g2
      have s3 := cell_regrown g3
      have s4 := cell_regrown g4
      have s5 := cell_regrown g5
      have s6 := cell_regrown g6
      obtain ⟨p0, p1, p2, p3, p4, p5, p6⟩ := bE
      have t0 := cell_regrown p0
      have t1 := cell_regrown p1
      have t2 := cell_regrown p2
      have t3 := cell_regrown p3
      have t4 := cell_regrown p4
      have t5 := cell_regrown p5
      have t6 := cell_regrown p6
      clear hc hxe hxe' hu g0 g1 g2 g3 g4 g5 g6 p0 p1 p2 p3 p4 p5 p6
      go_wp2_with fail
      refine wp_region_quiet_below (by kernel_rfl) (by kernel_rfl) ?_
      repeat (go_big_quiet_step (((go_at_call 97; exact Calls.regrown_of (BF.out _)))))
      refine wpQuiet_nil ?_
      intro wn hwn
      replace hwn := below_of_regrown hwn
      have HOn : Hid (OwnL wx.heap.size wn (.slice a' n' c') n' O) := owns_keep HO.out fun g hg => hwn.block g (HO.out.lt g hg).2
      have HBn : Hid (Below wx.heap.size wx wn) := Below.on HB.out hwn
      have HGn := hid (HRX.out wn hwn)
      clear s0 t0 s1 t1 s2 t2 s3 t3 s4 t4 s5 t5 s6 t6 HO HB HRX
      by_cases hin : u = true ∧ dn = false
      · obtain ⟨rfl, rfl⟩ := hin
        have hn2 : n' = k := HN'.out
        have HF := hid (laying_in HY.out (by rw [HLN.out]; exact hlt) (by rw [← HX.out]; exact HU.out))
        obtain ⟨p0, p1, p2, p3, p4, p5, p6⟩ := HKB.out.later HBn.out
        clear hn2
        obtain ⟨w5, hw5⟩ : ∃ w5, w5 = (wn).alloc (.cells #[.int .u32 e.id.1, .int .u32 e.id.2, .int .u32 e.home, .int .i64 e.oc, .int .u64 e.w, .int .u32 e.l, .int .u32 e.n] 33) := ⟨_, rfl⟩
        have hbw5 : Below (wn).heap.size (wn) w5 := by rw [hw5]; exact Below.al (Below.refl _ _) _
        have HOw5 : Hid (OwnL wx.heap.size w5 (.slice a' (n') c') (n') (O)) := owns_keep HOn.out fun g hg => hbw5.block g (HOn.out.lt g hg).2
        have HCw5 : Hid (∀ j y, (ecs e)[j]? = some y → w5.cell? ((⟨(wn).heap.size, 0, none⟩ : Addr).add j) = some y) := by rw [hw5]; exact lit7 _ e
        have hsw5 : wx.heap.size ≤ w5.heap.size := Nat.le_trans HBn.out.size hbw5.size
        have HBw5 : Hid (Below wx.heap.size wx w5) := Below.on HBn.out hbw5
        clear hbw5
        go_wp2_with (at_builtin; refine wpList_append_own _ rfl _ _ 22 rfl wx.heap.size 33 i0 (En.val En.zero) 7 40 Try.underlying22 hi hz0 hz1 hz2 rfl (by decide) (.slice a' (n') c') (n') ((O).flatMap ecs) rfl (by rw [← hw5]; exact HOw5.out) ⟨(wn).heap.size, 0, none⟩ 1 1 (ecs e) rfl rfl (by rw [← hw5]; exact HCw5.out) (ecs_one e) (by unfold maxLen; omega) (by omega) (by rw [← hw5]; exact hsw5) ?_)
        intro v2 w6 hown hgrow hnil
        rw [← hw5] at hgrow
        obtain ⟨a6, c6, rfl⟩ := owns_slice hown
        have HBw6 : Hid (Below wx.heap.size wx w6) := Below.grown HBw5.out hgrow (by exact hsw5) (fun k hk => (HOw5.out.lt k hk).1)
        have HWw6 : Hid (OwnL wx.heap.size w6 (.slice a6 (n' + 1) c6) (n' + 1) (O ++ [e])) := by
          refine hid ?_
          unfold OwnL
          rw [List.flatMap_append]
          simpa using hown
        clear hown hgrow hnil hw5 HOw5 HCw5 hsw5
        obtain ⟨n6, hn6⟩ : ∃ n6, n6 = n' + 1 := ⟨_, rfl⟩
        rw [← hn6] at HWw6 ⊢
        have hnb6 : n6 ≤ k + 1 := by have := HN'.out; simp at this; omega
        have HN6 := hid hn6
        clear hn6
        have hr6 := RowC.later HR.out HBw6.out k (by rw [HLN.out]; exact hlt)
        have HG6 : Hid (w6.cell? ⟨b, off + k * 7, none⟩ = some (.int .u32 x.id.1) ∧ w6.cell? ⟨b, off + k * 7 + 1, none⟩ = some (.int .u32 x.id.2) ∧ w6.cell? ⟨b, off + k * 7 + 2, none⟩ = some (.int .u32 x.home) ∧ w6.cell? ⟨b, off + k * 7 + 3, none⟩ = some (.int .i64 x.oc) ∧ w6.cell? ⟨b, off + k * 7 + 4, none⟩ = some (.int .u64 x.w) ∧ w6.cell? ⟨b, off + k * 7 + 5, none⟩ = some (.int .u32 x.l) ∧ w6.cell? ⟨b, off + k * 7 + 6, none⟩ = some (.int .u32 x.n)) := by
          obtain ⟨b6, off6, e6, hc6⟩ := hr6
          injection e6 with e6
          injection e6 with e1 e2 _
          subst e1 e2
          rw [show (l[k]?).getD En.zero = x from HX.out.symm] at hc6
          exact ⟨hc6 0 _ rfl, hc6 1 _ rfl, hc6 2 _ rfl, hc6 3 _ rfl, hc6 4 _ rfl, hc6 5 _ rfl, hc6 6 _ rfl⟩
        obtain ⟨g0, g1, g2, g3, g4, g5, g6⟩ := HG6.out
        clear hr6 p0 p1 p2 p3 p4 p5 p6
        obtain ⟨w7, hw7⟩ : ∃ w7, w7 = (w6).alloc (.cells #[.int .u32 x.id.1, .int .u32 x.id.2, .int .u32 x.home, .int .i64 x.oc, .int .u64 x.w, .int .u32 x.l, .int .u32 x.n] 33) := ⟨_, rfl⟩
        have hbw7 : Below (w6).heap.size (w6) w7 := by rw [hw7]; exact Below.al (Below.refl _ _) _
        have HOw7 : Hid (OwnL wx.heap.size w7 (.slice a6 (n6) c6) (n6) (O ++ [e])) := owns_keep HWw6.out fun g hg => hbw7.block g (HWw6.out.lt g hg).2
        have HCw7 : Hid (∀ j y, (ecs x)[j]? = some y → w7.cell? ((⟨(w6).heap.size, 0, none⟩ : Addr).add j) = some y) := by rw [hw7]; exact lit7 _ x
        have hsw7 : wx.heap.size ≤ w7.heap.size := Nat.le_trans HBw6.out.size hbw7.size
        have HBw7 : Hid (Below wx.heap.size wx w7) := Below.on HBw6.out hbw7
        clear hbw7
        go_wp2_with (at_builtin; refine wpList_append_own _ rfl _ _ 22 rfl wx.heap.size 33 i0 (En.val En.zero) 7 40 Try.underlying22 hi hz0 hz1 hz2 rfl (by decide) (.slice a6 (n6) c6) (n6) ((O ++ [e]).flatMap ecs) rfl (by rw [← hw7]; exact HOw7.out) ⟨(w6).heap.size, 0, none⟩ 1 1 (ecs x) rfl rfl (by rw [← hw7]; exact HCw7.out) (ecs_one x) (by unfold maxLen; omega) (by omega) (by rw [← hw7]; exact hsw7) ?_)
        intro v2 w8 hown hgrow hnil
        rw [← hw7] at hgrow
        obtain ⟨a8, c8, rfl⟩ := owns_slice hown
        have HBw8 : Hid (Below wx.heap.size wx w8) := Below.grown HBw7.out hgrow (by exact hsw7) (fun k hk => (HOw7.out.lt k hk).1)
        have HWw8 : Hid (OwnL wx.heap.size w8 (.slice a8 (n6 + 1) c8) (n6 + 1) (O ++ [e] ++ [x])) := by
          refine hid ?_
          unfold OwnL
          rw [List.flatMap_append]
          simpa using hown
        clear hown hgrow hnil hw7 HOw7 HCw7 hsw7
        have HFin : Hid (OwnL wx.heap.size w8 (.slice a8 (n6 + 1) c8) (n6 + 1) (O ++ [e] ++ [nthE l k])) := by rw [← HX.out]; exact HWw8
        go_wp2_with fail
        go_roundg (n - (k + 1))
        case measure => omega
        case rel => exact ⟨k + 1, true, _, a8, n6 + 1, c8, by omega, rfl, by go_num, rfl, rfl, by have h1 := HN'.out; have h2 := HN6.out; simp at h1 ⊢; omega, HFin, HF, HBw8⟩
      · have hor : dn = true ∨ befB s e (nthE l k) = false := by
          cases dn with
          | true => exact .inl rfl
          | false =>
            refine .inr ?_
            rw [← HX.out, HU.out]
            cases u with
            | false => rfl
            | true => exact absurd ⟨rfl, rfl⟩ hin
        have HF := hid (laying_on HY.out (by rw [HLN.out]; exact hlt) hor)
        obtain ⟨g0, g1, g2, g3, g4, g5, g6⟩ := HGn.out
        have STEP : Hid (∀ (P : Prop), (u = false → P) → (u = true → dn = true → P) → P) := fun P h1 h2 => by
          cases u with
          | false => exact h1 rfl
          | true =>
            cases dn with
            | true => exact h2 rfl rfl
            | false => exact absurd ⟨rfl, rfl⟩ hin
        clear hor hin
        refine STEP.out _ (fun hu0 => ?_) (fun hu0 hd0 => ?_)
        · subst hu0
          obtain ⟨w5, hw5⟩ : ∃ w5, w5 = (wn).alloc (.cells #[.int .u32 x.id.1, .int .u32 x.id.2, .int .u32 x.home, .int .i64 x.oc, .int .u64 x.w, .int .u32 x.l, .int .u32 x.n] 33) := ⟨_, rfl⟩
          have hbw5 : Below (wn).heap.size (wn) w5 := by rw [hw5]; exact Below.al (Below.refl _ _) _
          have HOw5 : Hid (OwnL wx.heap.size w5 (.slice a' (n') c') (n') (O)) := owns_keep HOn.out fun g hg => hbw5.block g (HOn.out.lt g hg).2
          have HCw5 : Hid (∀ j y, (ecs x)[j]? = some y → w5.cell? ((⟨(wn).heap.size, 0, none⟩ : Addr).add j) = some y) := by rw [hw5]; exact lit7 _ x
          have hsw5 : wx.heap.size ≤ w5.heap.size := Nat.le_trans HBn.out.size hbw5.size
          have HBw5 : Hid (Below wx.heap.size wx w5) := Below.on HBn.out hbw5
          clear hbw5
          go_wp2_with (at_builtin; refine wpList_append_own _ rfl _ _ 22 rfl wx.heap.size 33 i0 (En.val En.zero) 7 40 Try.underlying22 hi hz0 hz1 hz2 rfl (by decide) (.slice a' (n') c') (n') ((O).flatMap ecs) rfl (by rw [← hw5]; exact HOw5.out) ⟨(wn).heap.size, 0, none⟩ 1 1 (ecs x) rfl rfl (by rw [← hw5]; exact HCw5.out) (ecs_one x) (by unfold maxLen; omega) (by omega) (by rw [← hw5]; exact hsw5) ?_)
          intro v2 w6 hown hgrow hnil
          rw [← hw5] at hgrow
          obtain ⟨a6, c6, rfl⟩ := owns_slice hown
          have HBw6 : Hid (Below wx.heap.size wx w6) := Below.grown HBw5.out hgrow (by exact hsw5) (fun k hk => (HOw5.out.lt k hk).1)
          have HWw6 : Hid (OwnL wx.heap.size w6 (.slice a6 (n' + 1) c6) (n' + 1) (O ++ [x])) := by
            refine hid ?_
            unfold OwnL
            rw [List.flatMap_append]
            simpa using hown
          clear hown hgrow hnil hw5 HOw5 HCw5 hsw5
          have HFin : Hid (OwnL wx.heap.size w6 (.slice a6 (n' + 1) c6) (n' + 1) (O ++ [nthE l k])) := by rw [← HX.out]; exact HWw6
          go_wp2_with fail
          go_roundg (n - (k + 1))
          case measure => omega
          case rel => exact ⟨k + 1, dn, _, a6, n' + 1, c6, by omega, rfl, by go_num, rfl, rfl, by have := HN'.out; revert this; split <;> omega, HFin, HF, HBw6⟩
        · subst hu0 hd0
          obtain ⟨w5, hw5⟩ : ∃ w5, w5 = (wn).alloc (.cells #[.int .u32 x.id.1, .int .u32 x.id.2, .int .u32 x.home, .int .i64 x.oc, .int .u64 x.w, .int .u32 x.l, .int .u32 x.n] 33) := ⟨_, rfl⟩
          have hbw5 : Below (wn).heap.size (wn) w5 := by rw [hw5]; exact Below.al (Below.refl _ _) _
          have HOw5 : Hid (OwnL wx.heap.size w5 (.slice a' (n') c') (n') (O)) := owns_keep HOn.out fun g hg => hbw5.block g (HOn.out.lt g hg).2
          have HCw5 : Hid (∀ j y, (ecs x)[j]? = some y → w5.cell? ((⟨(wn).heap.size, 0, none⟩ : Addr).add j) = some y) := by rw [hw5]; exact lit7 _ x
          have hsw5 : wx.heap.size ≤ w5.heap.size := Nat.le_trans HBn.out.size hbw5.size
          have HBw5 : Hid (Below wx.heap.size wx w5) := Below.on HBn.out hbw5
          clear hbw5
          go_wp2_with (at_builtin; refine wpList_append_own _ rfl _ _ 22 rfl wx.heap.size 33 i0 (En.val En.zero) 7 40 Try.underlying22 hi hz0 hz1 hz2 rfl (by decide) (.slice a' (n') c') (n') ((O).flatMap ecs) rfl (by rw [← hw5]; exact HOw5.out) ⟨(wn).heap.size, 0, none⟩ 1 1 (ecs x) rfl rfl (by rw [← hw5]; exact HCw5.out) (ecs_one x) (by unfold maxLen; omega) (by omega) (by rw [← hw5]; exact hsw5) ?_)
          intro v2 w6 hown hgrow hnil
          rw [← hw5] at hgrow
          obtain ⟨a6, c6, rfl⟩ := owns_slice hown
          have HBw6 : Hid (Below wx.heap.size wx w6) := Below.grown HBw5.out hgrow (by exact hsw5) (fun k hk => (HOw5.out.lt k hk).1)
          have HWw6 : Hid (OwnL wx.heap.size w6 (.slice a6 (n' + 1) c6) (n' + 1) (O ++ [x])) := by
            refine hid ?_
            unfold OwnL
            rw [List.flatMap_append]
            simpa using hown
          clear hown hgrow hnil hw5 HOw5 HCw5 hsw5
          have HFin : Hid (OwnL wx.heap.size w6 (.slice a6 (n' + 1) c6) (n' + 1) (O ++ [nthE l k])) := by rw [← HX.out]; exact HWw6
          go_wp2_with fail
          go_roundg (n - (k + 1))
          case measure => omega
          case rel => exact ⟨k + 1, true, _, a6, n' + 1, c6, by omega, rfl, by go_num, rfl, rfl, by have := HN'.out; simp at this ⊢; omega, HFin, HF, HBw6⟩
    · obtain rfl : k = n := by omega
      have hend : (if dn then O else O ++ [e]) = insL (befB s) l e := laying_end (by rw [HLN.out]; exact HY.out)
      have HE := hid hend
      obtain ⟨p0, p1, p2, p3, p4, p5, p6⟩ := bE
      clear hend
      cases dn with
      | true =>
        have hn2 : n' = k + 1 := HN'.out
        subst hn2
        have HFin : Hid (OwnL w.heap.size wr (.slice a' (k + 1) c') (k + 1) (insL (befB s) l e)) := by rw [← HE.out]; exact owns_base HO.out HBX.out.size
        have HBF : Hid (Below w.heap.size w wr) := Below.on HBX.out HB.out
        go_wp2_with fail
        go_ret
        exact ⟨a', c', rfl, HFin, HBF⟩
      | false =>
        have hn2 : n' = k := HN'.out
        subst hn2
        obtain ⟨w5, hw5⟩ : ∃ w5, w5 = (wr).alloc (.cells #[.int .u32 e.id.1, .int .u32 e.id.2, .int .u32 e.home, .int .i64 e.oc, .int .u64 e.w, .int .u32 e.l, .int .u32 e.n] 33) := ⟨_, rfl⟩
        have hbw5 : Below (wr).heap.size (wr) w5 := by rw [hw5]; exact Below.al (Below.refl _ _) _
        have HOw5 : Hid (OwnL wx.heap.size w5 (.slice a' (n') c') (n') (O)) := owns_keep HO.out fun g hg => hbw5.block g (HO.out.lt g hg).2
        have HCw5 : Hid (∀ j y, (ecs e)[j]? = some y → w5.cell? ((⟨(wr).heap.size, 0, none⟩ : Addr).add j) = some y) := by rw [hw5]; exact lit7 _ e
        have hsw5 : wx.heap.size ≤ w5.heap.size := Nat.le_trans HB.out.size hbw5.size
        have HBw5 : Hid (Below wx.heap.size wx w5) := Below.on HB.out hbw5
        clear hbw5
        go_wp2_with (at_builtin; refine wpList_append_own _ rfl _ _ 22 rfl wx.heap.size 33 i0 (En.val En.zero) 7 40 Try.underlying22 hi hz0 hz1 hz2 rfl (by decide) (.slice a' (n') c') (n') ((O).flatMap ecs) rfl (by rw [← hw5]; exact HOw5.out) ⟨(wr).heap.size, 0, none⟩ 1 1 (ecs e) rfl rfl (by rw [← hw5]; exact HCw5.out) (ecs_one e) (by unfold maxLen; omega) (by omega) (by rw [← hw5]; exact hsw5) ?_)
        intro v2 w6 hown hgrow hnil
        rw [← hw5] at hgrow
        obtain ⟨a6, c6, rfl⟩ := owns_slice hown
        have HBw6 : Hid (Below wx.heap.size wx w6) := Below.grown HBw5.out hgrow (by exact hsw5) (fun k hk => (HOw5.out.lt k hk).1)
        have HWw6 : Hid (OwnL wx.heap.size w6 (.slice a6 (n' + 1) c6) (n' + 1) (O ++ [e])) := by
          refine hid ?_
          unfold OwnL
          rw [List.flatMap_append]
          simpa using hown
        clear hown hgrow hnil hw5 HOw5 HCw5 hsw5
        have HFin : Hid (OwnL w.heap.size w6 (.slice a6 (n' + 1) c6) (n' + 1) (insL (befB s) l e)) := by rw [← HE.out]; exact owns_base HWw6.out HBX.out.size
        have HBF : Hid (Below w.heap.size w w6) := Below.on HBX.out HBw6.out
        go_wp2_with fail
        go_ret
        exact ⟨a6, c6, rfl, HFin, HBF⟩
end Go.Proofs.Ytogjhpknlopajaa.Lg
