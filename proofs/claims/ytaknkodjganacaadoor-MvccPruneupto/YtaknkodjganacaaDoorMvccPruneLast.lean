import Derived.Test.YtaknkodjganacaaDoorVFill
import Derived.Test.YtaknkodjganacaaDoorVPrune
import Derived.Test.YtaknkodjganacaaDoorVSees
import Derived.Test.YtaknkodjganacaaDoorVSame
import Derived.Test.YtaknkodjganacaaDoorVPrunedOpen
import Derived.Test.YtaknkodjganacaaDoorCards
import Derived.Test.YtaknkodjganacaaDoorTie
import Derived.ProofKit
import Derived.OpenShut
import Derived.ShutString
import Derived.ChangeOld
import Derived.Below
import Derived.Deep.DeepHandedRow
import Derived.Deep.DeepWitnessRowRef
namespace Go.Proofs.YtaknkodjganacaaDoor.Vs
open Go.RowKit Go.Sort
set_option linter.unusedVariables false

/-- two stores apart, the first with a mark -/
structure FiP (w W : World) (F G : Nat → Prop) (p q : Nat) (M N : Mst) (mk : Sp) : Prop where
  a : Sto F W p M mk
  b : Sto G W q N ⟨0, 0, 0⟩
  dis : ∀ x, F x → ¬ G x
  la : ∀ x, F x → w.heap.size ≤ x
  lb : ∀ x, G x → w.heap.size ≤ x
  bl : Below w.heap.size w W
theorem FiP.later {w W W' : World} {F G : Nat → Prop} {p q : Nat} {M N : Mst} {mk : Sp} (h : FiP w W F G p q M N mk) (hb : Below W.heap.size W W') : FiP w W' F G p q M N mk :=
  ⟨h.a.later hb, h.b.later hb, h.dis, h.la, h.lb, Below.on h.bl hb⟩
theorem FiP.prune {w W W' : World} {F G : Nat → Prop} {p q : Nat} {M N : Mst} {mk : Sp} (t : Sp) (h : FiP w W F G p q M N mk) (hb : Below W.heap.size W W') (hc : countM M ≤ 1048576) :
    Calls Tryd.prog 19 #[pt p, sv t] W' fun e w2 => e = .returned (.int .i64 (prG M mk t : Nat)) ∧ (∃ F', FiP w w2 F' G p q (prM M mk t) N (prK mk t)) ∧ Below w.heap.size w w2 := by
  have h' := h.later hb
  refine (prune_is h'.a t (by omega)).mono ?_
  rintro e w2 ⟨he, ⟨F', hs, hf⟩, ho⟩
  have hbl := h'.bl.trans (ho.below h'.la h'.bl.size)
  refine ⟨he, ⟨F', hs, h'.b.other h'.a ho (fun x hx hf => h'.dis x hf hx), fun x hx hx' => ?_, fun x hx => (hf x hx).elim (h'.la x) (fun k => Nat.le_trans h'.bl.size k), h'.lb, hbl⟩, hbl⟩
  rcases hf x hx with k | k
  · exact h'.dis x k hx'
  · exact Nat.lt_irrefl _ (Nat.lt_of_lt_of_le (h'.b.lt hx') k)
/-- Installs never take versions away -/
theorem fill_first {ps : List Pt} (hp : 0 < ps.length) (hr : ∀ i, i ≤ ps.length → Rising (fillM (ps.take i))) : countM (instR [] (nthT ps 0).ws (nthT ps 0).t) ≤ countM (fillM ps) := by
  have h1 : ∀ i, 1 ≤ i → i ≤ ps.length → countM (instR [] (nthT ps 0).ws (nthT ps 0).t) ≤ countM (fillM (ps.take i)) := by
    intro i
    induction i with
    | zero => intro h; omega
    | succ i ih =>
      intro _ hi
      rw [fillM_next (by omega : i < ps.length)]
      by_cases e : i = 0
      · subst e
        exact Nat.le_refl _
      · exact Nat.le_trans (ih (by omega) (by omega)) (instR_len (hr i (by omega)) _ _).2
  have := h1 ps.length hp (Nat.le_refl _)
  rwa [List.take_of_length_le (Nat.le_refl _)] at this
theorem fill_rising {ps : List Pt} : Rising (fillM ps) := by
  have : ∀ (l : List Pt) (M : Mst), Rising M → Rising (l.foldl (fun M q => instR M q.ws q.t) M) := by
    intro l
    induction l with
    | nil => intro M h; exact h
    | cons x l ih =>
      intro M h
      refine ih _ ?_
      show Rising (instR M x.ws x.t)
      unfold instR
      split
      · exact (instM_count h _ _).2
      · exact h
  exact this ps [] List.Pairwise.nil

set_option maxHeartbeats 4000000 in
set_option maxRecDepth 16000 in
theorem law_prune {w : World} {a ta : Option Addr} {c tc : Nat} {ps : List Pt} {ts : List Sp} {lo hi : ByteArray} {mk : Sp} (h : RowT w a ps) (hl : ps.length ≤ 1048576) (hsum : sumT ps ≤ 1048576) (hts : RowA w ta ts) (htl : ts.length ≤ 1048576) (hmk : mk.nn) (ht : PowTab w) :
    Calls Tryd.prog 7 #[.agg #[.slice a ps.length c, .int .u64 mk.a, .int .u32 mk.b, .int .u32 mk.c, .string lo, .string hi, .slice ta ts.length tc]] w fun e w' => e = .returned (.bool true) ∧ Below w.heap.size w w' := by
  obtain ⟨n, hn⟩ : ∃ n, n = ps.length := ⟨_, rfl⟩
  obtain ⟨m, hm⟩ : ∃ n, n = ts.length := ⟨_, rfl⟩
  obtain ⟨wx, hwx⟩ : ∃ wx, wx = w.alloc (.cells #[.slice a n c, .int .u64 mk.a, .int .u32 mk.b, .int .u32 mk.c, .string lo, .string hi, .slice ta m tc] 31) := ⟨_, rfl⟩
  have hbx : Below w.heap.size w wx := by rw [hwx]; exact Below.al (Below.refl _ _) _
  have kx : wx.heap[w.heap.size]? = some (.cells #[.slice a n c, .int .u64 mk.a, .int .u32 mk.b, .int .u32 mk.c, .string lo, .string hi, .slice ta m tc] 31 (0, 0)) := by rw [hwx]; exact World.alloc_heap_new _ _
  have x0 : wx.cell? ⟨w.heap.size, 0, none⟩ = some (.slice a n c) := cell_of_obj kx rfl
  have HX0 := hid x0
  have HX : Hid (wx.cell? ⟨w.heap.size, 1, none⟩ = some (.int .u64 mk.a) ∧ wx.cell? ⟨w.heap.size, 2, none⟩ = some (.int .u32 mk.b) ∧ wx.cell? ⟨w.heap.size, 3, none⟩ = some (.int .u32 mk.c) ∧ wx.cell? ⟨w.heap.size, 4, none⟩ = some (.string lo) ∧ wx.cell? ⟨w.heap.size, 5, none⟩ = some (.string hi) ∧ wx.cell? ⟨w.heap.size, 6, none⟩ = some (.slice ta m tc)) := ⟨cell_of_obj kx rfl, cell_of_obj kx rfl, cell_of_obj kx rfl, cell_of_obj kx rfl, cell_of_obj kx rfl, cell_of_obj kx rfl⟩
  have HA := hid (show RowA wx ta ts ∧ Below w.heap.size w wx ∧ m = ts.length ∧ RowT wx a ps ∧ n = ps.length from ⟨hts.later hbx, hbx, hm, h.later hbx, hn⟩)
  have FI := hid (fill_is (c := c) (h.later hbx) hl hsum (ht.later hbx))
  rw [← hn] at hl FI ⊢
  rw [← hm] at htl ⊢
  have HMK := hid hmk
  clear h ht hbx kx hn hts hm hsum hmk
  go_enter Tryd.func7, Tryd.ntmps7
  go_wp2_with fail
  rw [← hwx]
  clear hwx
  go_upto_region 4 with (go_at_call 8; refine FI.out.mono ?_; rintro e w1 ⟨p, q, F, G, rfl, HF1, hb1⟩; have HB1 := hid hb1; clear hb1)
  obtain ⟨M, hM⟩ : ∃ M, M = fillM ps := ⟨_, rfl⟩
  have HFF : Hid (0 < ps.length → countM (instR [] (nthT ps 0).ws (nthT ps 0).t) ≤ countM M) := fun hp => by rw [hM]; exact fill_first hp fun i _ => fill_rising
  rw [← hM] at HF1
  have HGD : Hid (Good M) := HF1.out.1.a.good
  have HF : Hid (FiP wx w1 F G p q M M ⟨0, 0, 0⟩ ∧ countM M ≤ 1048576) := ⟨⟨HF1.out.1.a, HF1.out.1.b, HF1.out.1.dis, HF1.out.1.la, HF1.out.1.lb, HF1.out.1.bl⟩, HF1.out.2.2⟩
  obtain ⟨cN, hcN⟩ : ∃ k, k = countM M := ⟨_, rfl⟩
  have LN : Hid (∀ W, Below w1.heap.size w1 W → Calls Tryd.prog 11 #[pt p] W fun e w' => e = .returned (.int .i64 cN) ∧ Below W.heap.size W w') := fun W hb => by rw [hcN]; exact stolen_is (HF.out.1.a.later hb) (by have := HF.out.2; omega)
  have HCN := hid hcN
  have hcn : cN ≤ 1048576 := by rw [hcN]; exact HF.out.2
  clear FI hM hcN x0
  go_cut [47] from 25 to 46 (fun s47 wy => s47 = .bool false ∧ Hid (Below w1.heap.size w1 wy))
  case first =>
    have x0 := cell_regrown (cell_later HB1.out HX0.out)
    by_cases hn0 : n = 0
    · have g0 : decide (0 < (n : Int)) = false := decide_eq_false (by omega)
      have g0' : decide (0 < n) = false := decide_eq_false (by omega)
      clear hn0
      go_wp2_with fail
      refine wp_region_quiet_below (by kernel_rfl) (by kernel_rfl) ?_
      repeat (go_big_quiet_step (fail))
      refine wpQuiet_nil ?_
      intro w2 hw2
      replace hw2 := below_of_regrown hw2
      go_wp2_with fail
      go_meet
      exact ⟨rfl, hw2⟩
    · have g0 : decide (0 < (n : Int)) = true := decide_eq_true (by omega)
      have g0' : decide (0 < n) = true := decide_eq_true (by omega)
      have hb0 : 0 < n := by omega
      have hp : 0 < ps.length := by rw [← HA.out.2.2.2.2]; exact hb0
      obtain ⟨b, off, hab, c0, c1, c2, c3, hrx, hwl, htn⟩ := (HA.out.2.2.2.1.later HB1.out) 0 hp
      have hff := HFF.out hp
      have hfl := first_len hp
      obtain ⟨qq, hq⟩ : ∃ q, q = nthT ps 0 := ⟨_, rfl⟩
      rw [← hq] at c0 c1 c2 c3 hrx hwl htn hff hfl
      clear hq htn
      subst hab
      obtain ⟨qa, qc, ws, t⟩ := qq
      simp only [Nat.zero_mul, Nat.add_zero] at c0 c1 c2 c3 hrx hwl hff hfl
      obtain ⟨k, hk⟩ : ∃ k, k = ws.length := ⟨_, rfl⟩
      rw [← hk] at c0 hfl
      obtain ⟨u, hu⟩ : ∃ u, mayB ws t ⟨0, 0, 0⟩ false = u := ⟨_, rfl⟩
      have MY : Hid (∀ W, Below w1.heap.size w1 W → Calls Tryd.prog 21 #[.agg #[.slice qa k qc, .int .u64 t.a, .int .u32 t.b, .int .u32 t.c], .agg #[.int .u64 0, .int .u32 0, .int .u32 0], .bool false] W fun e w' => e = .returned (.bool u) ∧ Below W.heap.size W w') := fun W hb => by
        have := may_is (c := qc) (last := ⟨0, 0, 0⟩) hu (hrx.later hb) (by omega)
        rw [← hk] at this
        exact this
      have c0 := cell_regrown c0; have c1 := cell_regrown c1; have c2 := cell_regrown c2; have c3 := cell_regrown c3
      cases u with
      | false =>
        clear hu hff hfl hrx hwl hk hn0
        go_wp2_with fail
        refine wp_region_quiet_below (by kernel_rfl) (by kernel_rfl) ?_
        repeat (go_big_quiet_step (((go_at_call 21; exact Calls.regrown_of (MY.out _ (below_regrown _ _ _))))))
        refine wpQuiet_nil ?_
        intro w2 hw2
        replace hw2 := below_of_regrown hw2
        go_wp2_with fail
        go_meet
        exact ⟨rfl, hw2⟩
      | true =>
        have hmy := may_yes hu
        have hlen := hfl hmy.1 hmy.2.1
        have q3 : decide ((cN : Int) < (k : Int)) = false := decide_eq_false (by have := HCN.out; omega)
        have q3' : decide (cN < k) = false := decide_eq_false (by have := HCN.out; omega)
        clear hu hff hfl hrx hwl hk hmy hlen hn0
        go_wp2_with fail
        refine wp_region_quiet_below (by kernel_rfl) (by kernel_rfl) ?_
        repeat (go_big_quiet_step ((first | (go_at_call 21; exact Calls.regrown_of (MY.out _ (below_regrown _ _ _))) | (go_at_call 11; exact Calls.regrown_of (LN.out _ (below_regrown _ _ _))))))
        refine wpQuiet_nil ?_
        intro w2 hw2
        replace hw2 := below_of_regrown hw2
        go_wp2_with fail
        go_meet
        exact ⟨rfl, hw2⟩
  case rest =>
    obtain ⟨rfl, HC⟩ := hcut
    have HFC := hid (HF.out.1.later HC.out)
    obtain ⟨MP, hMP⟩ : ∃ MP, MP = prM M ⟨0, 0, 0⟩ mk := ⟨_, rfl⟩
    obtain ⟨gN, hgN⟩ : ∃ g, g = prG M ⟨0, 0, 0⟩ mk := ⟨_, rfl⟩
    obtain ⟨lf, hlf⟩ : ∃ k, k = countM MP := ⟨_, rfl⟩
    have hpc := pr_count M mk
    rw [← hMP, ← hgN, ← hlf, ← HCN.out] at hpc
    have HPC := hid hpc
    have HCD : Hid (cN = (dumpM M).length) := by show _ = _; rw [dump_len, HCN.out]
    obtain ⟨sN, hsN⟩ : ∃ k, k = seeL mk (dumpM M) := ⟨_, rfl⟩
    have HSL : Hid (Sp.lt ⟨0, 0, 0⟩ mk = true → sN = lf) := fun h0 => by rw [hsN, hlf, hMP]; exact pr_left HGD.out h0
    have HZL : Hid (Sp.lt ⟨0, 0, 0⟩ mk = false → cN = lf) := fun h0 => by rw [HCN.out, hlf, hMP, Sp.ext_nn HMK.out h0]; exact pr_zero M
    have DU : Hid (∀ W, Below wc.heap.size wc W → _) := fun W hb => dump_at HFC.out.a HF.out.2 HCD.out hb
    have SE : Hid (∀ W B la lc, OwnV W B (.slice la cN lc) (dumpM M) → Calls Tryd.prog 28 #[.slice la cN lc, sv mk] W fun e w' => e = .returned (.int .i64 sN) ∧ Below W.heap.size W w') := fun W B la lc ho => by
      rw [hsN]
      rw [HCD.out] at ho ⊢
      exact sees_is ho.row (by rw [← HCD.out]; exact hcn)
    clear hpc hsN
    go_upto_region 7 with (go_at_call 11; refine (LN.out wc HC.out).mono ?_; rintro e w2 ⟨rfl, hb2⟩)
    have HB2 := hid hb2
    have HFC2 := hid (HFC.out.later hb2)
    have x1 := cell_later HFC2.out.bl HX.out.1
    have x2 := cell_later HFC2.out.bl HX.out.2.1
    have x3 := cell_later HFC2.out.bl HX.out.2.2.1
    clear LN
    go_region_held3 (fun w' => w'.cell? ⟨w.heap.size, 1, none⟩ = some (.int .u64 mk.a) ∧ w'.cell? ⟨w.heap.size, 2, none⟩ = some (.int .u32 mk.b) ∧ w'.cell? ⟨w.heap.size, 3, none⟩ = some (.int .u32 mk.c) ∧ Below w2.heap.size w2 w')
      ((refine (fun (hB : Below w2.heap.size w2 _) => ⟨cell_later hB x1, cell_later hB x2, cell_later hB x3, hB⟩) ?_; (repeat (first | exact Below.refl _ _ | assumption | refine Below.drew ?_ | refine Below.al ?_ _ | refine Below.setCell ?_ (by first | exact Nat.le_refl _ | (simp; omega) | (simp; done)) _ | refine Below.on ?_ (by assumption)))))
      (first
        | (go_at_call 28; refine (SE.out w3 _ la lc HL3.out).mono ?_; rintro e w4 ⟨rfl, hb4⟩)
        | (go_at_call 12; refine (DU.out _ (Below.on HB2.out (by (repeat (first | exact Below.refl _ _ | assumption | refine Below.drew ?_ | refine Below.al ?_ _ | refine Below.setCell ?_ (by first | exact Nat.le_refl _ | (simp; omega) | (simp; done)) _ | refine Below.on ?_ (by assumption)))))).mono ?_; rintro e w3 ⟨la, lc, rfl, HL3, hb3⟩))
    have hB4 : Below w2.heap.size w2 w4 := by (repeat (first | exact Below.refl _ _ | assumption | refine Below.drew ?_ | refine Below.al ?_ _ | refine Below.setCell ?_ (by first | exact Nat.le_refl _ | (simp; omega) | (simp; done)) _ | refine Below.on ?_ (by assumption)))
    have HFC4 := hid (HFC2.out.later hB4)
    have x1 := cell_later HFC4.out.bl HX.out.1
    have x2 := cell_later HFC4.out.bl HX.out.2.1
    have x3 := cell_later HFC4.out.bl HX.out.2.2.1
    clear DU SE HL3 hb3 hb4 hb2 HB2 hB4 HFC2 HFC
    obtain ⟨z, hz⟩ : ∃ z, Sp.lt ⟨0, 0, 0⟩ mk = z := ⟨_, rfl⟩
    have hq : (decide (mk.a = 0) && decide (mk.b = 0) && decide (mk.c = 0)) = !z := by
      cases z with
      | true =>
        rw [Bool.not_true, Bool.eq_false_iff]
        intro h
        simp only [Bool.and_eq_true, decide_eq_true_eq] at h
        obtain ⟨ma, mb, mc⟩ := mk
        simp only at h
        obtain ⟨⟨h1, h2⟩, h3⟩ := h
        subst h1 h2 h3
        rw [Sp.irr] at hz; cases hz
      | false => rw [Sp.ext_nn HMK.out hz]; rfl
    have hrun := fun W => run_eqSt mk W
    rw [hq] at hrun
    have HZ := hid hz
    clear hq hz
    go_upto_if 58 with fail
    go_cut [6] (fun s6 wy => s6 = .int .i64 lf ∧ Hid (Below w4.heap.size w4 wy))
    case first =>
      cases z with
      | true =>
        have HS := hid (HSL.out HZ.out)
        go_wp2_with fail
        go_meet
        exact ⟨by rw [← HS.out], Below.refl _ _⟩
      | false =>
        have HS := hid (HZL.out HZ.out)
        go_wp2_with fail
        go_meet
        exact ⟨by rw [← HS.out], Below.refl _ _⟩
    case rest =>
      obtain ⟨rfl, HCC⟩ := hcut
      have HFW := hid (HFC4.out.later HCC.out)
      have hlc : lf ≤ 1048576 := by have := HPC.out; omega
      have HMC : Hid (countM MP ≤ 1048576) := by show _ ≤ _; rw [← hlf]; exact hlc
      have HLF := hid hlf
      have HMP := hid hMP
      have P1 : Hid (∀ W, Below wc.heap.size wc W → Calls Tryd.prog 19 #[pt p, sv mk] W fun e w2 => e = .returned (.int .i64 gN) ∧ (∃ F', FiP wx w2 F' G p q MP M mk) ∧ Below wx.heap.size wx w2) := fun W hb => by
        have := HFW.out.prune mk hb HF.out.2
        rw [prK_0 HMK.out, ← hMP, ← hgN] at this
        exact this
      have P2 : Hid (∀ W0 F' W, FiP wx W0 F' G p q MP M mk → Below W0.heap.size W0 W → Calls Tryd.prog 19 #[pt p, sv mk] W fun e w2 => e = .returned (.int .i64 0) ∧ (∃ F', FiP wx w2 F' G p q MP M mk) ∧ Below wx.heap.size wx w2) := fun W0 F' W h hb => by
        have := h.prune mk hb HMC.out
        obtain ⟨e1, e2, e3⟩ := pr_again MP mk
        rw [e1, e2, e3] at this
        exact this
      have L1 : Hid (∀ W0 F' W, FiP wx W0 F' G p q MP M mk → Below W0.heap.size W0 W → Calls Tryd.prog 11 #[pt p] W fun e w' => e = .returned (.int .i64 lf) ∧ Below W.heap.size W w') := fun W0 F' W h hb => by rw [hlf]; exact stolen_is (h.a.later hb) (by have := HMC.out; omega)
      have W1 : Hid (∀ W0 F' W, FiP wx W0 F' G p q MP M mk → Below W0.heap.size W0 W → _) := fun W0 F' W h hb => wmark_is (h.a.later hb)
      have D1 : Hid (∀ W0 F' W, FiP wx W0 F' G p q MP M mk → Below W0.heap.size W0 W → _) := fun W0 F' W h hb => dump_at h.a HMC.out (show lf = _ by rw [dump_len]; exact hlf) hb
      have hblC := HFW.out.bl
      have x1 := cell_later hblC HX.out.1
      have x2 := cell_later hblC HX.out.2.1
      have x3 := cell_later hblC HX.out.2.2.1
      have hw : IntKind.i64.wrap ((cN : Int) - (lf : Int)) = (gN : Int) := by rw [IntKind.wrap_i64]; have := HPC.out; omega
      have hne := fun W => run_neSt mk W
      clear hMP hgN hlf HSL HZL hrun
      go_upto_region 10 with fail
      go_region_held3 (fun w' => w'.cell? ⟨w.heap.size, 1, none⟩ = some (.int .u64 mk.a) ∧ w'.cell? ⟨w.heap.size, 2, none⟩ = some (.int .u32 mk.b) ∧ w'.cell? ⟨w.heap.size, 3, none⟩ = some (.int .u32 mk.c) ∧ Below wx.heap.size wx w')
        ((refine (fun (hB : Below wx.heap.size wx _) => ⟨cell_later hB HX.out.1, cell_later hB HX.out.2.1, cell_later hB HX.out.2.2.1, hB⟩) ?_; (repeat (first | exact Below.refl _ _ | assumption | refine Below.drew ?_ | refine Below.al ?_ _ | refine Below.setCell ?_ (by first | exact Nat.le_refl _ | (simp; omega) | (simp; done)) _ | refine Below.on ?_ (by assumption)))))
        (first
          | (go_at_call 12; refine (D1.out w8 F8 _ HM8.out (by (repeat (first | exact Below.refl _ _ | assumption | refine Below.drew ?_ | refine Below.al ?_ _ | refine Below.setCell ?_ (by first | exact Nat.le_refl _ | (simp; omega) | (simp; done)) _ | refine Below.on ?_ (by assumption))))).mono ?_; rintro e w9 ⟨da, dc, rfl, HL9, hb9⟩)
          | (go_at_call 19; refine (P2.out w5 F5 _ HM5.out (by (repeat (first | exact Below.refl _ _ | assumption | refine Below.drew ?_ | refine Below.al ?_ _ | refine Below.setCell ?_ (by first | exact Nat.le_refl _ | (simp; omega) | (simp; done)) _ | refine Below.on ?_ (by assumption))))).mono ?_; rintro e w8 ⟨rfl, ⟨F8, hM8⟩, hbl8⟩; have HM8 := hid hM8)
          | (go_at_call 27; refine (W1.out w5 F5 _ HM5.out (by (repeat (first | exact Below.refl _ _ | assumption | refine Below.drew ?_ | refine Below.al ?_ _ | refine Below.setCell ?_ (by first | exact Nat.le_refl _ | (simp; omega) | (simp; done)) _ | refine Below.on ?_ (by assumption))))).mono ?_; rintro e w7 ⟨rfl, hb7⟩)
          | (go_at_call 11; refine (L1.out w5 F5 _ HM5.out (by (repeat (first | exact Below.refl _ _ | assumption | refine Below.drew ?_ | refine Below.al ?_ _ | refine Below.setCell ?_ (by first | exact Nat.le_refl _ | (simp; omega) | (simp; done)) _ | refine Below.on ?_ (by assumption))))).mono ?_; rintro e w6 ⟨rfl, hb6⟩)
          | (go_at_call 19; refine (P1.out _ (by (repeat (first | exact Below.refl _ _ | assumption | refine Below.drew ?_ | refine Below.al ?_ _ | refine Below.setCell ?_ (by first | exact Nat.le_refl _ | (simp; omega) | (simp; done)) _ | refine Below.on ?_ (by assumption))))).mono ?_; rintro e w5 ⟨rfl, ⟨F5, hM5⟩, hbl5⟩; have HM5 := hid hM5))
      have HE := hid (HM8.out.later (show Below w8.heap.size w8 w9 by (repeat (first | exact Below.refl _ _ | assumption | refine Below.drew ?_ | refine Below.al ?_ _ | refine Below.setCell ?_ (by first | exact Nat.le_refl _ | (simp; omega) | (simp; done)) _ | refine Below.on ?_ (by assumption)))))
      have HX9 : Hid (w9.cell? ⟨w.heap.size, 1, none⟩ = some (.int .u64 mk.a) ∧ w9.cell? ⟨w.heap.size, 2, none⟩ = some (.int .u32 mk.b) ∧ w9.cell? ⟨w.heap.size, 3, none⟩ = some (.int .u32 mk.c) ∧ w9.cell? ⟨w.heap.size, 4, none⟩ = some (.string lo) ∧ w9.cell? ⟨w.heap.size, 5, none⟩ = some (.string hi) ∧ w9.cell? ⟨w.heap.size, 6, none⟩ = some (.slice ta m tc)) :=
        ⟨cell_later HE.out.bl HX.out.1, cell_later HE.out.bl HX.out.2.1, cell_later HE.out.bl HX.out.2.2.1, cell_later HE.out.bl HX.out.2.2.2.1, cell_later HE.out.bl HX.out.2.2.2.2.1, cell_later HE.out.bl HX.out.2.2.2.2.2⟩
      have HRA := hid (HA.out.1.later HE.out.bl)
      have HBW : Hid (Below w.heap.size w w9) := Below.on HA.out.2.1 HE.out.bl
      have HML : Hid (m = ts.length) := HA.out.2.2.1
      clear HM8 HM5 hbl8 hbl5 hb9 hb7 hb6 hM8 hM5 HL9 P1 P2 L1 W1 D1 hblC x1 x2 x3 hw hne HX HA HFW HFC4 HCC HF1 HFF
      go_upto_region 12 with fail
      go_wp2_with fail
      go_loopg [7] m (fun g s7 wr => ∃ i : Nat, i ≤ m ∧ g = m - i ∧ s7 = .int .i64 i ∧ Hid (Below w9.heap.size w9 wr))
      case atStart => exact ⟨0, by omega, by omega, rfl, Below.refl _ _⟩
      case round =>
        obtain ⟨i, him, rfl, rfl, HBI⟩ := hrel
        have x6 := cell_later HBI.out HX9.out.2.2.2.2.2
        by_cases hlt : i < m
        · obtain ⟨b, off, hab, c0, c1, c2, htn⟩ := (HRA.out.later HBI.out) i (by rw [← HML.out]; exact hlt)
          obtain ⟨t, hqt⟩ : ∃ t, t = nthS1 ts i := ⟨_, rfl⟩
          rw [← hqt] at c0 c1 c2 htn
          clear hqt
          subst hab
          obtain ⟨wt, hwt⟩ : ∃ wt, wt = wr.alloc (.cells #[.int .u64 t.a, .int .u32 t.b, .int .u32 t.c] 26) := ⟨_, rfl⟩
          obtain ⟨bt, hbt⟩ : ∃ bt, bt = wr.heap.size := ⟨_, rfl⟩
          have hbr : Below wr.heap.size wr wt := by rw [hwt]; exact Below.al (Below.refl _ _) _
          have HBT : Hid (Below w9.heap.size w9 wt) := Below.on HBI.out hbr
          have HST : Hid (StB wt bt t) := by rw [hwt, hbt]; exact World.alloc_heap_new _ _
          have HTN := hid htn
          go_upto_region 16 with fail
          rw [← hwt, ← hbt]
          clear hwt hbt hbr x6 htn c0 c1 c2 HBI
          have x1 := cell_later HBT.out HX9.out.1
          have x2 := cell_later HBT.out HX9.out.2.1
          have x3 := cell_later HBT.out HX9.out.2.2.1
          have x4 := cell_later HBT.out HX9.out.2.2.2.1
          have x5 := cell_later HBT.out HX9.out.2.2.2.2.1
          have t0 : wt.cell? ⟨bt, 0, none⟩ = some (.int .u64 t.a) := cell_of_obj HST.out rfl
          have t1 : wt.cell? ⟨bt, 1, none⟩ = some (.int .u32 t.b) := cell_of_obj HST.out rfl
          have t2 : wt.cell? ⟨bt, 2, none⟩ = some (.int .u32 t.c) := cell_of_obj HST.out rfl
          cases hlm : t.lt mk with
          | true =>
            have he1 : rdE MP mk lo hi t = 90 := by unfold rdE; rw [hlm]; rfl
            have hr1 : rdL MP mk lo hi t = [] := by unfold rdL; rw [he1]; rfl
            have RD1 : Hid (Calls Tryd.prog 15 #[pt p, .agg #[.string lo, .string hi], sv t] wt fun r w' => ∃ va vc, r = .returned (.tuple #[.slice va 0 vc, .int .i64 90]) ∧ Hid (Row2 w' va []) ∧ Below wt.heap.size wt w') := read_at HE.out.a HMC.out he1 hr1 HBT.out
            have BE := hid (fun W => below_is hlm W)
            clear hlm he1 hr1
            go_wp2_with (first
              | (go_at_call 15; refine RD1.out.mono ?_; rintro e wA ⟨va, vc, rfl, HVA, hbA⟩; have hbTA := Below.on HBT.out hbA; have x1 := cell_later hbTA HX9.out.1; have x2 := cell_later hbTA HX9.out.2.1; have x3 := cell_later hbTA HX9.out.2.2.1; have hsA := HST.out.later hbA; have t0 : wA.cell? ⟨bt, 0, none⟩ = some (.int .u64 t.a) := cell_of_obj hsA rfl; have t1 : wA.cell? ⟨bt, 1, none⟩ = some (.int .u32 t.b) := cell_of_obj hsA rfl; have t2 : wA.cell? ⟨bt, 2, none⟩ = some (.int .u32 t.c) := cell_of_obj hsA rfl; clear hsA)
              | (go_at_call 14; refine (BE.out _).mono ?_; rintro e wB ⟨rfl, hbB⟩))
            go_roundg (m - (i + 1))
            case measure => omega
            case rel => exact ⟨i + 1, by omega, rfl, by go_num, Below.on hbTA hbB⟩
          | false =>
            obtain ⟨he1, hr1, hev⟩ := pr_rd HGD.out HTN.out hlm lo hi
            obtain ⟨e1, he2⟩ : ∃ e, rdE M ⟨0, 0, 0⟩ lo hi t = e := ⟨_, rfl⟩
            obtain ⟨r1, hr2⟩ : ∃ r, rdL M ⟨0, 0, 0⟩ lo hi t = r := ⟨_, rfl⟩
            obtain ⟨n1, hn1⟩ : ∃ n, n = r1.length := ⟨_, rfl⟩
            rw [← HMP.out, he2] at he1
            rw [← HMP.out, hr2] at hr1
            rw [he2] at hev
            have hn1c : n1 ≤ 1048576 := by have h1 := rd_len M ⟨0, 0, 0⟩ t lo hi HGD.out; have h2 := HF.out.2; rw [hr2] at h1; omega
            have RD1 : Hid (Calls Tryd.prog 15 #[pt p, .agg #[.string lo, .string hi], sv t] wt fun r w' => ∃ va vc, r = .returned (.tuple #[.slice va n1 vc, .int .i64 e1]) ∧ Hid (Row2 w' va r1) ∧ Below wt.heap.size wt w') := by rw [hn1]; exact read_at HE.out.a HMC.out he1 hr1 HBT.out
            have RD2 : Hid (∀ W, Below wt.heap.size wt W → Calls Tryd.prog 15 #[pt q, .agg #[.string lo, .string hi], sv t] W fun r w' => ∃ va vc, r = .returned (.tuple #[.slice va n1 vc, .int .i64 e1]) ∧ Hid (Row2 w' va r1) ∧ Below W.heap.size W w') := fun W hb => by rw [hn1]; exact read_at HE.out.b HF.out.2 he2 hr2 (Below.on HBT.out hb)
            have SP : Hid (∀ W va vc vb vd, Row2 W va r1 → Row2 W vb r1 → Calls Tryd.prog 16 #[.slice va n1 vc, .slice vb n1 vd] W fun e w' => e = .returned (.bool true) ∧ Below W.heap.size W w') := fun W va vc vb vd h1 h2 => by rw [hn1]; exact samePairs_is (by simp) h1 h2 (by omega) (by omega)
            have BE := hid (fun W => below_is hlm W)
            have qe : (e1 != e1) = false := by simp
            clear hlm he1 hr1 he2 hr2 hn1
            rcases hev with rfl | rfl
            all_goals
              go_wp2_with (first
                | (go_at_call_of 15 p; refine RD1.out.mono ?_; rintro e wA ⟨va, vc, rfl, HVA, hbA⟩; have hbTA := Below.on HBT.out hbA; have x1 := cell_later hbTA HX9.out.1; have x2 := cell_later hbTA HX9.out.2.1; have x3 := cell_later hbTA HX9.out.2.2.1; have hsA := HST.out.later hbA; have t0 : wA.cell? ⟨bt, 0, none⟩ = some (.int .u64 t.a) := cell_of_obj hsA rfl; have t1 : wA.cell? ⟨bt, 1, none⟩ = some (.int .u32 t.b) := cell_of_obj hsA rfl; have t2 : wA.cell? ⟨bt, 2, none⟩ = some (.int .u32 t.c) := cell_of_obj hsA rfl)
                | (go_at_call 14; refine (BE.out _).mono ?_; rintro e wB ⟨rfl, hbB⟩; have hbTB := Below.on hbTA hbB; have x4 := cell_later hbTB HX9.out.2.2.2.1; have x5 := cell_later hbTB HX9.out.2.2.2.2.1; have hsB := hsA.later hbB; have t0 : wB.cell? ⟨bt, 0, none⟩ = some (.int .u64 t.a) := cell_of_obj hsB rfl; have t1 : wB.cell? ⟨bt, 1, none⟩ = some (.int .u32 t.b) := cell_of_obj hsB rfl; have t2 : wB.cell? ⟨bt, 2, none⟩ = some (.int .u32 t.c) := cell_of_obj hsB rfl; have HVB := hid (HVA.out.later hbB))
                | (go_at_call 15; refine (RD2.out wB (Below.on hbA hbB)).mono ?_; rintro e wC ⟨vb, vd, rfl, HVC, hbC⟩; have HVB2 := hid (HVB.out.later hbC))
                | (go_at_call 16; refine (SP.out wC va vc vb vd HVB2.out HVC.out).mono ?_; rintro e wD ⟨rfl, hbD⟩))
              go_roundg (m - (i + 1))
              case measure => omega
              case rel => exact ⟨i + 1, by omega, rfl, by go_num, Below.on (Below.on hbTB hbC) hbD⟩
        · obtain rfl : i = m := by omega
          go_wp2_with fail
          go_ret
          exact ⟨rfl, Below.on HBW.out HBI.out⟩
end Go.Proofs.YtaknkodjganacaaDoor.Vs
namespace Go.Proofs.YtaknkodjganacaaDoor
open Go.ChangeShapes Go.WideShapes Go.ChangeAt Go.RowKit

set_option maxRecDepth 16000 in
theorem opened_mvccPrune {H : Type} {enc : TypeId × Value → H} {W : World} {r : Reach} {b : Nat} {v : Value} {d : DataW H} {p : List MemPlace}
    (hv : Value.okWide Tryd.prog W r b 31 v) (h : DataW.Trod enc Tryd.prog W 0 (fun _ => true) true 31 v d p) (hk : Rows.uptoBulk d ≤ 1048576) (hL : laidMetH Tryd.prog theLaid W) :
    Calls Tryd.prog 7 #[v] W fun e w' => e = .returned (.bool true) ∧ Below W.heap.size W w' := by
  obtain ⟨a, ta, cap, tc, ps, ts, lo, hi, s, rfl, hr, hn, hsu, htr, htl, hsn⟩ := Vs.open_pruned hv h hk
  exact Vs.law_prune hr hn hsu htr htl hsn (pow_of hL)
end Go.Proofs.YtaknkodjganacaaDoor
namespace Go.Proofs.YtaknkodjganacaaDoor.mvccPruneLast
open Go.ChangeShapes Go.WideShapes Go.ChangeAt Go.RowKit
set_option linter.unusedVariables false

theorem own : ownKnob Tryd.prog.godebug = none := by kernel_rfl
theorem laidOut : laidOutB Tryd.prog = true := by kernel_rfl

set_option maxRecDepth 16000 in
theorem contract (H : Type) (enc : TypeId × Value → H) (W : World) (base : Nat) (args : Array Value) (ds gs : List (DataW H)) (before : List MemPlace)
    (hval : ∀ (j : Nat) t v, Tryd.f7.params[j]? = some t → args[j]? = some v → Value.okWide Tryd.prog W .any base t v)
    (hW : DataW.Whole enc Tryd.prog Tryd.f7.params.toList Rows.mvccPruneSpec.vars false W args.toList ds gs before) (hk : Rows.uptoBulkAll (ds ++ gs) ≤ 1048576) (hV : laidMetH Tryd.prog theLaid W) :
    Calls Tryd.prog 7 args W fun e W' => ∃ v, e = .returned v ∧ Rows.mvccPruneSpec.post enc Tryd.prog Tryd.f7 false true false false W args v W' := by
  have hW' := hW
  obtain ⟨p, q, hA0, hVr, rfl, hfz, hnd⟩ := hW
  have hA : DataW.TrodAll enc Tryd.prog W 0 (fun _ => true) true Tryd.f7.params.toList args.toList ds p := hA0
  rw [Tryd.params7] at hA hval
  obtain ⟨v0, vs0, d0, ds0, p0, q0, hargs, rfl, rfl, h0, r0⟩ := trodAll_cons hA
  obtain ⟨rfl, rfl, rfl⟩ := trodAll_nil r0
  obtain rfl : args = #[v0] := by cases args; simp_all
  obtain ⟨rfl, rfl⟩ := trodVars_none hVr
  have lt0 : ∀ x ∈ p0, x.block < W.heap.size := by obtain ⟨m, hm⟩ := h0; exact DataW.trod_lt m _ _ _ hm
  clear hA0
  have hk0 : Rows.uptoBulk d0 ≤ 1048576 := by
    simp only [List.cons_append, List.nil_append, Rows.uptoBulkAll] at hk
    omega
  refine (opened_mvccPrune (hval 0 31 v0 rfl rfl) h0 hk0 hV).mono fun e W' ⟨he, bel⟩ => ?_
  subst he
  exact ⟨_, rfl, _, _, _, [], _, [], hW', trodAll_mk1 (shut_bool Tryd.underlying4 _), (trodAll_cons_mk (Below.trod laidOut (by kernel_rfl) (of_decide_eq_true (by kernel_rfl)) h0 bel lt0) trodAll_mk0), rfl, bel.frame _, fun h => by cases h⟩

theorem reads (os : Os) {H : Type} (enc : TypeId × Value → H) : ∃ places, DataW.whole enc Tryd.prog (({ World.holding Tryd.prog os ⟨#[], #[], []⟩ with heap := putG (putG (putG (World.holding Tryd.prog os ⟨#[], #[], []⟩).heap 0 (intsOf Rows.laid_internal_strconv_uint64pow10)) 1 (intsOf Rows.laid_math_bits_deBruijn32tab)) 2 (intsOf Rows.laid_math_bits_deBruijn64tab) } : World).forCall (fun _ _ => 0) ⟨#[], #[.agg #[.slice none 0 0, .int .u64 0, .int .u32 0, .int .u32 0, .string ⟨#[]⟩, .string ⟨#[]⟩, .slice none 0 0]], []⟩).memory Tryd.f7.params.toList Rows.mvccPruneSpec.vars false #[.agg #[.slice none 0 0, .int .u64 0, .int .u32 0, .int .u32 0, .string ⟨#[]⟩, .string ⟨#[]⟩, .slice none 0 0]].toList 8 = some ([.agg [.nil, .agg [.lit (.int .u64 0), .lit (.int .u32 0), .lit (.int .u32 0)], .agg [.lit (.string []), .lit (.string [])], .nil]], [], places) :=
  ⟨[], by kernel_rfl⟩

set_option maxRecDepth 1000000 in
theorem lifted (os : Os) (started : os.Started) (H : Type) (enc : TypeId × Value → H) (F : Stop.Interp) :
    ReturnsInHanded {} Tryd.checked os 7 .any ((Rows.OpenSpec.upto Rows.mvccPruneSpec).preRow enc Tryd.prog Tryd.f7 Rows.mvccPruneUptoRow.domain false Rows.mvccPruneUptoRow.laid) (((Rows.OpenSpec.upto Rows.mvccPruneSpec).at F).post enc Tryd.prog Tryd.f7 false true false false) := by
  obtain ⟨places, hx⟩ := reads os enc
  refine returnsInHanded_of_row (C := Tryd.checked) (s := Rows.OpenSpec.upto Rows.mvccPruneSpec) own started (by kernel_rfl) Tryd.func7
    (witness_row_atRef (enc := enc) (C := Tryd.checked) false ({ World.holding Tryd.prog os ⟨#[], #[], []⟩ with heap := putG (putG (putG (World.holding Tryd.prog os ⟨#[], #[], []⟩).heap 0 (intsOf Rows.laid_internal_strconv_uint64pow10)) 1 (intsOf Rows.laid_math_bits_deBruijn32tab)) 2 (intsOf Rows.laid_math_bits_deBruijn64tab) } : World) #[.agg #[.slice none 0 0, .int .u64 0, .int .u32 0, .int .u32 0, .string ⟨#[]⟩, .string ⟨#[]⟩, .slice none 0 0]] rfl (by kernel_rfl) (by kernel_rfl) (by kernel_rfl)
      (OpenSpec.preRow_of_cond 8 hx (by kernel_rfl) (fun k hk => by cases hk; kernel_rfl) (by kernel_rfl) (laid_met os _))) ?_
  intro W base args ds gs before hval hW _ hcond _ hL hsh _
  exact contract H enc W base args ds gs before hval hW (of_decide_eq_true (hcond _ rfl)) hL

theorem said : Rows.MvccPruneUptoSaid :=
  OpenClaim.holds_of_cond 7 Tryd.f7 rfl rfl rfl rfl rfl rfl rfl ⟨rfl, rfl, rfl, rfl, rfl⟩ rfl rfl rfl rfl rfl (by kernel_rfl) Tryd.func7 (by kernel_rfl)
    (of_decide_eq_true (by kernel_rfl)) (by unfold Func.isWrapper; first | (rw [if_pos (by decide +kernel)]; kernel_rfl) | (rw [if_neg (by decide +kernel)]; exact ⟨rfl, rfl⟩))
    (fun os started H enc _ F => by rw [OpenClaim.pre_eq_preRow]; exact lifted os started H enc F)

theorem plain (f : FuncId) (fn : Func) (hf : Tryd.pinned.checked.prog.funcNamed "tidemark/tidemarklaw9.MvccPrune" = some f) (hfn : Tryd.pinned.checked.prog.funcs[f]? = some fn) :
    false = Tryd.pinned.checked.prog.looks [] ∧ ∀ (j : Nat) t, fn.params[j]? = some t → Tryd.pinned.checked.prog.wantsStandIn t = false := by
  obtain rfl : f = 7 := Option.some.inj ((show Tryd.prog.funcNamed "tidemark/tidemarklaw9.MvccPrune" = some 7 by kernel_rfl).symm.trans hf) |>.symm
  obtain rfl : fn = Tryd.f7 := (Option.some.inj (Tryd.func7.symm.trans hfn)).symm
  refine ⟨by kernel_rfl, fun j t ht => ?_⟩
  rw [Tryd.params7] at ht
  obtain rfl : t = 31 := by simpa using Array.mem_of_getElem? ht
  exact (show Tryd.prog.wantsStandIn 31 = false by kernel_rfl)

theorem card : Rows.MvccPruneUptoCardSaid :=
  Claim7.holds_tied_plain_at .later [] _ _ _ _ said (fun _ h => by cases h) (by kernel_rfl) (fun _ h => by cases h) mvccPruneUpto_row_tie rfl ⟨rfl, rfl⟩ (by kernel_rfl) rfl plain (by kernel_rfl)
end Go.Proofs.YtaknkodjganacaaDoor.mvccPruneLast
namespace Go.Proofs.YtaknkodjganacaaDoor
theorem mvccPrune_holds : Rows.MvccPruneUptoCardSaid := mvccPruneLast.card
#print axioms mvccPrune_holds
end Go.Proofs.YtaknkodjganacaaDoor
