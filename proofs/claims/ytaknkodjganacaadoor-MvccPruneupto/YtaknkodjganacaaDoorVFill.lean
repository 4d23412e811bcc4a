import Derived.Test.YtaknkodjganacaaDoorVPt
import Derived.Test.YtaknkodjganacaaDoorVRoom
/- fill: two stores with the same Installs. -/
namespace Go.Proofs.YtaknkodjganacaaDoor.Vs
open Go.RowKit Go.Sort
set_option linter.unusedVariables false

def fillM (ps : List Pt) : Mst := ps.foldl (fun M q => instR M q.ws q.t) []
theorem fillM_next {ps : List Pt} {i : Nat} (h : i < ps.length) : fillM (ps.take (i + 1)) = instR (fillM (ps.take i)) (nthT ps i).ws (nthT ps i).t := by
  rw [nthT_take h]; simp [fillM]
/-- two stores apart -/
structure FiM (w W : World) (F G : Nat → Prop) (p q : Nat) (M N : Mst) : Prop where
  a : Sto F W p M ⟨0, 0, 0⟩
  b : Sto G W q N ⟨0, 0, 0⟩
  dis : ∀ x, F x → ¬ G x
  la : ∀ x, F x → w.heap.size ≤ x
  lb : ∀ x, G x → w.heap.size ≤ x
  bl : Below w.heap.size w W
theorem FiM.later {w W W' : World} {F G : Nat → Prop} {p q : Nat} {M N : Mst} (h : FiM w W F G p q M N) (hb : Below W.heap.size W W') : FiM w W' F G p q M N :=
  ⟨h.a.later hb, h.b.later hb, h.dis, h.la, h.lb, Below.on h.bl hb⟩
theorem fill_a {w W W' : World} {F G : Nat → Prop} {p q g n c : Nat} {M N : Mst} {ws : List Wr} {t : Sp} (h : FiM w W F G p q M N) (hb : Below W.heap.size W W') (hr : RowW W' (some ⟨g, 0, none⟩) ws) (hg : W.heap.size ≤ g) (hn : n = ws.length) (hl : ws.length ≤ 1048576) (hc : countM M ≤ 1048576) :
    Calls Tryd.prog 9 #[pt p, .slice (some ⟨g, 0, none⟩) n c, sv t] W' fun e w2 => e = .returned (.int .i64 (instE M ws t)) ∧ (∃ F', FiM w w2 F' G p q (instR M ws t) N) ∧ Below w.heap.size w w2 := by
  subst hn
  have h' := h.later hb
  refine (install_is (c := c) t h'.a hr (fun b off e hf => ?_) (by omega) (by omega)).mono ?_
  · injection e with e; injection e with e1 _
    subst e1
    have := h.a.lt hf
    omega
  · rintro e w2 ⟨he, F', hs, hf, ho⟩
    have hbl := h'.bl.trans (ho.below h'.la h'.bl.size)
    refine ⟨he, ⟨F', hs, h'.b.other h'.a ho (fun x hx hf => h'.dis x hf hx), fun x hx hx' => ?_, fun x hx => (hf x hx).elim (h'.la x) (fun k => Nat.le_trans h'.bl.size k), h'.lb, hbl⟩, hbl⟩
    rcases hf x hx with k | k
    · exact h'.dis x k hx'
    · exact Nat.lt_irrefl _ (Nat.lt_of_lt_of_le (h'.b.lt hx') k)
theorem fill_b {w W W' : World} {F G : Nat → Prop} {p q g n c : Nat} {M N : Mst} {ws : List Wr} {t : Sp} (h : FiM w W F G p q M N) (hb : Below W.heap.size W W') (hr : RowW W' (some ⟨g, 0, none⟩) ws) (hg : W.heap.size ≤ g) (hn : n = ws.length) (hl : ws.length ≤ 1048576) (hc : countM N ≤ 1048576) :
    Calls Tryd.prog 9 #[pt q, .slice (some ⟨g, 0, none⟩) n c, sv t] W' fun e w2 => e = .returned (.int .i64 (instE N ws t)) ∧ (∃ G', FiM w w2 F G' p q M (instR N ws t)) ∧ Below w.heap.size w w2 := by
  subst hn
  have h' := h.later hb
  refine (install_is (c := c) t h'.b hr (fun b off e hf => ?_) (by omega) (by omega)).mono ?_
  · injection e with e; injection e with e1 _
    subst e1
    have := h.b.lt hf
    omega
  · rintro e w2 ⟨he, G', hs, hf, ho⟩
    have hbl := h'.bl.trans (ho.below h'.lb h'.bl.size)
    refine ⟨he, ⟨G', h'.a.other h'.b ho h'.dis, hs, fun x hx hx' => ?_, h'.la, fun x hx => (hf x hx).elim (h'.lb x) (fun k => Nat.le_trans h'.bl.size k), hbl⟩, hbl⟩
    rcases hf x hx' with k | k
    · exact h'.dis x hx k
    · exact Nat.lt_irrefl _ (Nat.lt_of_lt_of_le (h'.a.lt hx) k)

set_option maxHeartbeats 4000000 in
set_option maxRecDepth 16000 in
theorem fill_is {w : World} {a : Option Addr} {c : Nat} {ps : List Pt} (h : RowT w a ps) (hl : ps.length ≤ 1048576) (hsum : sumT ps ≤ 1048576) (ht : PowTab w) :
    Calls Tryd.prog 8 #[.slice a ps.length c] w fun e w' => ∃ p q F G, e = .returned (.tuple #[pt p, pt q]) ∧ Hid (FiM w w' F G p q (fillM ps) (fillM ps) ∧ OkM (fillM ps) ∧ countM (fillM ps) ≤ 1048576) ∧ Below w.heap.size w w' := by
  obtain ⟨n, hn⟩ : ∃ n, n = ps.length := ⟨_, rfl⟩
  have HA := hid (show RowT w a ps ∧ PowTab w ∧ n = ps.length ∧ sumT ps ≤ 1048576 from ⟨h, ht, hn, hsum⟩)
  have NW := hid (fun W => stonew_is W)
  rw [← hn] at hl ⊢
  clear h ht hsum hn
  go_enter Tryd.func8, Tryd.ntmps8
  go_wp2_with (first
    | (go_at_call 17; refine (NW.out w1).mono ?_; rintro e w2 ⟨q, G0, rfl, s2, g2, hb2⟩; have HS2 := hid s2; have HG2 := hid g2; have HB2 := hid hb2; clear s2 g2 hb2)
    | (go_at_call 17; refine (NW.out w).mono ?_; rintro e w1 ⟨p, F0, rfl, s1, f1, hb1⟩; have HS1 := hid s1; have HF1 := hid f1; have HB1 := hid hb1; clear s1 f1 hb1))
  have HI2 : Hid (FiM w w2 F0 G0 p q (fillM (ps.take 0)) (fillM (ps.take 0)) ∧ OkM (fillM (ps.take 0)) ∧ countM (fillM (ps.take 0)) ≤ sumT (ps.take 0)) :=
    ⟨⟨HS1.out.later HB2.out, HS2.out, fun x hx hx' => Nat.lt_irrefl _ (Nat.lt_of_lt_of_le (HS1.out.lt hx) (HG2.out x hx')), HF1.out, fun x hx => Nat.le_trans HB1.out.size (HG2.out x hx), Below.on HB1.out HB2.out⟩, OkM.nil, by simp [fillM, countM]⟩
  clear HS1 HF1 HB1 HS2 HG2 HB2 NW
  go_loopg [6] n (fun g s6 wr => ∃ i : Nat, i ≤ n ∧ g = n - i ∧ s6 = .int .i64 i ∧ ∃ (F G : Nat → Prop), Hid (FiM w wr F G p q (fillM (ps.take i)) (fillM (ps.take i)) ∧ OkM (fillM (ps.take i)) ∧ countM (fillM (ps.take i)) ≤ sumT (ps.take i)))
  case atStart => exact ⟨0, by omega, by omega, rfl, F0, G0, HI2⟩
  case round =>
    obtain ⟨i, hin, rfl, rfl, F, G, HI⟩ := hrel
    clear HI2
    by_cases hlt : i < n
    · obtain ⟨b, off, hab, c0, c1, c2, c3, hrx, hwl, htn⟩ := HA.out.1 i (by rw [← HA.out.2.2.1]; exact hlt)
      have hsn := sumT_next (ps := ps) (i := i) (by rw [← HA.out.2.2.1]; exact hlt)
      have hfn := fillM_next (ps := ps) (i := i) (by rw [← HA.out.2.2.1]; exact hlt)
      obtain ⟨qq, hq⟩ : ∃ q, q = nthT ps i := ⟨_, rfl⟩
      rw [← hq] at c0 c1 c2 c3 hrx hwl htn hsn hfn
      subst hab
      obtain ⟨qa, qc, ws, t⟩ := qq
      simp only at c0 c1 c2 c3 hrx hwl htn hsn hfn
      obtain ⟨M, hM⟩ : ∃ M, M = fillM (ps.take i) := ⟨_, rfl⟩
      rw [← hM] at hfn HI
      obtain ⟨k, hk⟩ : ∃ k, k = ws.length := ⟨_, rfl⟩
      rw [← hk] at c0
      have hcn : countM M ≤ 1048576 := Nat.le_trans HI.out.2.2 (Nat.le_trans (sumT_mono ps i) HA.out.2.2.2)
      have RM : Hid (∀ W, Below w.heap.size w W → Calls Tryd.prog 18 #[.slice qa k qc] W fun e w' => ∃ g, e = .returned (.slice (some ⟨g, 0, none⟩) k (k + 3)) ∧ Hid (RowW w' (some ⟨g, 0, none⟩) ws ∧ W.heap.size ≤ g) ∧ Below W.heap.size W w') := fun W hb => by
        rw [hk]
        exact (roomy_is (c := qc) (hrx.later hb) (by omega) (HA.out.2.1.later hb)).mono fun e w' ⟨g, he, hr⟩ => ⟨g, he, ⟨hr.row, hr.low⟩, hr.bl⟩
      have IA : Hid (∀ W0 W g, Below wr.heap.size wr W0 → Below W0.heap.size W0 W → RowW W (some ⟨g, 0, none⟩) ws ∧ W0.heap.size ≤ g → _) := fun W0 W g hb0 hb hr => fill_a (t := t) (c := k + 3) HI.out.1 (Below.on hb0 hb) hr.1 (Nat.le_trans hb0.size hr.2) hk hwl hcn
      have IB : Hid (∀ F' W5 W0 W g, FiM w W5 F' G p q (instR M ws t) M → Below W5.heap.size W5 W0 → Below W0.heap.size W0 W → RowW W (some ⟨g, 0, none⟩) ws ∧ W0.heap.size ≤ g → _) := fun F' W5 W0 W g h5 hb0 hb hr => fill_b (t := t) (c := k + 3) h5 (Below.on hb0 hb) hr.1 (Nat.le_trans hb0.size hr.2) hk hwl hcn
      have HC : Hid (w.cell? ⟨b, off + i * 4, none⟩ = some (.slice qa k qc) ∧ w.cell? ⟨b, off + i * 4 + 1, none⟩ = some (.int .u64 t.a) ∧ w.cell? ⟨b, off + i * 4 + 2, none⟩ = some (.int .u32 t.b) ∧ w.cell? ⟨b, off + i * 4 + 3, none⟩ = some (.int .u32 t.c)) := ⟨c0, c1, c2, c3⟩
      have HFN := hid hfn
      have HSN := hid hsn
      have HBW := HI.out.1.bl
      have c0 := cell_later HBW c0
      have c1 := cell_later HBW c1
      have c2 := cell_later HBW c2
      have c3 := cell_later HBW c3
      obtain ⟨e0, he0⟩ : ∃ e, e = instE M ws t := ⟨_, rfl⟩
      rw [← he0] at IA IB
      have hne : (e0 != e0) = false := by simp
      clear hM hq hrx hwl htn hfn hsn hcn he0 hk
      go_wp2_with fail
      go_region_held3 (fun w' => w'.cell? ⟨b, off + i * 4, none⟩ = some (.slice qa k qc) ∧ w'.cell? ⟨b, off + i * 4 + 1, none⟩ = some (.int .u64 t.a) ∧ w'.cell? ⟨b, off + i * 4 + 2, none⟩ = some (.int .u32 t.b) ∧ w'.cell? ⟨b, off + i * 4 + 3, none⟩ = some (.int .u32 t.c) ∧ Below w.heap.size w w')
        ((refine (fun (hB : Below w.heap.size w _) => ⟨cell_later hB HC.out.1, cell_later hB HC.out.2.1, cell_later hB HC.out.2.2.1, cell_later hB HC.out.2.2.2, hB⟩) ?_; (repeat (first | exact Below.refl _ _ | assumption | refine Below.drew ?_ | refine Below.al ?_ _ | refine Below.setCell ?_ (by first | exact Nat.le_refl _ | (simp; omega) | (simp; done)) _ | refine Below.on ?_ (by assumption)))))
        (first
          | (go_at_call 9; refine (IB.out F' w5 _ w6 g6 HM5.out (by (repeat (first | exact Below.refl _ _ | assumption | refine Below.drew ?_ | refine Below.al ?_ _ | refine Below.setCell ?_ (by first | exact Nat.le_refl _ | (simp; omega) | (simp; done)) _ | refine Below.on ?_ (by assumption)))) hb6 HR6.out).mono ?_; rintro e w7 ⟨rfl, hM7, hbl7⟩; have HM7 := hid hM7)
          | (go_at_call 18; refine (RM.out _ (Below.on hbl5 (by (repeat (first | exact Below.refl _ _ | assumption | refine Below.drew ?_ | refine Below.al ?_ _ | refine Below.setCell ?_ (by first | exact Nat.le_refl _ | (simp; omega) | (simp; done)) _ | refine Below.on ?_ (by assumption)))))).mono ?_; rintro e w6 ⟨g6, rfl, HR6, hb6⟩)
          | (go_at_call 9; refine (IA.out _ w4 g4 (by (repeat (first | exact Below.refl _ _ | assumption | refine Below.drew ?_ | refine Below.al ?_ _ | refine Below.setCell ?_ (by first | exact Nat.le_refl _ | (simp; omega) | (simp; done)) _ | refine Below.on ?_ (by assumption)))) hb4 HR4.out).mono ?_; rintro e w5 ⟨rfl, ⟨F', hM5⟩, hbl5⟩; have HM5 := hid hM5)
          | (go_at_call 18; refine (RM.out _ (by (repeat (first | exact Below.refl _ _ | assumption | refine Below.drew ?_ | refine Below.al ?_ _ | refine Below.setCell ?_ (by first | exact Nat.le_refl _ | (simp; omega) | (simp; done)) _ | refine Below.on ?_ (by assumption))))).mono ?_; rintro e w4 ⟨g4, rfl, HR4, hb4⟩))
      go_wp2_with fail
      go_roundg (n - (i + 1))
      case measure => omega
      case rel =>
        obtain ⟨G', h7⟩ := HM7.out
        refine ⟨i + 1, by omega, rfl, by go_num, F', G', ?_, ?_, ?_⟩
        · rw [HFN.out]; exact h7
        · rw [HFN.out]; exact instR_mem HI.out.2.1 HI.out.1.a.good.rising _ _
        · rw [HFN.out, HSN.out]; have h1 := (instR_len HI.out.1.a.good.rising ws t).1; have h2 := HI.out.2.2; omega
    · obtain rfl : i = n := by omega
      go_wp2_with fail
      have hw : ps.take i = ps := by rw [HA.out.2.2.1, List.take_of_length_le (Nat.le_refl _)]
      have HI' := HI.out
      rw [hw] at HI'
      refine bodyPost_ret (v := .tuple #[pt p, pt q]) (by simp [results, Tryd.results8, go_sem]) rfl ⟨p, q, F, G, rfl, ⟨HI'.1, HI'.2.1, Nat.le_trans HI'.2.2 HA.out.2.2.2⟩, HI'.1.bl⟩
end Go.Proofs.YtaknkodjganacaaDoor.Vs
