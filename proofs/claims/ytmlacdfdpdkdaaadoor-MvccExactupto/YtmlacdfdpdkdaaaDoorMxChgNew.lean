import Derived.Test.YtmlacdfdpdkdaaaDoorMxAskNone
import Derived.Test.YtmlacdfdpdkdaaaDoorMxPlain
import Derived.Test.YtmlacdfdpdkdaaaDoorVSameV
import Derived.Test.YtmlacdfdpdkdaaaDoorVLen
import Derived.Test.YtmlacdfdpdkdaaaDoorRvAbove
import Derived.Deep.RegionWith
/- What a change leaves; two calls that change, one behind the other. -/
namespace Go.Proofs.YtmlacdfdpdkdaaaDoor.Bg
open Go.RowKit Go.Sort Go.Proofs.YtmlacdfdpdkdaaaDoor Go.Proofs.YtmlacdfdpdkdaaaDoor.Vs
set_option linter.unusedVariables false

/-- what a change leaves -/
def Ch (W w : World) (b m n : Nat) : Prop := ∃ x, Sx W w b x m ∧ Eqs x n
theorem Ch.later {W w w' : World} {b m n : Nat} (h : Ch W w b m n) (hb : Below w.heap.size w w') : Ch W w' b m n := by
  obtain ⟨x, h1, h2⟩ := h
  exact ⟨x, h1.later hb, h2⟩
theorem Eqs.mono {x : Sv} {n n' : Nat} (h : Eqs x n) (hn : n ≤ n') : Eqs x n' := ⟨h.m, h.k, fun j hj => Nat.le_trans (h.c j hj) hn, h.ok⟩
abbrev Sv.put (x : Sv) (j : Nat) (p r : Nat) (F : Nat → Prop) (v : Value) (M : Mst) (k : Sp) : Sv := { x with p := upd x.p j p, r := upd x.r j r, F := upd x.F j F, v := upd x.v j v, M := upd x.M j M, N := upd x.N j M, kp := upd x.kp j k, kr := upd x.kr j k }
theorem Eqs.put {x : Sv} {n n' j : Nat} (h : Eqs x n) {p r : Nat} {F : Nat → Prop} {v : Value} {M : Mst} {k : Sp} (hn : n ≤ n') (hc : countM M ≤ n') (ho : OkM M) : Eqs (x.put j p r F v M k) n' := by
  refine ⟨?_, ?_, fun i hi => ?_, fun i hi => ?_⟩
  · show upd x.N j M = upd x.M j M; rw [h.m]
  · show upd x.kr j k = upd x.kp j k; rw [h.k]
  · show countM (upd x.M j M i) ≤ n'
    unfold upd
    split
    · exact hc
    · exact Nat.le_trans (h.c i hi) hn
  · show OkM (upd x.M j M i)
    unfold upd
    split
    · exact ho
    · exact h.ok i hi
theorem St.pair {W wr : World} {c : Nat → Nat} {b m j : Nat} {x : Sv} (h : St W wr c b x m) (hj : j < 2) {f1 f2 : FuncId} {a1 a2 : Array Value} {e1 : Value} {M' : Mst} {k' : Sp}
    (H1 : ∀ w1, Below wr.heap.size wr w1 → Calls Tryd.prog f1 a1 w1 fun e w' => e = .returned e1 ∧ ∃ F', Sto F' w' (x.p j) M' k' ∧ (∀ k, F' k → x.F j k ∨ w1.heap.size ≤ k) ∧ Onl (x.F j) w1 w')
    (H2 : ∀ w2, Onl (x.F j) wr w2 → Below W.heap.size W w2 → Rs w2 W.heap.size (x.r j) (x.v j) (dumpM (x.N j)) (x.kr j) → Calls Tryd.prog f2 a2 w2 fun e w' => e = .returned e1 ∧ ∃ v', Rs w' W.heap.size (x.r j) v' (dumpM M') k' ∧ (∀ k, RsB (x.r j) v' k → RsB (x.r j) (x.v j) k ∨ w2.heap.size ≤ k) ∧ Onl (fun k => k = x.r j) w2 w') :
    ∀ w1, Below wr.heap.size wr w1 → Calls Tryd.prog f1 a1 w1 fun e w' => e = .returned e1 ∧ Hid (Onl (fun k => x.F j k ∨ k = x.r j) wr w') ∧ Hid (∀ w2, Below w'.heap.size w' w2 → Calls Tryd.prog f2 a2 w2 fun e w'' => e = .returned e1 ∧ Hid (Onl (fun k => x.F j k ∨ k = x.r j) wr w'') ∧
      Hid (∃ c' F' v', St W w'' c' b (x.put j (x.p j) (x.r j) F' v' M' k') m ∧ ∀ k, k < wr.heap.size → ¬ (x.F j k ∨ k = x.r j) → c' k = c k)) := by
  intro w1 hb1
  obtain ⟨c1, h1, hc1, _⟩ := h.later hb1 (fun _ => 22)
  refine (H1 w1 hb1).mono ?_
  rintro e w' ⟨rfl, F', hs, hF, ho⟩
  have hO : Onl (x.F j) wr w' := (Onl.of_below hb1).trans ho
  obtain ⟨c2, h2, hc2⟩ := h1.pfy hj hs hF ho
  refine ⟨rfl, hO.mono fun k hk => .inl hk, fun w2 hb2 => ?_⟩
  obtain ⟨c3, h3, hc3, _⟩ := h2.later hb2 (fun _ => 22)
  have hO2 : Onl (x.F j) wr w2 := hO.on hb2
  refine (H2 w2 hO2 h3.bl (h3.rs j hj)).mono ?_
  rintro e w3 ⟨rfl, v', hr, hR, hor⟩
  obtain ⟨c4, h4, hc4⟩ := h3.rfy hj hr hR hor
  refine ⟨rfl, (hO2.mono fun k hk => .inl hk).trans (hor.mono fun k hk => .inr hk), c4, F', v', ?_, fun k hk hn => ?_⟩
  · have e : x.put j (x.p j) (x.r j) F' v' M' k' = { x with F := upd x.F j F', v := upd x.v j v', M := upd x.M j M', N := upd x.N j M', kp := upd x.kp j k', kr := upd x.kr j k' } := by
      unfold Sv.put
      rw [upd_self, upd_self]
    rw [e]
    exact h4
  · have hk1 := Nat.lt_of_lt_of_le hk hb1.size
    have hk2 := Nat.lt_of_lt_of_le hk hO.size
    rw [hc4 k (Nat.lt_of_lt_of_le hk2 hb2.size) (fun e => hn (.inr e)), hc3 k hk2, hc2 k hk1 (fun e => hn (.inl e)), hc1 k hk]
theorem rd_of_rowV {w : World} {a : Option Addr} {l : List Kv} {c : Nat} (h : RowV w a l) : Rd elV w (.slice a l.length c) l := by
  refine ⟨a, c, rfl, fun j u hj => ?_⟩
  have hl := okV.flat_len l
  have hj1 : j < l.length * 6 := by
    have := (List.getElem?_eq_some_iff.1 hj).1
    rw [hl] at this; exact this
  have hi : j / 6 < l.length := by omega
  have ho : j % 6 < 6 := by omega
  obtain ⟨b, off, e, hc⟩ := h (j / 6) hi
  refine ⟨b, off, e, ?_⟩
  have hg := okV.flat_get l (j / 6) (j % 6) (nthK l (j / 6)) (by rw [nthK_get hi]; exact List.getElem?_eq_getElem hi) ho
  have ej : j / 6 * elV.k + j % 6 = j := by show j / 6 * 6 + j % 6 = j; omega
  rw [ej, hj] at hg
  have e2 : off + j = off + j / 6 * 6 + j % 6 := by omega
  rw [e2]
  generalize j % 6 = o at hg ho ⊢
  match o, ho, hg with
  | 0, _, hg => injection hg with hg; subst hg; exact hc.c0
  | 1, _, hg => injection hg with hg; subst hg; exact hc.c1
  | 2, _, hg => injection hg with hg; subst hg; exact hc.c2
  | 3, _, hg => injection hg with hg; subst hg; exact hc.c3
  | 4, _, hg => injection hg with hg; subst hg; exact hc.c4
  | 5, _, hg => injection hg with hg; subst hg; exact hc.c5
theorem Sto.aside {F : Nat → Prop} {w w' : World} {p g : Nat} {M : Mst} {mk : Sp} (h : Sto F w p M mk) (ho : Onl (fun k => k = g) w w') (ht : Typ 76 w g) (hF : ¬ F g) : Sto F w' p M mk := by
  refine Sto.keepK h (Kp.of_onl ho fun k cs t z hk hb => ?_) (fun k hk => ho.block k (h.lt hk) (fun e => hF (e ▸ hk)))
  obtain ⟨cs', hc⟩ := ht
  subst hk
  rw [hc] at hb; cases hb
  exact ixV
end Go.Proofs.YtmlacdfdpdkdaaaDoor.Bg
/- The law's changes: new. -/
namespace Go.Proofs.YtmlacdfdpdkdaaaDoor.Bg
open Go.RowKit Go.Sort Go.Proofs.YtmlacdfdpdkdaaaDoor Go.Proofs.YtmlacdfdpdkdaaaDoor.Vs
set_option linter.unusedVariables false

set_option maxRecDepth 8000 in
set_option maxHeartbeats 4000000 in
theorem chg_new {W w : World} {b m n j : Nat} {x : Sv} (hP : PowTab W) (h : Sx W w b x m) (hx : Eqs x n) (s : Sc) (hn : n + s.ws.length + s.vs.length ≤ 1048576) (hw : RowW W s.wa s.ws) (hv : RowV W s.va s.vs) (ht : s.t.a ≤ 18446744073709551615) (hvs : ∀ e ∈ s.vs, e.2.s.a ≤ 18446744073709551615) (hj : j < 2) (hb : bits BinOp.and IntKind.i64 s.o 1 = (j : Int)) (hk : s.k = 1) :
    Calls Tryd.prog 9 #[pt b, .agg s.cells] w fun e w' => e = .returned (.bool true) ∧ Hid (Ch W w' b m (n + s.ws.length + s.vs.length)) := by
  obtain ⟨wb, hwb⟩ : ∃ wb, wb = w.alloc (.cells s.cells 58) := ⟨_, rfl⟩
  have hbb : Below w.heap.size w wb := by rw [hwb]; exact Below.al (Below.refl _ _) _
  obtain ⟨q, hq⟩ : ∃ q, q = w.heap.size := ⟨_, rfl⟩
  have HX := hid hx
  obtain ⟨c, s0, z0, h, hcq⟩ : ∃ c s0 z0, St W wb c b { x with s := s0, z := z0 } m ∧ c q = 22 := by
    obtain ⟨c0, s0, z0, h0⟩ := h
    obtain ⟨c, h1, _, h2⟩ := h0.later hbb (fun _ => 22)
    refine ⟨c, s0, z0, h1, h2 q (by omega) ?_⟩
    have hbx : wb.heap[w.heap.size]? = some (.cells s.cells 58 (0, 0)) := by rw [hwb]; exact World.alloc_heap_new _ _
    rw [hq]
    exact not_ixB hbx (fun h => by rcases h with h | h | h <;> exact absurd h (by decide))
  have HS := hid h
  have HCQ := hid hcq
  obtain ⟨x0, x1, x2, x3, x4, x5, x6, x7, x8⟩ := Bx.of s hwb
  rw [← hq] at x0 x1 x2 x3 x4 x5 x6 x7 x8
  have y0 := h.cp j hj
  have y1 := h.cq j hj
  have hcj := hx.c j hj
  have hst := h.st j hj
  have hrs := h.rs j hj
  have hgd := hst.good
  simp only [hx.m, hx.k] at hst hrs hgd y0 y1
  have hx' : Eqs { x with s := s0, z := z0 } n := ⟨hx.m, hx.k, hx.c, hx.ok⟩
  have NW : Hid (∀ w1, Below wb.heap.size wb w1 → Calls Tryd.prog 4 #[] w1 fun e w' => ∃ p', e = .returned (pt p') ∧ w'.cell? ⟨b, j, none⟩ = some (pt (x.p j)) ∧ w'.frozen? ⟨b, j, none⟩ = false ∧ Hid (∀ w3, Below (w'.setCell ⟨b, j, none⟩ (pt p')).heap.size (w'.setCell ⟨b, j, none⟩ (pt p')) w3 → Calls Tryd.prog 7 #[] w3 fun e w4 => ∃ r', e = .returned (pt r') ∧ w4.cell? ⟨b, 2 + j, none⟩ = some (pt (x.r j)) ∧ w4.frozen? ⟨b, 2 + j, none⟩ = false ∧ w4.cell? ⟨b, j, none⟩ = some (pt p') ∧ Hid (Ch W (w4.setCell ⟨b, 2 + j, none⟩ (pt r')) b m (n + s.ws.length + s.vs.length)))) := by
    intro w1 hb1
    refine (stonew_is w1).mono ?_
    rintro e w' ⟨p', F', rfl, hs, hF, hb'⟩
    obtain ⟨c1, h1, ho1, hn1⟩ := h.later (Below.on hb1 hb') (fun _ => j)
    have h2 := h1.pset hj hs (fun k hk => ⟨hn1 k (Nat.le_trans hb1.size (hF k hk)) (Sto.not_ix hs hk), Nat.le_trans h.bl.size (Nat.le_trans hb1.size (hF k hk))⟩)
    refine ⟨p', rfl, h1.cp j hj, h1.obj.loose _, fun w3 hb3 => ?_⟩
    refine (rnew_is w3).mono ?_
    rintro e w4 ⟨rfl, hr, hb4⟩
    obtain ⟨c3, h3, ho3, hn3⟩ := h2.later (Below.on hb3 hb4) (fun _ => 2 + j)
    have hW3 : W.heap.size ≤ w3.heap.size := Nat.le_trans h2.bl.size hb3.size
    have hr' : Rs w4 W.heap.size w3.heap.size (.slice none 0 0) (dumpM []) ⟨0, 0, 0⟩ := ⟨hr.blk, OwnV.base hr.row hW3, hr.ne⟩
    have h4 := h3.rset hj hr' (fun k hk => hn3 k (by
      rcases hk with rfl | hk
      · exact hb3.size
      · cases hk) (Rs.not_ix hr hk)) hW3
    have h5 := h3.cp j hj
    simp only [upd_same] at h5
    exact ⟨_, rfl, h3.cq j hj, h3.obj.loose _, h5, _, h4.sx, hx'.put (by omega) (Nat.zero_le _) OkM.nil⟩
  generalize x.p j = pj at y0 NW
  generalize x.r j = rj at y1 NW
  clear hx'
  have HWB := hid hwb
  have HQ := hid hq
  have HPT := hid hP
  have HW := hid hw
  have HV := hid hv
  have HT := hid ht
  have HVS := hid hvs
  have HNN := hid hn
  clear h hx hbb hq hwb hst hrs hgd hcq hP hw hv ht hvs
  rw [hk] at x0
  go_enter Tryd.func9, Tryd.ntmps9
  go_upto_region 1 with fail
  rw [← HWB.out, ← HQ.out]
  have hJ : (j : Int) < 2 := by omega
  go_wp2_with fail
  go_region_with ((go_at_call 4; refine (NW.out _ (by (repeat (first | with_reducible exact Below.refl _ _ | with_reducible assumption | with_reducible refine Below.drew ?_ | with_reducible refine Below.al ?_ _ | with_reducible refine Below.setCell ?_ (by first | exact Nat.le_refl _ | (simp; omega) | (simp; done)) _ | with_reducible refine Below.on ?_ (by assumption))))).mono ?_; rintro e w1 ⟨p', rfl, u0, u1, HK⟩))
  all_goals (try go_wp2_with fail)
  all_goals go_region_with ((go_at_call 7; refine (HK.out _ (by (repeat (first | with_reducible exact Below.refl _ _ | with_reducible assumption | with_reducible refine Below.drew ?_ | with_reducible refine Below.al ?_ _ | with_reducible refine Below.setCell ?_ (by first | exact Nat.le_refl _ | (simp; omega) | (simp; done)) _ | with_reducible refine Below.on ?_ (by assumption))))).mono ?_; rintro e w4 ⟨r', rfl, u2, u3, u4, HC⟩; have u5 : (w4.setCell ⟨b, 2 + j, none⟩ (pt r')).cell? ⟨b, j, none⟩ = some (pt p') := (World.cell?_setCell_other _ _ _ _ (cell_ne (by omega))).trans u4))
  all_goals (try go_wp2_with fail)
  all_goals go_ret
  all_goals exact ⟨rfl, HC⟩
end Go.Proofs.YtmlacdfdpdkdaaaDoor.Bg
