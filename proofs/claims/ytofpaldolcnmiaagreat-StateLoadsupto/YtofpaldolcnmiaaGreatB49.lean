import Derived.Test.YtofpaldolcnmiaaGreatB48
set_option linter.unusedVariables false
namespace Go.Proofs.YtofpaldolcnmiaaGreat.Ig
open Go.Proofs.YtofpaldolcnmiaaGreat Ys
theorem vb10 {v : Nat} (h : v < 18446744073709551616) : (vb v).length ≤ 10 := by
 have := vb_len v 0 (by decide) (by unfold lim; omega); omega
theorem eU_le {m : Nat} (hm : m ≤ 18446744073709551615) {v : Int} (h : okU m v) : (eU v).length ≤ 10 := vb10 (by have := h.1; have := h.2; omega)
theorem eX_le {s : ByteArray} {m : Nat} (hm : m ≤ 1000) (h : okX m s) : (eX s).length ≤ m + 10 := by
 have h1 : s.size ≤ m := h; have h2 : (nums s).length = s.size := nln s; have h3 := vb10 (v := (nums s).length) (by omega); unfold eX eText; rw [List.length_append]; omega
theorem flat_le {α : Type} {e : α → List Nat} {K : Nat} : ∀ {l : List α}, (∀ x ∈ l, (e x).length ≤ K) → (l.flatMap e).length ≤ K * l.length
 | [], _ => by simp
 | x :: l, h => by
  have h1 := flat_le (l := l) (e := e) (K := K) fun y hy => h y (by simp [hy])
  have h2 := h x (by simp); rw [List.flatMap_cons, List.length_append, List.length_cons, Nat.mul_add, Nat.mul_one]; omega
theorem eL_le {α : Type} {e : α → List Nat} {K : Nat} {l : List α} (h : ∀ x ∈ l, (e x).length ≤ K) (hl : l.length < 18446744073709551616) : (eL e l).length ≤ 10 + K * l.length := by
 have h1 := flat_le h; have h2 := vb10 hl; unfold eL; rw [List.length_append]; omega
theorem eTxn_le {i : Lk.Ix × Int} (h : okTxn i) : (eTxn i).length ≤ 30 := by
 have h1 := eU_le (by decide) h.1; have h2 := eU_le (by decide) h.2.1; have h3 := eU_le (by decide) h.2.2; show (eU i.1.1 ++ (eU i.1.2 ++ eU i.2)).length ≤ 30
 simp only [List.length_append]; omega
theorem eHeld_le {h : Lk.Hd} (ho : okHeld h) (h1 : h.rs.length ≤ 16) (h2 : h.ws.length ≤ 16) : (eHeld h).length ≤ 4000 := by
 have q1 := eTxn_le ho.1; have q2 := eS_len (atHd h); have q3 := eL_le (e := eSpan) (K := 86) (l := h.rs) (fun x hx => by
  have := ho.2.2.1.1 x hx; have a1 := eX_le (by decide) this.1; have a2 := eX_le (by decide) this.2; show (eX x.1 ++ eX x.2).length ≤ 86
  rw [List.length_append]; omega) (by omega)
 have q4 := eL_le (e := eWrite) (K := 120) (l := h.ws) (fun x hx => by
  have := ho.2.2.2.1 x hx; have a1 := eX_le (by decide) this.1; have a2 := eX_le (by decide) this.2; have a3 : (eFlag x.del).length = 1 := rfl; show (eX x.key ++ (eFlag x.del ++ eX x.val)).length ≤ 120
  simp only [List.length_append]; omega) (by omega)
 show (eTxn (h.id, h.home) ++ (eS (atHd h) ++ (eL eSpan h.rs ++ eL eWrite h.ws))).length ≤ 4000
 simp only [List.length_append]; omega
theorem eEntry_le {e : Lg.En} (ho : okEntry e) : (eEntry e).length ≤ 100 := by
 have q1 := eTxn_le ho.1; have q2 := eS_len (atEn e); have q3 : (eB e.oc).length = 1 := rfl; show (eTxn (e.id, e.home) ++ (eB e.oc ++ eS (atEn e))).length ≤ 100
 simp only [List.length_append]; omega
theorem eVersion_le {e : Vs.Kv} (ho : okVersion e) : (eVersion e).length ≤ 200 := by
 have q1 := eX_le (by decide) ho.1; have q2 := eS_len e.2.s; have q3 : (eFlag e.2.del).length = 1 := rfl; have q4 := eX_le (by decide) ho.2.2; show (eX e.1 ++ (eS e.2.s ++ (eFlag e.2.del ++ eX e.2.val))).length ≤ 200
 simp only [List.length_append]; omega
theorem held_short {h : Lk.Hd} (he : (rgP h).err = 0) : h.rs.length ≤ 16 ∧ h.ws.length ≤ 16 := by
 obtain ⟨h1, h2, _⟩ := rules_2 (err_valid he) rfl; exact ⟨h1, Vs.writes_len h2⟩
def FairD {α : Type} (N : Nat) (t : Ds → α × Ds) (ok : α → Prop) : Prop :=
 ∀ s, B8 s → s.length ≤ N → ok (t (.at s)).1 ∧ ∃ r, (t (.at s)).2 = .at r ∧ B8 r ∧ r.length ≤ s.length ∧ (s ≠ [] → r.length < s.length)
section
variable {α β : Type} {N : Nat} {t : Ds → α × Ds} {u : Ds → β × Ds} {a : α → Prop} {b : β → Prop}
theorem FairD.pair (h : FairD N t a) (k : FairD N u b) : FairD N (tP t u) (okP a b) := fun s hs hn => by
 obtain ⟨h1, r, h2, h3, h4, h5⟩ := h s hs hn; obtain ⟨k1, r2, k2, k3, k4, k5⟩ := k r h3 (by omega); unfold tP okP; simp only [h2]; exact ⟨⟨h1, k1⟩, r2, k2, k3, by omega, fun e => by have := h5 e; omega⟩
theorem FairD.told (h : FairD N t a) (g : α → β) (hg : ∀ x, a x → b (g x)) : FairD N (tM g t) b := fun s hs hn => by
 obtain ⟨h1, h2⟩ := h s hs hn; exact ⟨hg _ h1, h2⟩
theorem FairD.tn (h : FairD N t a) : ∀ (n : Nat) (s : List Nat), B8 s → s.length ≤ N → (∀ x ∈ (tN t n (.at s)).1, a x) ∧ (tN t n (.at s)).1.length ≤ s.length ∧ ∃ r, (tN t n (.at s)).2 = .at r ∧ B8 r ∧ r.length ≤ s.length
 | 0, s, hs, hn => ⟨(by intro x hx; cases hx), Nat.zero_le _, s, rfl, hs, Nat.le_refl _⟩
 | n + 1, s, hs, hn => by
  rw [tN]; split
  ·exact ⟨(by intro x hx; cases hx), Nat.zero_le _, s, rfl, hs, Nat.le_refl _⟩
  ·rename_i h0; have hne : s ≠ [] := fun e => h0 (by rw [e]; rfl)
   obtain ⟨h1, r, h2, h3, h4, h5⟩ := h s hs hn; have h6 := h5 hne; obtain ⟨k1, k2, r2, k3, k4, k5⟩ := FairD.tn h n r h3 (by omega); simp only [h2]; refine ⟨fun x hx => ?_, by rw [List.length_cons]; omega, r2, k3, k4, by omega⟩; rcases List.mem_cons.1 hx with rfl | hx
   ·exact h1
   ·exact k1 x hx
def okN (N : Nat) (a : α → Prop) (l : List α) : Prop := (∀ x ∈ l, a x) ∧ l.length ≤ N
end
theorem one_b8 {l : List Nat} (h : B8 l) : B8 (vOne l).2 ∧ (vOne l).1 < 256 := by
 cases l with
 | nil => exact ⟨h, by decide⟩
 | cons b l => exact ⟨fun x hx => h x (List.mem_cons_of_mem _ hx), h b (by simp)⟩
theorem numK_lt : ∀ (k n s : Nat) (l : List Nat), n < 18446744073709551616 → (vNumK k n s l).1 < 18446744073709551616
 | 0, n, s, l, h => h
 | k + 1, n, s, l, h => by
  rw [vNumK]; split
  ·exact Nat.mod_lt _ (by decide)
  ·exact numK_lt k _ _ _ (Nat.mod_lt _ (by decide))
theorem dvar_fair (N : Nat) : FairD N dVar (fun v => v < 18446744073709551616) := fun s hs hn =>
 ⟨numK_lt _ _ _ _ (by decide), (vNum s).2, rfl, num_b8 hs, numK_drops _ _ _ _, fun e => num_eat e⟩
theorem d64_fair (N : Nat) : FairD N dU64 (okU 18446744073709551615) := (dvar_fair N).told _ fun x hx => ⟨Int.natCast_nonneg _, by omega⟩
theorem d32_fair (N : Nat) : FairD N dU32 (okU 4294967295) := (dvar_fair N).told _ fun x hx => ⟨Int.natCast_nonneg _, by omega⟩
theorem dx_fair (N : Nat) : FairD N dX (fun _ => True) := fun s hs hn => by
 refine ⟨trivial, (vText s).2, rfl, (num_b8 hs).drop _, ?_, fun e => ?_⟩
 ·have h1 : (vNum s).2.length ≤ s.length := numK_drops _ _ _ _; show ((vNum s).2.drop _).length ≤ _
  rw [List.length_drop]; omega
 ·have h1 := num_eat e; show ((vNum s).2.drop _).length < _
  rw [List.length_drop]; omega
theorem dbyte_fair (N : Nat) : FairD N dByte (fun v => v < 256) := fun s hs hn =>
 ⟨(one_b8 hs).2, (vOne s).2, rfl, (one_b8 hs).1, one_drops _, fun e => one_eat e⟩
theorem db_fair (N : Nat) : FairD N dB okB := (dbyte_fair N).told _ fun x hx => ⟨Int.natCast_nonneg _, by omega⟩
theorem df_fair (N : Nat) : FairD N dFlag (fun _ => True) := (dbyte_fair N).told _ fun x hx => trivial
theorem ds_fair (N : Nat) : FairD N dS okS := fun s hs hn => by
 refine ⟨?_, s.drop 16, rfl, hs.drop 16, by rw [List.length_drop]; omega, fun e => by
  have : s.length ≠ 0 := fun h9 => e (List.eq_nil_of_length_eq_zero h9)
  rw [List.length_drop]; omega⟩
 have h1 := st_ok (.at s); show Sm.ok (vStamp s).1
 unfold tStamp at h1; unfold vStamp; by_cases h : s.length < 16
 ·simp only [if_pos h] at h1 ⊢; exact h1
 ·simp only [if_neg h] at h1 ⊢; exact h1
section
variable {α : Type} {N : Nat} {t : Ds → α × Ds} {a : α → Prop}
theorem FairD.list (h : FairD N t a) : FairD N (dL t) (okN N a) := fun s hs hn => by
 obtain ⟨h1, r, h2, h3, h4, h5⟩ := dvar_fair N s hs hn; obtain ⟨k1, k2, r2, k3, k4, k5⟩ := h.tn (dVar (.at s)).1 r h3 (by omega); unfold dL; rw [h2]; exact ⟨⟨k1, by omega⟩, r2, k3, k4, by omega, fun e => by have := h5 e; omega⟩
end
def okHN (N : Nat) (h : Lk.Hd) : Prop := okTxn (h.id, h.home) ∧ okS (atHd h) ∧ okN N (fun _ => True) h.rs ∧ okN N (fun _ => True) h.ws
theorem dspan_fair (N : Nat) : FairD N dSpan (fun _ => True) := fun s hs hn => ⟨trivial, ((dx_fair N).pair (dx_fair N) s hs hn).2⟩
theorem dwrite_fair (N : Nat) : FairD N dWrite (fun _ => True) := ((dx_fair N).pair ((df_fair N).pair (dx_fair N))).told _ fun _ _ => trivial
theorem dtxn_fair (N : Nat) : FairD N dTxn okTxn := ((d32_fair N).pair ((d32_fair N).pair (d32_fair N))).told _ fun x hx => hx
theorem dheld_fair (N : Nat) : FairD N dHeld (okHN N) := ((dtxn_fair N).pair ((ds_fair N).pair ((dspan_fair N).list.pair (dwrite_fair N).list))).told _ fun x hx => hx
theorem dentry_fair (N : Nat) : FairD N dEntry okEntry := ((dtxn_fair N).pair ((db_fair N).pair (ds_fair N))).told _ fun x hx => hx
theorem dversion_fair (N : Nat) : FairD N dVersion (fun v => okS v.2.s) := ((dx_fair N).pair ((ds_fair N).pair ((df_fair N).pair (dx_fair N)))).told _ fun x hx => hx.2.1
def okIN (N : Nat) : Im → Prop := okP (okU 4294967295) (okP (okU 18446744073709551615) (okP okS (okP (okN N (okHN N)) (okP (okN N okEntry) (okN N fun v => okS v.2.s)))))
theorem dimg_fair (N : Nat) : FairD N dImg (okIN N) := (d32_fair N).pair ((d64_fair N).pair ((ds_fair N).pair ((dheld_fair N).list.pair ((dentry_fair N).list.pair (dversion_fair N).list))))
theorem snd_ok {N : Nat} (hN : N ≤ 1099511627776) {n top : Int} {wm : Vs.Sp} {H : List Lk.Hd} {E : List Lg.En} {V : List Vs.Kv} (S : Snd top wm H E V) (h : okIN N (n, top, wm, H, E, V)) : okImg (n, top, wm, H, E, V) := by
 obtain ⟨h1, h2, h3, ⟨h4, l4⟩, ⟨h5, l5⟩, h6, l6⟩ := h; refine ⟨h1, h2, h3, ⟨fun x hx => ?_, by show H.length < _; have : H.length ≤ N := l4; omega⟩, ⟨h5, by show E.length < _; have : E.length ≤ N := l5; omega⟩, fun v hv => ?_, by show V.length < _; have : V.length ≤ N := l6; omega⟩
 ·obtain ⟨q1, q2, q3, q4⟩ := h4 x hx; have hru := err_valid (S.hd x hx).1; obtain ⟨g1, g2, _⟩ := rules_2 hru rfl; have g3 : readsOk x.rs = true := by
   unfold Rg.rules at hru; rw [if_neg (by show ¬ (2 : Int) = 1; decide), if_pos (by rfl), Bool.and_eq_true, Bool.and_eq_true] at hru; exact hru.1.2
  have g4 := Vs.writes_len g2; exact ⟨q1, q2, ⟨span_ok g3, by show x.rs.length < _; have : x.rs.length ≤ 16 := g1; omega⟩, ⟨write_ok g2, by show x.ws.length < _; have : x.ws.length ≤ 16 := g4; omega⟩⟩
 ·have h7 := (S.vs v hv).1; unfold wOk at h7; rw [Bool.and_eq_true, Bool.and_eq_true, Bool.and_eq_true] at h7; exact ⟨(of_decide_eq_true h7.1.1.2 : v.1.size ≤ 32), h6 v hv, (of_decide_eq_true h7.1.2 : v.2.val.size ≤ 64)⟩
theorem snd_len {N : Nat} (hN : N ≤ 16777216) {n top : Int} {wm : Vs.Sp} {H : List Lk.Hd} {E : List Lg.En} {V : List Vs.Kv} (S : Snd top wm H E V) (h : okIN N (n, top, wm, H, E, V)) : (eImg (n, top, wm, H, E, V)).length ≤ 1099511627776 := by
 obtain ⟨o1, o2, o3, ⟨o4, o4'⟩, ⟨o5, o5'⟩, o6, o6'⟩ := snd_ok (by omega) S h; obtain ⟨-, -, -, ⟨-, l4⟩, ⟨-, l5⟩, -, l6⟩ := h; have l4' : H.length ≤ N := l4; have l5' : E.length ≤ N := l5; have l6' : V.length ≤ N := l6; have q0 := eU_le (by decide) o1; have q1 := eU_le (by decide) o2; have q2 := eS_len wm; have q3 := eL_le (e := eHeld) (K := 4000) (l := H) (fun x hx => by
  obtain ⟨g1, g2⟩ := held_short (S.hd x hx).1; exact eHeld_le (o4 x hx) g1 g2) (by omega)
 have q4 := eL_le (e := eEntry) (K := 100) (l := E) (fun x hx => eEntry_le (o5 x hx)) (by omega); have q5 := eL_le (e := eVersion) (K := 200) (l := V) (fun x hx => eVersion_le (o6 x hx)) (by omega); have q0' : (eU n).length ≤ 10 := q0; have q1' : (eU top).length ≤ 10 := q1; show (eU n ++ (eU top ++ (eS wm ++ (eL eHeld H ++ (eL eEntry E ++ eL eVersion V))))).length ≤ _
 simp only [List.length_append]; omega
def shA (top : Int) (x : Lk.Hd) : Bool := !decide ((rgP x).err = 0) || !decide (x.w < top)
def shW (V : List Vs.Kv) (x : Lk.Hd) : Bool := x.ws.any fun y => aboveB V y.key (atHd x)
def shP (U : List Lk.Hv) (x : Lk.Hd) (j : Nat) : Bool := Lk.ltI (Lk.nthH U j).h.id x.id && !Lk.meetB x.rs x.ws (Lk.nthH U j).h
def shB (top : Int) (U : List Lk.Hv) (V : List Vs.Kv) (i : Nat) : Bool := !shA top (Lk.nthH U i).h && !shW V (Lk.nthH U i).h && (List.range i).all (shP U (Lk.nthH U i).h)
theorem nthH_at {U : List Lk.Hv} {i : Nat} (h : i < U.length) : Lk.nthH U i = U[i] := by simp [Lk.nthH, h]
theorem sh_iff (top : Int) (U : List Lk.Hv) (V : List Vs.Kv) : (List.range U.length).all (shB top U V) = true ↔ (∀ h ∈ U.map Lk.Hv.h, (rgP h).err = 0 ∧ h.w < top ∧ ∀ x ∈ h.ws, aboveB V x.key (atHd h) = false) ∧ (U.map Lk.Hv.h).Pairwise fun g h => ltX g.id h.id = true ∧ Lk.meetB h.rs h.ws g = false := by
 have hA : ∀ x, shA top x = false ↔ ((rgP x).err = 0 ∧ x.w < top) := fun x => by
  unfold shA; simp only [Bool.or_eq_false_iff, Bool.not_eq_false', decide_eq_true_eq]
 have hW : ∀ x, shW V x = false ↔ ∀ y ∈ x.ws, aboveB V y.key (atHd x) = false := fun x => by
  unfold shW; simp only [List.any_eq_false, Bool.not_eq_true]
 rw [range_all]; constructor
 ·intro h; refine ⟨fun x hx => ?_, ?_⟩
  ·obtain ⟨u, hu, rfl⟩ := List.mem_map.1 hx; obtain ⟨i, hi, rfl⟩ := List.getElem_of_mem hu; have := h i hi; unfold shB at this; rw [nthH_at hi] at this; simp only [Bool.and_eq_true, Bool.not_eq_true'] at this; obtain ⟨⟨a1, a2⟩, a3⟩ := this; have a1 := (hA _).1 a1; exact ⟨a1.1, a1.2, (hW _).1 a2⟩
  ·rw [List.pairwise_map, List.pairwise_iff_getElem]; intro i j hi hj hij; have := h j hj; unfold shB at this; rw [nthH_at hj] at this; simp only [Bool.and_eq_true] at this; have h3 := range_all.1 this.2 i hij; unfold shP at h3; rw [nthH_at hi, Bool.and_eq_true, Bool.not_eq_true'] at h3; exact h3
 ·rintro ⟨h1, h2⟩ i hi; rw [List.pairwise_map, List.pairwise_iff_getElem] at h2; have h3 := h1 _ (List.mem_map.2 ⟨U[i], List.getElem_mem hi, rfl⟩); unfold shB; rw [nthH_at hi, (hA _).2 ⟨h3.1, h3.2.1⟩, (hW _).2 h3.2.2, range_all.2 fun j hj => ?_]
  ·rfl
  ·unfold shP; rw [nthH_at (by omega : j < U.length), Bool.and_eq_true, Bool.not_eq_true']; exact h2 j i (by omega) hi hj
end Go.Proofs.YtofpaldolcnmiaaGreat.Ig
