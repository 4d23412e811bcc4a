import Derived.Test.YtofpaldolcnmiaaGreatB24
set_option linter.unusedVariables false
set_option maxHeartbeats 4000000
namespace Go.Proofs.YtofpaldolcnmiaaGreat
namespace Ig
open Go.RowKit Go.Sort Ys
def rgH (v : Lk.Hv) : Rg := ⟨2, 0, v.h.id.1, v.h.id.2, v.h.home, 0, v.h.w, v.h.l, v.h.n, v.ra, v.h.rs, v.rc, v.wa, v.h.ws, v.wc, ⟨#[]⟩⟩
def rgP (h : Lk.Hd) : Rg := ⟨2, 0, h.id.1, h.id.2, h.home, 0, h.w, h.l, h.n, none, h.rs, 0, none, h.ws, 0, ⟨#[]⟩⟩
theorem rgH_err (v : Lk.Hv) : (rgH v).err = (rgP v.h).err := rfl
def fhB (s : Ps) (h : Lk.Hd) : Bool := decide ((rgP h).err = 0) && hldB s h
def fhS : Ps → List Lk.Hd → Option Ps
 | s, [] => some s
 | s, h :: l => if fhB s h then fhS (hldS s h) l else none
theorem row2_off {F : Nat → Prop} {w w' : World} {a : Option Addr} {xs : List T2} (h : Row2 w a xs) (ho : Onl F w w') (ha : ∀ b off, a = some ⟨b, off, none⟩ → ¬ F b) : Row2 w' a xs := fun i hi => by
 obtain ⟨b, off, e, h0, h1⟩ := h i hi; exact ⟨b, off, e, ho.cell (ha b off e) h0, ho.cell (ha b off e) h1⟩
theorem rowW_off {F : Nat → Prop} {w w' : World} {a : Option Addr} {xs : List Wr} (h : RowW w a xs) (ho : Onl F w w') (ha : ∀ b off, a = some ⟨b, off, none⟩ → ¬ F b) : RowW w' a xs := fun i hi => by
 obtain ⟨b, off, e, h0, h1, h2⟩ := h i hi; exact ⟨b, off, e, ho.cell (ha b off e) h0, ho.cell (ha b off e) h1, ho.cell (ha b off e) h2⟩
structure HvIn (F : Nat → Prop) (w : World) (v : Lk.Hv) : Prop where
 ok : v.ok w
 rn : ∀ b off, v.ra = some ⟨b, off, none⟩ → ¬ F b
 wn : ∀ b off, v.wa = some ⟨b, off, none⟩ → ¬ F b
 s : 0 ≤ v.h.id.2
 w : 0 ≤ v.h.w ∧ v.h.w ≤ 18446744073709551615
theorem HvIn.onl {F : Nat → Prop} {w w' : World} {v : Lk.Hv} (h : HvIn F w v) (ho : Onl F w w') : v.ok w' := ⟨row2_off h.ok.r ho h.rn, rowW_off h.ok.w ho h.wn, h.ok.rl, h.ok.wl⟩
theorem rgH_ok {F : Nat → Prop} {w W : World} {v : Lk.Hv} (h : HvIn F w v) (k : v.ok W) : (rgH v).ok W := ⟨k.r, k.w, by have := k.rl; show v.h.rs.length ≤ _; omega, by have := k.wl; show v.h.ws.length ≤ _; omega, h.s, h.w.1, h.w.2⟩
theorem fillHeld_is {F : Nat → Prop} {w : World} {p : Nat} {m1 m2 m : Option Nat} {V : List Lk.Hv} {I : Lk.It} {s : Ps} {a : Option Addr} {c : Nat} {U : List Lk.Hv} (T : Ys.St F w p m1 m2 m V I s) (h : RowG Lk.hcs 8 w a U) (ha : ∀ b off, a = some ⟨b, off, none⟩ → ¬ Lk.Its p m1 m2 b) (hl : U.length ≤ 1099511627776) (hr : ∀ v ∈ U, HvIn (Lk.Its p m1 m2) w v) :
  Calls Tryz.prog 84 #[cp p, .slice a U.length c] w fun e w' => e = .returned (.bool (fhS s (U.map Lk.Hv.h)).isSome) ∧ Hid (∀ s', fhS s (U.map Lk.Hv.h) = some s' → ∃ m1' m2' V' I', Ys.St F w' p m1' m2' m V' I' s' ∧ ∀ b, Lk.Its p m1' m2' b → Lk.Its p m1 m2 b ∨ w.heap.size ≤ b) ∧ Hid (Onl (Lk.Its p m1 m2) w w') := by
 obtain ⟨n, hn⟩ : ∃ n, n = U.length := ⟨_, rfl⟩; rw [← hn] at hl ⊢; have HN := hid hn; have HT := hid T; have HR := hid h; have HA := hid ha; have HRE := hid hr; clear T h ha hr hn; go_enter Tryz.func84, Tryz.ntmps84
 go_wp2_with fail
 go_loopg [10] n (fun g s10 wr => ∃ i : Nat, i ≤ n ∧ g = n - i ∧ s10 = .int .i64 (i : Int) ∧ ∃ (sk : Ps) (k1 k2 : Option Nat) (Vk : List Lk.Hv) (Ik : Lk.It), Hid (Ys.St F wr p k1 k2 m Vk Ik sk) ∧ Hid (fhS s (U.map Lk.Hv.h) = fhS sk ((U.drop i).map Lk.Hv.h)) ∧ Hid (Onl (Lk.Its p m1 m2) w wr) ∧ Hid (∀ b, Lk.Its p k1 k2 b → Lk.Its p m1 m2 b ∨ w.heap.size ≤ b))
 case atStart => exact ⟨0, by omega, by omega, rfl, s, m1, m2, V, I, HT, hid (by simp), Onl.refl _ _, fun b e => .inl e⟩
 case round =>
  obtain ⟨i, hin, rfl, rfl, sk, q1, q2, Vk, Ik, HS, HF, HO, HM⟩ := hrel; by_cases hlt : i < n
  ·obtain ⟨v, hx⟩ : ∃ x, U[i]? = some x := ⟨_, List.getElem?_eq_getElem (by rw [← HN.out]; exact hlt)⟩; obtain ⟨q, off, hq, hc⟩ := (HR.out.onl HO.out HA.out) i v hx; subst hq; have c0 := hc 0 _ rfl; have c1 := hc 1 _ rfl; have c2 := hc 2 _ rfl; have c3 := hc 3 _ rfl; have c4 := hc 4 _ rfl; have c5 := hc 5 _ rfl; have c6 := hc 6 _ rfl; have c7 := hc 7 _ rfl; simp only [Nat.add_zero] at c0; have hem : v ∈ U := List.mem_of_getElem? hx; have hdr : U.drop i = v :: U.drop (i + 1) := by
    obtain ⟨h1, h2⟩ := List.getElem?_eq_some_iff.1 hx; rw [List.drop_eq_getElem_cons h1, h2]
   have HF2 : Hid (fhS s (U.map Lk.Hv.h) = if fhB sk v.h then fhS (hldS sk v.h) ((U.drop (i + 1)).map Lk.Hv.h) else none) := by
    have := HF.out; rw [hdr, List.map_cons] at this; exact this
   have HVO : Hid (v.ok wr) := (HRE.out v hem).onl HO.out; obtain ⟨er, her⟩ : ∃ er, (rgH v).err = er := ⟨_, rfl⟩; obtain ⟨u1, hu1⟩ : ∃ u, hldB sk v.h = u := ⟨_, rfl⟩; have VD : Hid (∀ W, Below wr.heap.size wr W → Calls Tryz.prog 30 #[.agg #[.int .i64 2, .int .u64 0, .int .u32 v.h.id.1, .int .u32 v.h.id.2, .int .u32 v.h.home, .int .i64 0, .int .u64 v.h.w, .int .u32 v.h.l, .int .u32 v.h.n, .slice v.ra v.h.rs.length v.rc, .slice v.wa v.h.ws.length v.wc, .string ⟨#[]⟩]] W fun r w' => r = .returned (.int .i64 er) ∧ Below W.heap.size W w') := fun W hb => by rw [← her]; exact walvalid_is W (rgH v) (rgH_ok (HRE.out v hem) (HVO.out.later hb))
   have HD : Hid (∀ W, Below wr.heap.size wr W → Calls Tryz.prog 66 #[cp p, .agg #[.int .u32 v.h.id.1, .int .u32 v.h.id.2, .int .u32 v.h.home, .int .u64 v.h.w, .int .u32 v.h.l, .int .u32 v.h.n, .slice v.ra v.h.rs.length v.rc, .slice v.wa v.h.ws.length v.wc]] W fun e w' => e = .returned (.bool u1) ∧ ∃ m1' m2' V' I', Ys.St F w' p m1' m2' m V' I' (hldS sk v.h) ∧ (∀ b, Lk.Its p m1' m2' b → Lk.Its p q1 q2 b ∨ W.heap.size ≤ b) ∧ Onl (Lk.Its p q1 q2) W w') := fun W hb => by rw [← hu1]; exact hold_is (HS.out.later hb) (HVO.out.later hb)
   have HFB : Hid (fhB sk v.h = (decide (er = 0) && u1)) := by show fhB _ _ = _; unfold fhB; rw [← rgH_err, her, hu1]
   have hzb : ∀ W, Below wr.heap.size wr W → Hid (Onl (Lk.Its p m1 m2) w W) := fun W hb => hid (HO.out.on hb)
   have HZB := hid hzb; clear hc hx hdr her hu1 hem hzb; obtain ⟨wa, hwa⟩ : ∃ wa, wa = (wr.alloc (.cells #[.int .u32 v.h.id.1, .int .u32 v.h.id.2, .int .u32 v.h.home, .int .u64 v.h.w, .int .u32 v.h.l, .int .u32 v.h.n, .slice v.ra v.h.rs.length v.rc, .slice v.wa v.h.ws.length v.wc] 100)).alloc (.cells #[.int .i64 2, .int .u64 0, .int .u32 v.h.id.1, .int .u32 v.h.id.2, .int .u32 v.h.home, .int .i64 0, .int .u64 v.h.w, .int .u32 v.h.l, .int .u32 v.h.n, .slice v.ra v.h.rs.length v.rc, .slice v.wa v.h.ws.length v.wc, .string ⟨#[]⟩] 40) := ⟨_, rfl⟩; have hba : Below wr.heap.size wr wa := by rw [hwa]; exact Below.al (Below.al (Below.refl _ _) _) _
   have hsa : wr.heap.size < wa.heap.size := by rw [hwa]; simp; omega
   have HKA : Hid (wa.heap[wr.heap.size]? = some (.cells #[.int .u32 v.h.id.1, .int .u32 v.h.id.2, .int .u32 v.h.home, .int .u64 v.h.w, .int .u32 v.h.l, .int .u32 v.h.n, .slice v.ra v.h.rs.length v.rc, .slice v.wa v.h.ws.length v.wc] 100 (0, 0))) := by
    show _ = _
    rw [hwa, (Below.al (Below.refl _ _) _).block _ (by simp)]; exact World.alloc_heap_new _ _
   have HBA := hid hba; clear hba; go_wp2_with fail
   rw [← hwa]; clear hwa c0 c1 c2 c3 c4 c5 c6 c7; refine (VD.out _ HBA.out).mono ?_; rintro r w2 ⟨rfl, hb2⟩; have HB2 : Hid (Below wr.heap.size wr w2) := Below.on HBA.out hb2; have k2 := (hb2.block _ hsa).trans HKA.out; clear hb2 HKA HBA VD hsa; have y0 := Vs.cob (o := 0) k2 rfl; have y1 := Vs.cob (o := 1) k2 rfl; have y2 := Vs.cob (o := 2) k2 rfl; have y3 := Vs.cob (o := 3) k2 rfl; have y4 := Vs.cob (o := 4) k2 rfl; have y5 := Vs.cob (o := 5) k2 rfl; have y6 := Vs.cob (o := 6) k2 rfl; have y7 := Vs.cob (o := 7) k2 rfl; clear k2; by_cases he0 : er = 0
   ·subst he0; cases u1 with
    | false =>
     go_wp2_with (go_at_call 66; refine (HD.out _ HB2.out).mono ?_; rintro r w3 ⟨rfl, m1', m2', V', I', hT3, hm3, ho3⟩)
     go_ret
     have hf : fhS s (U.map Lk.Hv.h) = none := by rw [HF2.out, HFB.out]; rfl
     refine ⟨by rw [hf]; rfl, fun s' h9 => (by rw [hf] at h9; cases h9), ?_⟩; exact (HZB.out _ HB2.out).out.fresh ho3 HM.out
    | true =>
     go_wp2_with (go_at_call 66; refine (HD.out _ HB2.out).mono ?_; rintro r w3 ⟨rfl, m1', m2', V', I', hT3, hm3, ho3⟩; have HS3 := hid hT3; have HO3 : Hid (Onl (Lk.Its p m1 m2) w w3) := (HZB.out _ HB2.out).out.fresh ho3 HM.out; have HM3 : Hid (∀ b, Lk.Its p m1' m2' b → Lk.Its p m1 m2 b ∨ w.heap.size ≤ b) := (fun b hb => (hm3 b hb).elim (HM.out b) (fun h9 => .inr (Nat.le_trans (HZB.out _ HB2.out).out.size h9))); clear hT3 hm3 ho3)
     have HF5 : Hid (fhS s (U.map Lk.Hv.h) = fhS (hldS sk v.h) ((U.drop (i + 1)).map Lk.Hv.h)) := by
      have h9 := HF2.out; rw [HFB.out] at h9; exact h9
     go_roundg (n - (i + 1))
     case measure => omega
     case rel => exact ⟨i + 1, by omega, rfl, by go_num, hldS sk v.h, m1', m2', V', I', HS3, HF5, HO3, HM3⟩
   ·have hne : (er != 0) = true := by simpa using he0
    have hf : fhS s (U.map Lk.Hv.h) = none := by rw [HF2.out, HFB.out, decide_eq_false he0]; rfl
    have HFN := hid hf; clear hf he0; go_wp2_with fail
    go_ret
    refine ⟨by rw [HFN.out]; rfl, fun s' h9 => (by rw [HFN.out] at h9; cases h9), ?_⟩; exact HZB.out _ HB2.out
  ·obtain rfl : i = n := by omega
   have HE : Hid (fhS s (U.map Lk.Hv.h) = some sk) := by
    have := HF.out; rw [HN.out, List.drop_of_length_le (Nat.le_refl _)] at this; exact this
   clear hin hlt; go_wp2_with fail
   go_ret
   refine ⟨by rw [HE.out]; rfl, fun s' h9 => ?_, HO⟩; rw [HE.out] at h9; injection h9 with h9
   subst h9; exact ⟨q1, q2, Vk, Ik, HS.out, HM.out⟩
end Ig
namespace Vs
open Go.RowKit Go.Sort
theorem stand_is {e : Kv} {u : Bool} (hu : okV e = u) (w : World) :
  Calls Tryz.prog 208 #[vv e.1 e.2] w fun x w' => x = .returned (.bool u) ∧ Below w.heap.size w w' := by
 obtain ⟨k, t, d, v⟩ := e; have hb0 : Below w.heap.size w (w.alloc (.cells (vcs k ⟨t, d, v⟩) 108)) := Below.al (Below.refl _ _) _; have hv0 := ver_cells w k ⟨t, d, v⟩; obtain ⟨w0, hw0⟩ : ∃ w0, w0 = w.alloc (.cells (vcs k ⟨t, d, v⟩) 108) := ⟨_, rfl⟩; rw [← hw0] at hb0 hv0; obtain ⟨d0, d1, d2, d3, d4, d5⟩ := hv0; simp only [Nat.zero_add] at d0 d1 d2 d3 d4 d5; obtain ⟨u1, h1⟩ : ∃ u1, decide (t.a < 18446744073709551615) = u1 := ⟨_, rfl⟩; obtain ⟨u2, h2⟩ : ∃ u2, wOk ⟨k, d, v⟩ = u2 := ⟨_, rfl⟩; have HQ : Hid (u = (u1 && u2)) := by show _ = _; rw [← hu, ← h1, ← h2]; rfl
 have U := hid (fun W => usable_at (t := t) h1 W); have V := hid (fun W => vwrite_is h2 W); have HB := hid hb0; have HD : Hid (w0.cell? ⟨w.heap.size, 0, none⟩ = some (.string k) ∧ w0.cell? ⟨w.heap.size, 4, none⟩ = some (.bool d) ∧ w0.cell? ⟨w.heap.size, 5, none⟩ = some (.string v)) := ⟨d0, d4, d5⟩; clear hu h1 h2 hb0 d0 d4 d5; simp only at V; go_enter Tryz.func208, Tryz.ntmps208
 go_wp2_with fail
 rw [← hw0]; clear hw0; cases u1 with
 | false =>
  go_wp2_with (go_at_call 125; refine (U.out _).mono ?_; rintro e w1 ⟨rfl, hb1⟩)
  go_ret
  exact ⟨rtb (by rw [HQ.out]; rfl), Below.on HB.out hb1⟩
 | true =>
  go_wp2_with (first
   | (go_at_call 125; refine (U.out _).mono ?_; rintro e w1 ⟨rfl, hb1⟩; have d0 := cell_later hb1 HD.out.1; have d4 := cell_later hb1 HD.out.2.1; have d5 := cell_later hb1 HD.out.2.2)
   | (go_at_call 234; refine (V.out _).mono ?_; rintro e w2 ⟨rfl, hb2⟩))
  go_ret
  exact ⟨rtb (by rw [HQ.out]; rfl), Below.on (Below.on HB.out hb1) hb2⟩
theorem follows_is {d e : Kv} {u : Bool} (hu : folB d e = u) (w : World) :
  Calls Tryz.prog 209 #[vv d.1 d.2, vv e.1 e.2] w fun x w' => x = .returned (.bool u) ∧ Below w.heap.size w w' := by
 obtain ⟨k, t, dl, v⟩ := d; obtain ⟨k', t', dl', v'⟩ := e; by_cases hk : k = k'
 ·subst hk; have hl : t.lt t' = u := by unfold folB at hu; rw [if_pos rfl] at hu; exact hu
  have L := hid (fun W => less_is (show lessB t.a t.b t.c t'.a t'.b t'.c = u from hl) W); clear hu hl; go_enter Tryz.func209, Tryz.ntmps209
  go_wp2_with (go_at_call 70; refine (L.out _).mono ?_; rintro e w1 ⟨rfl, hb1⟩)
  go_ret
  exact ⟨rfl, Below.on (by (repeat (first | exact Below.refl _ _ | assumption | refine Below.drew ?_ | refine Below.al ?_ _ | refine Below.setCell ?_ (by first | exact Nat.le_refl _ | simp <;> omega) _ | refine Below.on ?_ (by assumption)))) hb1⟩
 ·have q1 := toList_beq' (decide_eq_false hk); have hl : Op.bytesLess k.toList k'.toList = u := by unfold folB at hu; rw [if_neg hk] at hu; exact hu
  clear hu hk; go_enter Tryz.func209, Tryz.ntmps209
  go_wp2_with fail
  go_ret
  exact ⟨rfl, by (repeat (first | exact Below.refl _ _ | assumption | refine Below.drew ?_ | refine Below.al ?_ _ | refine Below.setCell ?_ (by first | exact Nat.le_refl _ | simp <;> omega) _ | refine Below.on ?_ (by assumption)))⟩
structure LdI (w wr : World) (F : Nat → Prop) (p : Nat) (l : List Kv) (t : Sp) (i : Nat) : Prop where
 sto : Sto F wr p (loadM (l.take i)) t
 low : ∀ b, F b → w.heap.size ≤ b
 ok : ldF l i = 0
 bl : Below w.heap.size w wr
theorem StoG.marked0 {F : Nat → Prop} {w : World} {p : Nat} {M : Mst} {mk : Sp} (h : Sto F w p M mk) (t : Sp) : Sto F (((w.setCell ⟨p, 1, none⟩ (.int .u64 t.a)).setCell ⟨p, 2, none⟩ (.int .u32 t.b)).setCell ⟨p, 3, none⟩ (.int .u32 t.c)) p M t ∧
  Onl F w (((w.setCell ⟨p, 1, none⟩ (.int .u64 t.a)).setCell ⟨p, 2, none⟩ (.int .u32 t.b)).setCell ⟨p, 3, none⟩ (.int .u32 t.c)) := by
 obtain ⟨m, h, rfl⟩ := h; obtain ⟨h1, h2, _⟩ := h.marked t; simp only [Nat.zero_add] at h1 h2; exact ⟨⟨m, h1, rfl⟩, h2.mono fun b e => by rw [e]; exact h.fp⟩
theorem StoG.loose {F : Nat → Prop} {w : World} {p o : Nat} {ty : TypeId} {M : Mst} {mk : Sp} (h : StoG F w p o ty M mk) : ∀ j, w.frozen? ⟨p, j, none⟩ = false := by
 obtain ⟨m, h, rfl⟩ := h; exact fun j => Sto.loose h j
theorem StoG.cells0 {F : Nat → Prop} {w : World} {p : Nat} {M : Mst} {mk : Sp} (h : Sto F w p M mk) : (∃ v, w.cell? ⟨p, 1, none⟩ = some v) ∧ (∃ v, w.cell? ⟨p, 2, none⟩ = some v) ∧ (∃ v, w.cell? ⟨p, 3, none⟩ = some v) := by
 obtain ⟨m, h, rfl⟩ := h; have c1 := Sto.c1 h; have c2 := Sto.c2 h; have c3 := Sto.c3 h; simp only [Nat.zero_add] at c1 c2 c3; exact ⟨⟨_, c1⟩, ⟨_, c2⟩, ⟨_, c3⟩⟩
def LdPost (l : List Kv) (t : Sp) (w : World) (e : Ending) (w' : World) : Prop :=
 (ldE l = 0 ∧ ∃ p F, e = .returned (.tuple #[pt p, .int .i64 0]) ∧ Sto F w' p (loadM l) t ∧ ∀ b, F b → w.heap.size ≤ b) ∨ (ldE l ≠ 0 ∧ e = .returned (.tuple #[.pointer none, .int .i64 (ldE l)]))
set_option maxRecDepth 16000 in
theorem stoload_is {w : World} {a : Option Addr} {c : Nat} {l : List Kv} (t : Sp) (h : RowV w a l) (hl : (l.length + 1) * 64 ≤ 140737488355328) :
  Calls Tryz.prog 160 #[.slice a l.length c, sv t] w fun e w' => LdPost l t w e w' ∧ Below w.heap.size w w' := by
 obtain ⟨n, hn⟩ : ∃ n, n = l.length := ⟨_, rfl⟩; obtain ⟨wx, hwx⟩ : ∃ wx, wx = w.alloc (.cells #[.int .u64 t.a, .int .u32 t.b, .int .u32 t.c] 36) := ⟨_, rfl⟩; have hbx : Below w.heap.size w wx := by rw [hwx]; exact Below.al (Below.refl _ _) _
 have kx : wx.heap[w.heap.size]? = some (.cells #[.int .u64 t.a, .int .u32 t.b, .int .u32 t.c] 36 (0, 0)) := by rw [hwx]; exact World.alloc_heap_new _ _
 have HX : Hid (wx.cell? ⟨w.heap.size, 0, none⟩ = some (.int .u64 t.a) ∧ wx.cell? ⟨w.heap.size, 1, none⟩ = some (.int .u32 t.b) ∧ wx.cell? ⟨w.heap.size, 2, none⟩ = some (.int .u32 t.c)) := ⟨cob kx rfl, cob kx rfl, cob kx rfl⟩; have HA := hid (show RowV w a l ∧ Below w.heap.size w wx ∧ n = l.length from ⟨h, hbx, hn⟩); have NW := hid (stonew_is wx); rw [← hn] at hl ⊢; have HL := hid hl; clear h hbx kx hn; go_enter Tryz.func160, Tryz.ntmps160
 go_wp2_with fail
 rw [← hwx]; clear hwx; go_wp2_with (go_at_call 207; refine NW.out.mono ?_; rintro e w1 ⟨p, F0, rfl, s1, f1, hb1⟩; have HS1 := hid s1; have HF1 := hid f1; have HB1 := hid hb1; have x0 := cell_later hb1 HX.out.1; have x1 := cell_later hb1 HX.out.2.1; have x2 := cell_later hb1 HX.out.2.2; have cf := StoG.loose s1; obtain ⟨⟨v1, y1⟩, ⟨v2, y2⟩, ⟨v3, y3⟩⟩ := s1.cells0; clear s1 f1 hb1)
 obtain ⟨w2, hw2⟩ : ∃ w2, w2 = ((w1.setCell ⟨p, 1, none⟩ (.int .u64 t.a)).setCell ⟨p, 2, none⟩ (.int .u32 t.b)).setCell ⟨p, 3, none⟩ (.int .u32 t.c) := ⟨_, rfl⟩; have HI2 : Hid (LdI w w2 F0 p l t 0) := by
  obtain ⟨m1, m2⟩ := HS1.out.marked0 t; rw [← hw2] at m1 m2; have f0 : ∀ b, F0 b → w.heap.size ≤ b := fun b hb => Nat.le_trans HA.out.2.1.size (HF1.out b hb)
  have b1 : Below w.heap.size w w1 := Below.on HA.out.2.1 HB1.out; exact ⟨m1, f0, rfl, b1.trans (m2.below f0 b1.size)⟩
 rw [← hw2]; clear hw2 x0 x1 x2 cf y1 y2 y3 HS1 HF1 HB1 NW HX; go_loopg [16] n (fun g s16 wr => ∃ i : Nat, i ≤ n ∧ g = n - i ∧ s16 = .int .i64 i ∧ ∃ F : Nat → Prop, Hid (LdI w wr F p l t i))
 case atStart => exact ⟨0, by omega, by omega, rfl, F0, HI2⟩
 case round =>
  obtain ⟨i, hin, rfl, rfl, F, HI⟩ := hrel; clear HI2; by_cases hlt : i < n
  ·obtain ⟨b, off, hab, cv⟩ := HA.out.1.later HI.out.bl i (by rw [← HA.out.2.2]; exact hlt); obtain ⟨e, he⟩ : ∃ e, e = nthK l i := ⟨_, rfl⟩; have hsn : l.take (i + 1) = l.take i ++ [e] := by rw [he]; exact nthK_take (by rw [← HA.out.2.2]; exact hlt)
   rw [← he] at cv; obtain ⟨u, hu⟩ : ∃ u, okV e = u := ⟨_, rfl⟩; have HSd : Hid (ldS l i = if u then (if i = 0 ∨ folB (nthK l (i - 1)) e = true then 0 else 91) else 1) := by show _ = _; unfold ldS; rw [← he, hu]
   have ST := hid (fun W => stand_is hu W); have HSN := hid hsn; have HLT : Hid (i < l.length) := by show _ < _; rw [← HA.out.2.2]; exact hlt
   clear hu he hsn; obtain ⟨k, s, d, v⟩ := e; obtain ⟨wp, hwp⟩ : ∃ wp, wp = wr.alloc (.cells (vcs k ⟨s, d, v⟩) 108) := ⟨_, rfl⟩; have hbp : Below wr.heap.size wr wp := by rw [hwp]; exact Below.al (Below.refl _ _) _
   have kp : VerAt wp wr.heap.size 0 k ⟨s, d, v⟩ := by rw [hwp]; exact ver_cells _ _ _
   obtain ⟨c0, c1, c2, c3, c4, c5⟩ := cv; simp only at c0 c1 c2 c3 c4 c5; subst hab; have HBP := hid hbp; have HKP := hid kp; obtain ⟨p0, p1, p2, p3, p4, p5⟩ := kp; simp only [Nat.zero_add] at p0 p1 p2 p3 p4 p5; simp only at ST; clear hbp; cases u with
   | false =>
    have HE : Hid (ldE l = 1) := by
     have : ldS l i = 1 := HSd.out; show _ = _
     rw [ld_last HI.out.ok (by rw [this]; decide) HLT.out, this]
    subst hwp; go_wp2_with (go_at_call 208; refine (ST.out _).mono ?_; rintro e w3 ⟨rfl, hb3⟩)
    refine bodyPost_ret (v := .tuple #[.pointer none, .int .i64 1]) (by simp [results, Tryz.results160, go_sem]) rfl ⟨.inr ⟨by rw [HE.out]; decide, by rw [HE.out]⟩, Below.on HI.out.bl (Below.on HBP.out hb3)⟩
   | true =>
    have hS : ldS l i = if i = 0 ∨ folB (nthK l (i - 1)) (k, ⟨s, d, v⟩) = true then 0 else 91 := HSd.out
    have HS := hid hS; clear hS HSd; subst hwp; go_wp2_with (go_at_call 208; refine (ST.out _).mono ?_; rintro e w3 ⟨rfl, hb3⟩; have HB3 := hid (Below.on HBP.out hb3); have HK3 := hid (HKP.out.later hb3); clear hb3)
    clear c0 c1 c2 c3 c4 c5 p0 p1 p2 p3 p4 p5; by_cases hi0 : i = 0
    ·have g0 : decide (0 < (i : Int)) = false := decide_eq_false (by omega); have g0' : decide (0 < i) = false := decide_eq_false (by omega); have HS0 : Hid (ldS l i = 0) := by show _ = _; rw [HS.out, if_pos (.inl hi0)]
     have HOK : Hid (ldF l (i + 1) = 0) := by show _ = _; rw [ldF, if_pos HI.out.ok, HS0.out]
     have hsr := ld_sorted (i + 1) (by have := HLT.out; omega) HOK.out; rw [HSN.out] at hsr; have HOV : Hid (Over (loadM (l.take i)) k s) := load_over (e := (k, ⟨s, d, v⟩)) hsr; have HCN : Hid ((countM (loadM (l.take i)) + 1) * 64 ≤ 140737488355328) := by
      show _ ≤ _
      rw [load_count (List.pairwise_append.1 hsr).1, List.length_take]; have h1 := HL.out; have h2 := HA.out.2.2; omega
     clear hsr; clear hi0 HS; go_wp2_with fail
     refine wp_region_quiet_below (by kernel_rfl) (by kernel_rfl) ?_; repeat (go_big_quiet_step (fail))
     refine wpQuiet_nil ?_; intro w4 hb4; replace hb4 := bor hb4; have q0 : w4.cell? ⟨wr.heap.size, 0, none⟩ = some (.string k) := (HK3.out.later hb4).c0; have q1 : w4.cell? ⟨wr.heap.size, 1, none⟩ = some (.int .u64 s.a) := (HK3.out.later hb4).c1; have q2 : w4.cell? ⟨wr.heap.size, 2, none⟩ = some (.int .u32 s.b) := (HK3.out.later hb4).c2; have q3 : w4.cell? ⟨wr.heap.size, 3, none⟩ = some (.int .u32 s.c) := (HK3.out.later hb4).c3; have q4 : w4.cell? ⟨wr.heap.size, 4, none⟩ = some (.bool d) := (HK3.out.later hb4).c4; have q5 : w4.cell? ⟨wr.heap.size, 5, none⟩ = some (.string v) := (HK3.out.later hb4).c5; have AD := hid (add_is (k := k) (v := ⟨s, d, v⟩) (HI.out.sto.later (Below.on HB3.out hb4)) HOV.out HCN.out); have HB4 := hid (Below.on HB3.out hb4); clear hb4 HK3; go_wp2_with (go_at_call 190; refine AD.out.mono ?_; rintro e w5 ⟨⟨v0, rfl⟩, hF5⟩)
     go_roundg (n - (i + 1))
     case measure => omega
     case rel =>
      obtain ⟨F', hs5, hf5, ho5⟩ := hF5; have hb5 : Below w.heap.size w w4 := Below.on HI.out.bl HB4.out; exact ⟨i + 1, by omega, rfl, by go_num, F', ⟨by rw [HSN.out, loadM_snoc]; exact hs5, fun b hb => (hf5 b hb).elim (HI.out.low b) (fun h' => Nat.le_trans hb5.size h'), HOK.out, hb5.trans (ho5.below HI.out.low hb5.size)⟩⟩
    ·obtain ⟨j, rfl⟩ : ∃ j, i = j + 1 := ⟨i - 1, by omega⟩; obtain ⟨b', off', hab', dv⟩ := HA.out.1.later HI.out.bl j (by have := HLT.out; omega); injection hab' with hab'; injection hab' with e1' e2'
     subst e1' e2'; obtain ⟨e0, he0⟩ : ∃ e0, e0 = nthK l j := ⟨_, rfl⟩; rw [← he0] at dv; have hS2 : ldS l (j + 1) = if j + 1 = 0 ∨ folB e0 (k, ⟨s, d, v⟩) = true then 0 else 91 := by rw [he0]; exact HS.out
     obtain ⟨u, hu⟩ : ∃ u, folB e0 (k, ⟨s, d, v⟩) = u := ⟨_, rfl⟩; rw [hu] at hS2; have HS2 := hid hS2; have FO := hid (fun W => follows_is hu W); clear he0 hu hS2 HS hi0; obtain ⟨k', s', d', v'⟩ := e0; simp only at FO dv; have dv3 := dv.later HB3.out; have r0 := cell_regrown dv3.c0; have r1 := cell_regrown dv3.c1; have r2 := cell_regrown dv3.c2; have r3 := cell_regrown dv3.c3; have r4 := cell_regrown dv3.c4; have r5 := cell_regrown dv3.c5
     have z0 : w3.cell? ⟨wr.heap.size, 0, none⟩ = some (.string k) := HK3.out.c0; have z1 : w3.cell? ⟨wr.heap.size, 1, none⟩ = some (.int .u64 s.a) := HK3.out.c1; have z2 : w3.cell? ⟨wr.heap.size, 2, none⟩ = some (.int .u32 s.b) := HK3.out.c2; have z3 : w3.cell? ⟨wr.heap.size, 3, none⟩ = some (.int .u32 s.c) := HK3.out.c3; have z4 : w3.cell? ⟨wr.heap.size, 4, none⟩ = some (.bool d) := HK3.out.c4; have z5 : w3.cell? ⟨wr.heap.size, 5, none⟩ = some (.string v) := HK3.out.c5; have y0 := cell_regrown z0; have y1 := cell_regrown z1; have y2 := cell_regrown z2; have y3 := cell_regrown z3; have y4 := cell_regrown z4; have y5 := cell_regrown z5
     have q1 : IntKind.i64.wrap (j : Int) = (j : Int) := by rw [IntKind.wrap_i64]; omega
     have g0 : decide (0 < ((j + 1 : Nat) : Int)) = true := decide_eq_true (by omega); have g0' : decide (0 < j + 1) = true := decide_eq_true (by omega); clear dv dv3; cases u with
     | true =>
      have HS0 : Hid (ldS l (j + 1) = 0) := by show _ = _; rw [HS2.out, if_pos (.inr rfl)]
      have HOK : Hid (ldF l ((j + 1) + 1) = 0) := by show _ = _; rw [ldF, if_pos HI.out.ok, HS0.out]
      have hsr := ld_sorted ((j + 1) + 1) (by have := HLT.out; omega) HOK.out; rw [HSN.out] at hsr; have HOV : Hid (Over (loadM (l.take (j + 1))) k s) := load_over (e := (k, ⟨s, d, v⟩)) hsr; have HCN : Hid ((countM (loadM (l.take (j + 1))) + 1) * 64 ≤ 140737488355328) := by
       show _ ≤ _
       rw [load_count (List.pairwise_append.1 hsr).1, List.length_take]; have h1 := HL.out; have h2 := HA.out.2.2; omega
      clear hsr; clear HS2; go_wp2_with fail
      refine wp_region_quiet_below (by kernel_rfl) (by kernel_rfl) ?_; repeat (go_big_quiet_step ((go_at_call 209; exact Calls.regrown_of (FO.out _))))
      refine wpQuiet_nil ?_; intro w4 hb4; replace hb4 := bor hb4; clear r0 r1 r2 r3 r4 r5 y0 y1 y2 y3 y4 y5 z0 z1 z2 z3 z4 z5 q1; have q0 : w4.cell? ⟨wr.heap.size, 0, none⟩ = some (.string k) := (HK3.out.later hb4).c0; have q1 : w4.cell? ⟨wr.heap.size, 1, none⟩ = some (.int .u64 s.a) := (HK3.out.later hb4).c1; have q2 : w4.cell? ⟨wr.heap.size, 2, none⟩ = some (.int .u32 s.b) := (HK3.out.later hb4).c2; have q3 : w4.cell? ⟨wr.heap.size, 3, none⟩ = some (.int .u32 s.c) := (HK3.out.later hb4).c3; have q4 : w4.cell? ⟨wr.heap.size, 4, none⟩ = some (.bool d) := (HK3.out.later hb4).c4; have q5 : w4.cell? ⟨wr.heap.size, 5, none⟩ = some (.string v) := (HK3.out.later hb4).c5; have AD := hid (add_is (k := k) (v := ⟨s, d, v⟩) (HI.out.sto.later (Below.on HB3.out hb4)) HOV.out HCN.out); have HB4 := hid (Below.on HB3.out hb4); clear hb4 HK3
      go_wp2_with (go_at_call 190; refine AD.out.mono ?_; rintro e w5 ⟨⟨v0, rfl⟩, hF5⟩)
      go_roundg (n - ((j + 1) + 1))
      case measure => omega
      case rel =>
       obtain ⟨F', hs5, hf5, ho5⟩ := hF5; have hb5 : Below w.heap.size w w4 := Below.on HI.out.bl HB4.out; exact ⟨(j + 1) + 1, by omega, rfl, by go_num, F', ⟨by rw [HSN.out, loadM_snoc]; exact hs5, fun b hb => (hf5 b hb).elim (HI.out.low b) (fun h' => Nat.le_trans hb5.size h'), HOK.out, hb5.trans (ho5.below HI.out.low hb5.size)⟩⟩
     | false =>
      have HE : Hid (ldE l = 91) := by
       have h91 : ldS l (j + 1) = 91 := by rw [HS2.out, if_neg (by simp)]
       show _ = _
       rw [ld_last HI.out.ok (by rw [h91]; decide) HLT.out, h91]
      go_wp2_with fail
      refine wp_region_quiet_below (by kernel_rfl) (by kernel_rfl) ?_; repeat (go_big_quiet_step ((go_at_call 209; exact Calls.regrown_of (FO.out _))))
      refine wpQuiet_nil ?_; intro w4 hb4; replace hb4 := bor hb4; go_wp2_with fail
      refine bodyPost_ret (v := .tuple #[.pointer none, .int .i64 91]) (by simp [results, Tryz.results160, go_sem]) rfl ⟨.inr ⟨by rw [HE.out]; decide, by rw [HE.out]⟩, Below.on HI.out.bl (Below.on HB3.out hb4)⟩
  ·obtain rfl : i = n := by omega
   have HE : Hid (ldE l = 0 ∧ l.take i = l) := ⟨by have := HI.out.ok; rw [HA.out.2.2] at this; exact this, by rw [HA.out.2.2, List.take_of_length_le (Nat.le_refl _)]⟩; go_wp2_with fail
   have HS := HI.out.sto; rw [HE.out.2] at HS; refine bodyPost_ret (v := .tuple #[pt p, .int .i64 0]) (by simp [results, Tryz.results160, go_sem]) rfl ⟨.inl ⟨HE.out.1, p, F, rfl, HS, HI.out.low⟩, HI.out.bl⟩
end Vs
namespace Ig
open Go.RowKit Go.Sort Ys
abbrev put4 (w : World) (p : Nat) (r : Option Addr) (k : Vs.Sp) : World := (((w.setCell ⟨p, 5, none⟩ (.pointer r)).setCell ⟨p, 6, none⟩ (.int .u64 k.a)).setCell ⟨p, 7, none⟩ (.int .u32 k.b)).setCell ⟨p, 8, none⟩ (.int .u32 k.c)
theorem put4_onl (w : World) (p : Nat) (r : Option Addr) (k : Vs.Sp) : Onl (fun b => b = p) w (put4 w p r k) := onl_p _ p 8 _ (onl_p _ p 7 _ (onl_p _ p 6 _ (onl_p _ p 5 _ (Onl.refl _ _))))
theorem put4_part (w : World) (p : Nat) (r : Option Addr) (k : Vs.Sp) : Part p 5 4 w (put4 w p r k) :=
 ((((Part.set w p 5 _).wide (by omega) (by omega)).trans ((Part.set _ p 6 _).wide (by omega) (by omega))).trans ((Part.set _ p 7 _).wide (by omega) (by omega))).trans ((Part.set _ p 8 _).wide (by omega) (by omega))
theorem sto_cells {G : Nat → Prop} {w : World} {q : Nat} {M : Vs.Mst} {k : Vs.Sp} (h : Vs.Sto G w q M k) : ∃ r, w.cell? ⟨q, 0, none⟩ = some (.pointer r) ∧ w.cell? ⟨q, 1, none⟩ = some (.int .u64 k.a) ∧ w.cell? ⟨q, 2, none⟩ = some (.int .u32 k.b) ∧ w.cell? ⟨q, 3, none⟩ = some (.int .u32 k.c) := by
 obtain ⟨mm, h, _⟩ := h; obtain ⟨cs, hc, y1, y2, y3⟩ := h.obj; obtain ⟨Tr, cs', t, hb, _, y0, _⟩ := h.xi; exact ⟨Tr.pt, Vs.cob hb y0, Vs.cob hc y1, Vs.cob hc y2, Vs.cob hc y3⟩
theorem move_store {F G : Nat → Prop} {w : World} {p q : Nat} {m1 m2 m : Option Nat} {V : List Lk.Hv} {I : Lk.It} {s : Ps} {M : Vs.Mst} {k : Vs.Sp} {r : Option Addr} (T : Ys.St F w p m1 m2 m V I s) (h : Vs.Sto G w q M k) (hr : w.cell? ⟨q, 0, none⟩ = some (.pointer r)) :
  ∃ F', Ys.St F' (put4 w p r k) p m1 m2 m V I { s with M := M, wm := k } ∧ ∀ b, F' b → b = p ∨ G b := by
 obtain ⟨mm, h, rfl⟩ := h; obtain ⟨root, hob⟩ := T.obj; have ho := put4_onl w p r k; have hp := put4_part w p r k; obtain ⟨cs', hc', hs', he⟩ := hp _ _ _ hob; obtain ⟨Tr, csq, tq, hbq, hiq, y0, htr, hl, hri⟩ := h.xi; have er : r = Tr.pt := by
  have h1 := Vs.cob hbq y0; rw [hr] at h1; injection h1 with h1
  injection h1
 subst er; obtain ⟨csq', hbq', _⟩ := h.obj; have hpq : p ≠ q := fun e => by
  subst e; rw [hob] at hbq'; injection hbq' with hbq'
  injection hbq' with _ e2
  exact absurd e2 (by decide)
 have hty : ∀ e ∈ mm, ∃ cs z, w.heap[e.2.g]? = some (.cells cs 108 z) := fun e he => (h.row e he).block
 have hgp : ∀ e ∈ mm, e.2.g ≠ p := fun e hm he2 => by
  obtain ⟨cs, z, hz⟩ := hty e hm; rw [he2, hob] at hz; injection hz with hz
  injection hz with _ e2 _
  exact absurd e2 (by decide)
 have hkp : Vs.Kp w (put4 w p Tr.pt k) := Vs.Kp.of_onl ho fun b cs t z hb hc => by
  subst hb; rw [hob] at hc; injection hc with hc
  injection hc with _ e2 _
  subst e2; exact stT_state.1
 have f0 : ∀ j, (put4 w p Tr.pt k).cell? ⟨p, j, none⟩ = cs'[j]? := fun j => by simp [World.cell?, hc']
 have ex : ∀ j, j < 13 → ∃ v, w.cell? ⟨p, j, none⟩ = some v := fun j hj => ⟨_, Vs.cob hob (Array.getElem?_eq_getElem (by show j < 13; exact hj))⟩
 obtain ⟨v5, g5⟩ := ex 5 (by decide); obtain ⟨v6, g6⟩ := ex 6 (by decide); obtain ⟨v7, g7⟩ := ex 7 (by decide); obtain ⟨v8, g8⟩ := ex 8 (by decide); have z5 : cs'[5]? = some (.pointer Tr.pt) := by rw [← f0]; simp [put4, go_sem, g5]
 have z6 : cs'[6]? = some (.int .u64 k.a) := by rw [← f0]; simp [put4, go_sem, g6]
 have z7 : cs'[7]? = some (.int .u32 k.b) := by rw [← f0]; simp [put4, go_sem, g7]
 have z8 : cs'[8]? = some (.int .u32 k.c) := by rw [← f0]; simp [put4, go_sem, g8]
 refine ⟨fun b => b = p ∨ ∃ e ∈ mm, e.2.g = b, T.store ⟨mm, ⟨⟨cs', hc', z6, z7, z8⟩, stT_state, ⟨Tr, cs', SS, hc', stT_state.1, z5, htr.kp hkp, hl, hri⟩, fun e he => (h.row e he).keep (ho.block _ (h.row e he).lt (hgp e he)), h.apart, h.good, .inl rfl, fun e he => .inr ⟨e, he, rfl⟩, fun b hb => ?_⟩, rfl⟩ (ho.mono fun b e => by rw [e]; obtain ⟨_, hx, _⟩ := T.st; exact hx.fp) hp, fun b hb => ?_⟩
 ·rcases hb with rfl | ⟨e, hm, rfl⟩
  ·exact ⟨cs', SS, (0, 0), hc', .inl rfl⟩
  ·obtain ⟨cs, z, hz⟩ := hty e hm; exact ⟨cs, _, z, (ho.block _ (h.row e hm).lt (hgp e hm)).trans hz, .inr rfl⟩
 ·rcases hb with rfl | ⟨e, hm, rfl⟩
  ·exact .inl rfl
  ·exact .inr (h.fr e hm)
theorem _root_.Go.Proofs.YtofpaldolcnmiaaGreat.Ys.St.cell5 {F : Nat → Prop} {w : World} {p : Nat} {m1 m2 m : Option Nat} {V : List Lk.Hv} {I : Lk.It} {s : Ps} (T : Ys.St F w p m1 m2 m V I s) : ∃ v, w.cell? ⟨p, 5, none⟩ = some v := by
 obtain ⟨r, hr⟩ := T.obj; exact ⟨_, Vs.cob hr rfl⟩
def fvB (c : Int) (l : List Vs.Kv) (k : Vs.Sp) : Bool := l.all (fun v => decide (v.2.s.a < c)) && (decide (Vs.ldE l = 0) && decide (k.a < 18446744073709551615))
theorem fillVersions_is {F : Nat → Prop} {w : World} {p : Nat} {m1 m2 m : Option Nat} {V : List Lk.Hv} {I : Lk.It} {s : Ps} {a : Option Addr} {c : Nat} {l : List Vs.Kv} (T : Ys.St F w p m1 m2 m V I s) (h : Vs.RowV w a l) (hl : (l.length + 1) * 64 ≤ 140737488355328) (k : Vs.Sp) :
  Calls Tryz.prog 82 #[cp p, .slice a l.length c, .agg #[.int .u64 k.a, .int .u32 k.b, .int .u32 k.c]] w fun e w' => e = .returned (.bool (fvB s.ceil l k)) ∧ Hid (fvB s.ceil l k = true → ∃ F', Ys.St F' w' p m1 m2 m V I { s with M := Vs.loadM l, wm := k } ∧ ∀ b, F' b → b = p ∨ w.heap.size ≤ b) ∧ Hid (Onl (fun b => b = p) w w') := by
 obtain ⟨n, hn⟩ : ∃ n, n = l.length := ⟨_, rfl⟩; obtain ⟨wx, hwx⟩ : ∃ wx, wx = w.alloc (.cells #[.int .u64 k.a, .int .u32 k.b, .int .u32 k.c] 36) := ⟨_, rfl⟩; have hbx : Below w.heap.size w wx := by rw [hwx]; exact Below.al (Below.refl _ _) _
 have hsx : w.heap.size < wx.heap.size := by rw [hwx]; simp
 have kx : wx.heap[w.heap.size]? = some (.cells #[.int .u64 k.a, .int .u32 k.b, .int .u32 k.c] 36 (0, 0)) := by rw [hwx]; exact World.alloc_heap_new _ _
 have HK := hid kx; have HT := hid T; have HR := hid h; have HBX := hid hbx; rw [← hn] at hl ⊢; have HN := hid hn; have HL := hid hl; clear T h hbx kx hn; go_enter Tryz.func82, Tryz.ntmps82
 go_wp2_with fail
 rw [← hwx]; clear hwx; go_loopg [13] n (fun g s13 wr => ∃ i : Nat, i ≤ n ∧ g = n - i ∧ s13 = .int .i64 (i : Int) ∧ Hid (Below wx.heap.size wx wr) ∧ Hid ((l.take i).all (fun v => decide (v.2.s.a < s.ceil)) = true))
 case atStart => exact ⟨0, by omega, by omega, rfl, Below.refl _ _, rfl⟩
 case round =>
  obtain ⟨i, hin, rfl, rfl, HB, HA⟩ := hrel; by_cases hlt : i < n
  ·obtain ⟨b, off, hab, cv⟩ := (HR.out.later (Below.on HBX.out HB.out)) i (by rw [← HN.out]; exact hlt); subst hab; obtain ⟨e, he⟩ : ∃ e, e = Vs.nthK l i := ⟨_, rfl⟩; have hsn : l.take (i + 1) = l.take i ++ [e] := by rw [he]; exact Vs.nthK_take (by rw [← HN.out]; exact hlt)
   have hem : e ∈ l := by rw [he]; exact Vs.nthK_mem (by rw [← HN.out]; exact hlt)
   rw [← he] at cv; clear he; obtain ⟨c0, c1, c2, c3, c4, c5⟩ := cv; obtain ⟨u, hu⟩ : ∃ u, decide (e.2.s.a < s.ceil) = u := ⟨_, rfl⟩; have HU := hid hu; have HSN := hid hsn; have HEM := hid hem; clear hu hsn hem; go_wp2_with fail
   refine (reserved_is (HT.out.later (Below.on (Below.on HBX.out HB.out) (Below.al (Below.refl _ _) _))) e.2.s HU.out).mono ?_; rintro r w2 ⟨rfl, hb2⟩; have HB2 := hid (Below.on (Below.al HB.out _) hb2); clear hb2; cases u with
   | false =>
    go_wp2_with fail
    go_ret
    have hf : fvB s.ceil l k = false := by
     unfold fvB; rw [List.all_eq_false.2 ⟨e, HEM.out, by rw [HU.out]; decide⟩]; rfl
    exact ⟨rtb hf.symm, fun h9 => (by rw [hf] at h9; cases h9), (Onl.of_below (Below.on HBX.out HB2.out))⟩
   | true =>
    go_wp2_with fail
    go_roundg (n - (i + 1))
    case measure => omega
    case rel =>
     refine ⟨i + 1, by omega, rfl, by go_num, HB2, hid ?_⟩; rw [HSN.out, List.all_append, HA.out]; simp [HU.out]
  ·obtain rfl : i = n := by omega
   have HAll : Hid (l.all (fun v => decide (v.2.s.a < s.ceil)) = true) := by
    have := HA.out; rw [HN.out, List.take_of_length_le (Nat.le_refl _)] at this; exact this
   have kr := (HB.out.block _ hsx).trans HK.out; have k0 := Vs.cob (o := 0) kr rfl; have k1 := Vs.cob (o := 1) kr rfl; have k2 := Vs.cob (o := 2) kr rfl; have LD := hid (Vs.stoload_is (c := c) k (HR.out.later (Below.on HBX.out HB.out)) (by rw [← HN.out]; exact HL.out)); rw [← HN.out] at LD; clear kr hin hlt; go_wp2_with fail
   refine LD.out.mono ?_; rintro r w2 ⟨hp, hb2⟩; have hw2 : Below wx.heap.size wx w2 := Below.on HB.out hb2; have k2' := (hw2.block _ hsx).trans HK.out; have k0 := Vs.cob (o := 0) k2' rfl; have k1 := Vs.cob (o := 1) k2' rfl; have k2 := Vs.cob (o := 2) k2' rfl; have HW2 := hid hw2; have hbw : w.heap.size ≤ wr.heap.size := Nat.le_trans HBX.out.size HB.out.size; clear hw2 k2' hb2; rcases hp with ⟨h0, q, G, rfl, hS, hG⟩ | ⟨h0, rfl⟩
   ·obtain ⟨u, hu⟩ : ∃ u, decide (k.a < 18446744073709551615) = u := ⟨_, rfl⟩; have US := hid (fun W => Vs.usable_at (t := k) hu W); have HF : Hid (fvB s.ceil l k = u) := by show fvB _ _ _ = _; unfold fvB; rw [HAll.out, h0, hu]; simp
    have HS := hid hS; have HG := hid hG; clear hu hS hG h0; cases u with
    | false =>
     go_wp2_with (go_at_call 125; refine (US.out _).mono ?_; rintro r w3 ⟨rfl, hb3⟩)
     go_ret
     exact ⟨rtb HF.out.symm, fun h9 => (by rw [HF.out] at h9; cases h9), Onl.of_below (Below.on (Below.on HBX.out HW2.out) hb3)⟩
    | true =>
     go_wp2_with (go_at_call 125; refine (US.out _).mono ?_; rintro r w3 ⟨rfl, hb3⟩; obtain ⟨rt, x0, x1, x2, x3⟩ := sto_cells (HS.out.later hb3); have T3 := hid (HT.out.later (Below.on (Below.on HBX.out HW2.out) hb3)); have p5 := T3.out.cell5; obtain ⟨v5, p5⟩ := p5; have p6 := T3.out.cell (j := 6) (v := .int .u64 s.wm.a) (fun _ => rfl); have p7 := T3.out.cell (j := 7) (v := .int .u32 s.wm.b) (fun _ => rfl); have p8 := T3.out.cell (j := 8) (v := .int .u32 s.wm.c) (fun _ => rfl); have pf := T3.out.loose; have HB3 := hid hb3; have HX0 := hid x0; clear hb3)
     go_ret
     refine ⟨rtb HF.out.symm, fun _ => ?_, hid ?_⟩
     ·obtain ⟨F', h1, h2⟩ := move_store T3.out (HS.out.later HB3.out) HX0.out; exact ⟨F', h1, fun b hb => by
       rcases h2 b hb with h3 | h3
       ·exact .inl h3
       ·exact .inr (Nat.le_trans hbw (HG.out b h3))⟩
     ·exact (Onl.of_below (Below.on (Below.on HBX.out HW2.out) HB3.out)).trans (put4_onl _ p rt k)
   ·have hne : (Vs.ldE l != 0) = true := by simpa using h0
    have HF : Hid (fvB s.ceil l k = false) := by show fvB _ _ _ = _; unfold fvB; rw [HAll.out, decide_eq_false h0]; rfl
    clear h0; go_wp2_with fail
    go_ret
    exact ⟨rtb HF.out.symm, fun h9 => (by rw [HF.out] at h9; cases h9), Onl.of_below (Below.on HBX.out HW2.out)⟩
end Ig
end Go.Proofs.YtofpaldolcnmiaaGreat
