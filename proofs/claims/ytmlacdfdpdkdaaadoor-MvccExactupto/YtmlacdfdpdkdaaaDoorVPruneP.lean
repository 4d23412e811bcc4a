import Derived.Test.YtmlacdfdpdkdaaaDoorRvAbove
import Derived.Test.YtmlacdfdpdkdaaaDoorVRowsV
/- The document's Prune. -/
namespace Go.Proofs.YtmlacdfdpdkdaaaDoor.Vs
open Go.RowKit Go.Sort
set_option linter.unusedVariables false

def ruL (L : List Kv) (mk t : Sp) : List Kv := if mk.lt t then walkL (prG' t) L else L
def ruK (mk t : Sp) : Sp := if mk.lt t then t else mk
/-- what Prune leaves -/
def PuP (w : World) (B r : Nat) (v : Value) (L : List Kv) (mk t : Sp) (e : Ending) (w' : World) : Prop := e = .returned (.int .i64 ((L.length : Int) - ((ruL L mk t).length : Int))) ∧ ∃ v', Rs w' B r v' (ruL L mk t) (ruK mk t) ∧ (∀ k, RsB r v' k → RsB r v k ∨ w.heap.size ≤ k) ∧ Onl (fun k => k = r) w w'
theorem mark_set {w : World} {B r : Nat} {v : Value} {L : List Kv} {mk t : Sp} (h : Rs w B r v L mk) : Rs (((w.setCell ⟨r, 1, none⟩ (.int .u64 t.a)).setCell ⟨r, 2, none⟩ (.int .u32 t.b)).setCell ⟨r, 3, none⟩ (.int .u32 t.c)) B r v L t := by
  have hs : ∀ {w : World} {cs : Array Value} {ty : TypeId} {i : Nat} {x : Value}, w.heap[r]? = some (.cells cs ty (0, 0)) → (w.setCell ⟨r, i, none⟩ x).heap[r]? = some (.cells (cs.setIfInBounds i x) ty (0, 0)) := fun {w cs ty i x} h => by
    rw [setCell_eq]; simp [mapBlock, Array.getElem?_modify, h, onCells]
  refine ⟨?_, ?_, h.ne⟩
  · rw [hs (hs (hs h.blk))]; rfl
  · refine h.row.onl (F := fun k => k = r) ?_ fun g hg e => h.ne (e ▸ hg)
    exact Onl.set (F := fun k => k = r) (Onl.set (F := fun k => k = r) (Onl.set (F := fun k => k = r) (Onl.refl _ _) rfl _ _) rfl _ _) rfl _ _
theorem list_set {w : World} {B r : Nat} {v v' : Value} {L L' : List Kv} {mk : Sp} (h : Rs w B r v L mk) (hr : OwnV w B v' L') (hn : v'.ownBlock ≠ some r) : Rs (w.setCell ⟨r, 0, none⟩ v') B r v' L' mk := by
  refine ⟨?_, hr.onl (F := fun k => k = r) (Onl.set (F := fun k => k = r) (Onl.refl _ _) rfl _ _) fun g hg e => hn (e ▸ hg), hn⟩
  rw [setCell_eq]; simp [mapBlock, Array.getElem?_modify, h.blk, onCells]
set_option maxRecDepth 16000 in
set_option maxHeartbeats 4000000 in
theorem rprune_is {w : World} {B r : Nat} {v : Value} {L : List Kv} {mk : Sp} (h : Rs w B r v L mk) (hl : L.length ≤ 1099511627776) (hB : B ≤ w.heap.size) (t : Sp) :
    Calls Tryd.prog 37 #[pt r, sv t] w (PuP w B r v L mk t) := by
  obtain ⟨a, c, rfl, hrow⟩ := h.slice
  obtain ⟨w1, hw1⟩ : ∃ w1, w1 = w.alloc (.cells #[.int .u64 t.a, .int .u32 t.b, .int .u32 t.c] 33) := ⟨_, rfl⟩
  have hb1 : Below w.heap.size w w1 := by rw [hw1]; (repeat (first | with_reducible exact Below.refl _ _ | with_reducible assumption | with_reducible refine Below.drew ?_ | with_reducible refine Below.al ?_ _ | with_reducible refine Below.setCell ?_ (by first | exact Nat.le_refl _ | (simp; omega) | (simp; done)) _ | with_reducible refine Below.on ?_ (by assumption)))
  have HT : Hid (StC w1 w.heap.size t) := hid (by rw [hw1]; exact ⟨by simp, by simp, by simp⟩)
  have HR := hid (h.later hb1)
  have HB1 := hid hb1
  have HH := hid h
  have HBB := hid hB
  have HRL := hid h.lt
  have c1 := cell_regrown HR.out.c1
  have c2 := cell_regrown HR.out.c2
  have c3 := cell_regrown HR.out.c3
  have t0 := cell_regrown HT.out.c0
  have t1 := cell_regrown HT.out.c1
  have t2 := cell_regrown HT.out.c2
  obtain ⟨n, hn⟩ : ∃ n, n = L.length := ⟨_, rfl⟩
  have HN := hid hn
  have hn2 : n ≤ 1099511627776 := by omega
  have HLL := hid hl
  clear h hrow hb1 hn hl hB
  obtain ⟨u, hu⟩ : ∃ u, mk.lt t = u := ⟨_, rfl⟩
  have AB := hid fun wz => rabove_is (s := t) (t := mk) hu wz
  have HU := hid hu
  clear hu
  cases u with
  | false =>
    go_enter Tryd.func37, Tryd.ntmps37
    go_wp2_with fail
    rw [← hw1]
    clear hw1
    refine wp_region_quiet_below (by kernel_rfl) (by kernel_rfl) ?_
    repeat (go_big_quiet_step ((go_at_call 53; exact Calls.regrown_of (AB.out _))))
    refine wpQuiet_nil ?_
    intro w3 hw3
    replace hw3 := below_of_regrown hw3
    clear c1 c2 c3 t0 t1 t2
    go_wp2_with fail
    go_ret
    have e1 : ruL L mk t = L := by unfold ruL; rw [HU.out]; rfl
    have e2 : ruK mk t = mk := by unfold ruK; rw [HU.out]; rfl
    refine ⟨by rw [e1, Int.sub_self]; rfl, _, by rw [e1, e2]; exact HH.out.later (Below.on HB1.out hw3), fun k hk => .inl hk, Onl.of_below (Below.on HB1.out hw3)⟩
  | true =>
    have E1 : Hid (ruL L mk t = walkL (prG' t) L) := hid (by unfold ruL; rw [HU.out]; rfl)
    have E2 : Hid (ruK mk t = t) := hid (by unfold ruK; rw [HU.out]; rfl)
    go_enter Tryd.func37, Tryd.ntmps37
    go_wp2_with fail
    rw [← hw1]
    clear hw1
    refine wp_region_quiet_below (by kernel_rfl) (by kernel_rfl) ?_
    repeat (go_big_quiet_step ((go_at_call 53; exact Calls.regrown_of (AB.out _))))
    refine wpQuiet_nil ?_
    intro w3 hw3
    replace hw3 := below_of_regrown hw3
    have HW3 := hid (Below.on HB1.out hw3)
    have HR3 := hid (HR.out.later hw3)
    have m1 := HR3.out.c1
    have m2 := HR3.out.c2
    have m3 := HR3.out.c3
    have mf := HR3.out.loose
    have q0 := (HT.out.later hw3).c0
    have q1 := (HT.out.later hw3).c1
    have q2 := (HT.out.later hw3).c2
    have HT3 := hid (HT.out.later hw3)
    clear c1 c2 c3 t0 t1 t2 hw3
    go_upto_region 4 with fail
    obtain ⟨wS, hwS⟩ : ∃ wS, wS = ((w3.setCell ⟨r, 1, none⟩ (.int .u64 t.a)).setCell ⟨r, 2, none⟩ (.int .u32 t.b)).setCell ⟨r, 3, none⟩ (.int .u32 t.c) := ⟨_, rfl⟩
    rw [← hwS]
    have HRS : Hid (Rs wS B r (.slice a L.length c) L t) := hid (by rw [hwS]; exact mark_set HR3.out)
    have HOS : Hid (Onl (fun k => k = r) w wS) := hid (by rw [hwS]; exact Onl.set (F := fun k => k = r) (Onl.set (F := fun k => k = r) (Onl.set (F := fun k => k = r) (Onl.of_below HW3.out) rfl _ _) rfl _ _) rfl _ _)
    have HTS : Hid (StC wS w.heap.size t) := hid (by
      have hne : w.heap.size ≠ r := by have := HRL.out; omega
      have ho : Onl (fun k => k = r) w3 wS := by rw [hwS]; exact Onl.set (F := fun k => k = r) (Onl.set (F := fun k => k = r) (Onl.set (F := fun k => k = r) (Onl.refl _ _) rfl _ _) rfl _ _) rfl _ _
      exact ⟨ho.cell hne HT3.out.c0, ho.cell hne HT3.out.c1, ho.cell hne HT3.out.c2⟩)
    clear hwS m1 m2 m3 mf q0 q1 q2
    have HROW : Hid (RowV wS a L) := hid (OwnV.row HRS.out.row)
    go_wp2_with fail
    go_loopg [5, 6] n (fun g s5 s6 wr => ∃ k : Nat, ∃ za zc, ∃ l : List Kv, k ≤ n ∧ g = n - k ∧ s5 = .slice za l.length zc ∧ s6 = .int .i64 k ∧ l.length ≤ k ∧ Hid (Ga (prG' t) L k l) ∧ Hid (OwnV wr wS.heap.size (.slice za l.length zc) l) ∧ Hid (Below wS.heap.size wS wr))
    case atStart => exact ⟨0, none, 0, [], by omega, by omega, rfl, rfl, by simp, hid (Ga.start _ _), hid (OwnV.nil _ _), hid (Below.refl _ _)⟩
    case round =>
      obtain ⟨k, za, zc, l, hk, rfl, rfl, rfl, hll, HG, HO, HB⟩ := hrel
      have HRr := hid (HRS.out.later HB.out)
      have c0 := HRr.out.c0
      rw [← HN.out] at c0
      by_cases hlt : k < n
      · have hkL : k < L.length := by rw [← HN.out]; exact hlt
        obtain ⟨b, off, rfl, hv⟩ := (HROW.out.later HB.out) k hkL
        obtain ⟨⟨k1, s1, d1, v1⟩, hx⟩ : ∃ x, x = nthK L k := ⟨_, rfl⟩
        rw [← hx] at hv
        have HV := hid hv
        have y1 := cell_regrown hv.c1
        have y2 := cell_regrown hv.c2
        have y3 := cell_regrown hv.c3
        have y4 := cell_regrown hv.c4
        have e0 := cell_regrown c0
        have p0 := cell_regrown (HTS.out.later HB.out).c0
        have p1 := cell_regrown (HTS.out.later HB.out).c1
        have p2 := cell_regrown (HTS.out.later HB.out).c2
        simp only at y1 y2 y3 y4
        obtain ⟨ua, hua⟩ : ∃ ua, t.lt s1 = ua := ⟨_, rfl⟩
        obtain ⟨un, hun⟩ : ∃ un, nwB t (nthK L k) (L.drop (k + 1)) = un := ⟨_, rfl⟩
        have AB2 := hid fun wz => rabove_is (s := s1) (t := t) hua wz
        have HNW := hid fun wz (hb : Below wr.heap.size wr wz) => newest_is (HRr.out.later hb) hkL HLL.out hun
        have HKL := hid hkL
        have HGV : Hid (prG' t (nthK L k) (L.drop (k + 1)) = if ua || (un && !d1) then [(k1, ⟨s1, d1, v1⟩)] else []) := hid (by unfold prG'; rw [hun, ← hx]; simp only; rw [hua])
        have HL1 : Hid ((l.length + 1) * 64 ≤ 140737488355328) := hid (by omega)
        clear hx hkL hv hua hun
        cases ua <;> cases un <;> cases d1
        all_goals
          go_wp2_with fail
          clear c0
          refine wp_region_quiet_below (by kernel_rfl) (by kernel_rfl) ?_
          repeat (go_big_quiet_step ((first | (go_at_call 53; exact Calls.regrown_of (AB2.out _)) | (go_at_call 55; exact Calls.regrown_of (HNW.out _ (below_regrown _ _ _))))))
          refine wpQuiet_nil ?_
          intro w5 hw5
          replace hw5 := below_of_regrown hw5
          have HW5 := hid (Below.on HB.out hw5)
          have HO5 := hid (HO.out.later hw5)
          have f0 := (HRr.out.later hw5).c0
          rw [← HN.out] at f0
          obtain ⟨x0, x1, x2, x3, x4, x5⟩ := HV.out.later hw5
          simp only at x0 x1 x2 x3 x4 x5
          clear hw5 y1 y2 y3 y4 e0 p0 p1 p2
          go_wp2_with (at_builtin; refine append_V rfl _ _ rfl (k1, ⟨s1, _, v1⟩) rfl (HO5.out.later (Below.al (Below.refl _ _) _)) rfl (ver_cells _ k1 ⟨s1, _, v1⟩) HL1.out (by have := HW5.out.size; simp at this ⊢; omega) ?_; intro v7 w7 ho hg; obtain ⟨za', zc', e9⟩ := OwnV.slice ho; subst e9; have HO7 := hid ho; have HB7 : Hid (Below wS.heap.size wS w7) := hid (OwnV.grown (HO5.out.later (Below.al (Below.refl _ _) (.cells (vcs k1 ⟨s1, _, v1⟩) 76))) hg (Below.al HW5.out _) (Nat.le_refl _)); clear ho hg)
        all_goals first
          | (go_roundg (n - (k + 1)); (case measure => omega); (case rel => exact ⟨k + 1, za', zc', l ++ [(k1, ⟨s1, _, v1⟩)], by omega, rfl, by rw [List.length_append]; rfl, by go_num, by rw [List.length_append]; simp; omega, hid (HG.out.take HKL.out (by rw [HGV.out]; rfl)), HO7, HB7⟩))
          | (go_roundg (n - (k + 1)); (case measure => omega); (case rel => exact ⟨k + 1, za, zc, l, by omega, rfl, rfl, by go_num, by omega, hid (HG.out.skip HKL.out (by rw [HGV.out]; rfl)), HO5, HW5⟩))
      · obtain rfl : n = k := by omega
        have HE : Hid (l = walkL (prG' t) L) := hid (by have := HG.out; rw [HN.out] at this; exact this.end)
        have HF : Hid (∀ o, wr.frozen? ⟨r, o, none⟩ = false) := hid HRr.out.loose
        have hfz := HF.out
        have HLO : Hid (∀ k, (Value.slice za l.length zc).ownBlock = some k → wS.heap.size ≤ k) := hid fun k e => (World.ownsRow.lt HO.out k e).1
        have hsub : l.length ≤ n := hll
        go_wp2_with fail
        go_ret
        have hS := HOS.out.size
        refine ⟨by rw [E1.out, ← HE.out, ← HN.out]; rfl, .slice za l.length zc, ?_, fun k hk => ?_, ?_⟩
        · rw [E1.out, E2.out, ← HE.out]
          exact list_set HRr.out (HO.out.base (Nat.le_trans HBB.out hS)) fun e => by have := HLO.out r e; have := HRL.out; omega
        · rcases hk with hk | hk
          · exact .inl (.inl hk)
          · exact .inr (Nat.le_trans hS (HLO.out k hk))
        · exact Onl.set (F := fun k => k = r) (HOS.out.on HB.out) rfl _ _
end Go.Proofs.YtmlacdfdpdkdaaaDoor.Vs
namespace Go.Proofs.YtmlacdfdpdkdaaaDoor.Vs
open Go.RowKit Go.Sort
set_option linter.unusedVariables false

/-- the n oldest of a key's chain cs go -/
def dropM (M : Mst) (k : ByteArray) (cs : Chain) (n : Nat) : Mst := if n = 0 then M else if n = cs.length then delX M k else setX M k (cs.drop n)
theorem dropM_good {M : Mst} (h : Good M) {k : ByteArray} {cs : Chain} (hr : Ris cs) {n : Nat} (hn : n ≤ cs.length) : Good (dropM M k cs n) := by
  unfold dropM
  split
  · exact h
  · split
    · exact ⟨delX_rising h.rising k, fun e he => h.chain e ((delX_mem _ _ _).1 he).1⟩
    · refine ⟨setX_rising h.rising _ _, fun e he => ?_⟩
      rcases (setX_mem h.rising _ _ e).1 he with rfl | ⟨he, _⟩
      · refine ⟨fun e => ?_, List.Pairwise.drop hr⟩
        have := congrArg List.length e
        simp at this; omega
      · exact h.chain e he
theorem pairwise_del {R : En → En → Prop} {l : List En} (h : l.Pairwise R) (k : ByteArray) : (delX l k).Pairwise R := List.Pairwise.filter _ h
theorem StoX.deleted {F : Nat → Prop} {w w' : World} {p o : Nat} {t : TypeId} {m : List En} {mk : Sp} {k : ByteArray} (h : StoX F w p o t m mk) (hx : Xi w' p o (delX m k)) (ho : Onl (fun b => b = p) w w') (hpt : Part p o 1 w w') : StoX F w' p o t (delX m k) mk := by
  obtain ⟨cs, bp, x1, x2, x3⟩ := h.obj
  obtain ⟨cs4, bp4, s4, e4⟩ := hpt cs t (0, 0) bp
  refine ⟨⟨cs4, bp4, by rw [e4 _ (by omega)]; exact x1, by rw [e4 _ (by omega)]; exact x2, by rw [e4 _ (by omega)]; exact x3⟩, h.ty, hx, fun e he => ?_, pairwise_del h.apart k, ?_, h.fp, fun e he => h.fr e ((delX_mem _ _ _).1 he).1, fun b hf => ?_⟩
  · have r := h.row e ((delX_mem _ _ _).1 he).1
    obtain ⟨cs, z, hb⟩ := r.block
    exact r.keep (ho.block _ r.lt (type_ne hb bp h.ty.2.symm))
  · rw [abs_del]; exact ⟨delX_rising h.good.rising k, fun e he => h.good.chain e ((delX_mem _ _ _).1 he).1⟩
  · by_cases e : b = p
    · subst e; exact ⟨_, _, _, bp4, .inl rfl⟩
    · obtain ⟨cs, t, z, hc, ht⟩ := h.own b hf
      exact ⟨cs, t, z, (ho.block b (h.lt hf) e).trans hc, ht⟩
/-- a chain in new memory is laid under its key -/
theorem StoX.anew {F : Nat → Prop} {w w3 w4 : World} {p o : Nat} {t : TypeId} {m : List En} {mk : Sp} {k : ByteArray} (h : StoX F w p o t m mk) (hd : Hd) (row : Row w3 k hd) (hb : Below w.heap.size w w3) (hg : w.heap.size ≤ hd.g)
    (hx : Xi w4 p o (setX m k hd)) (ho : Onl (fun b => b = p) w3 w4) (hpt : Part p o 1 w3 w4) (good : Good (setX (abs m) k hd.vs)) :
    ∃ F', StoX F' w4 p o t (setX m k hd) mk ∧ (∀ b, F' b → F b ∨ w.heap.size ≤ b) :=
  let ⟨F', h1, h2, _⟩ := h.laid (ga := none) (n := 0) (cap := 0) hd (fun b hb => by simp [Value.ownBlock] at hb) (fun e _ _ hb => by simp [Value.ownBlock] at hb) row ⟨hb.os, hb.tape, hb.output, hb.size, fun k hk _ => hb.block k hk⟩ (.inr hg) hx ho hpt good
  ⟨F', h1, h2⟩

set_option maxHeartbeats 1000000 in
set_option maxRecDepth 8000 in
theorem drop_is {F : Nat → Prop} {w : World} {p o : Nat} {ty : TypeId} {m : List En} {mk : Sp} {k : ByteArray} {hd : Hd} {n : Nat} (h : StoX F w p o ty m mk) (r : Row w k hd) (hr : Ris hd.vs) (hn : n ≤ hd.n) (hb : (hd.n + 1) * 64 ≤ 140737488355328) (hm : m.length + 1 ≤ 1152921504606846976) :
    Calls Tryd.prog 62 #[.pointer (some ⟨p, o, none⟩), .string k, .slice (some ⟨hd.g, 0, none⟩) hd.n hd.cap, .int .i64 n] w fun e w' => (∃ v0, e = .returned v0) ∧ (∃ F' m', StoX F' w' p o ty m' mk ∧ abs m' = dropM (abs m) k hd.vs n ∧ m'.length ≤ m.length + 1 ∧ ∀ b, F' b → F b ∨ w.heap.size ≤ b) ∧ Onl (fun b => b = p) w w' ∧ Part p o 1 w w' := by
  have hlen := r.len
  have hgd := dropM_good (k := k) h.good hr (n := n) (by omega)
  by_cases h0 : n = 0
  · subst h0
    have HE : Hid (dropM (abs m) k hd.vs 0 = abs m) := rfl
    have H := hid h
    clear h r hr hn hb hm hlen hgd
    go_enter Tryd.func62, Tryd.ntmps62
    go_wp2_with fail
    go_end0
    exact ⟨⟨_, rfl⟩, ⟨F, m, H.out, HE.out.symm, by omega, fun b hb => .inl hb⟩, Onl.refl _ _, Part.refl _ _ _ _⟩
  · have q0 : ((n : Int) == 0) = false := by rw [beq_eq_false_iff_ne]; omega
    by_cases h1 : n = hd.n
    · subst h1
      have HE : Hid (dropM (abs m) k hd.vs hd.n = delX (abs m) k) := by show _ = _; unfold dropM; rw [if_neg h0, if_pos hlen.symm]
      have DL := hid (del_is h.xi k hm)
      have H := hid h
      obtain ⟨g, n, cap, vs⟩ := hd
      simp only at HE q0 ⊢
      clear h r hr hn hb hm hlen hgd h0
      go_enter Tryd.func62, Tryd.ntmps62
      go_wp2_with (go_at_call 79; refine DL.out.mono ?_; rintro e w1 ⟨rfl, hx, ho, hpt⟩)
      go_end0
      refine ⟨⟨_, rfl⟩, ⟨F, delX m k, H.out.deleted hx ho hpt, by rw [abs_del]; exact HE.out.symm, ?_, fun b hb => .inl hb⟩, ho, hpt⟩
      have : (delX m k).length ≤ m.length := List.length_filter_le _ _
      omega
    · have q1 : ((n : Int) == (hd.n : Int)) = false := by rw [beq_eq_false_iff_ne]; omega
      have HE : Hid (dropM (abs m) k hd.vs n = setX (abs m) k (hd.vs.drop n)) := by show _ = _; unfold dropM; rw [if_neg h0, if_neg (by omega)]
      rw [HE.out] at hgd
      have WO : Hid (∀ W, Below w.heap.size w W → _) := fun W hb' => without_is' (r.later hb') (by omega : n < hd.n) hb
      have ST : Hid (∀ W (hd' : Hd), Below w.heap.size w W → _) := fun W hd' hb' => set_is (h.xi.later hb') k hd' hm
      have HA : Hid (∀ w3 w4 (hd' : Hd), Below w.heap.size w w3 → Row w3 k hd' → hd'.vs = hd.vs.drop n → w.heap.size ≤ hd'.g → Xi w4 p o (setX m k hd') → Onl (fun b => b = p) w3 w4 → Part p o 1 w3 w4 → ∃ F' m', StoX F' w4 p o ty m' mk ∧ abs m' = dropM (abs m) k hd.vs n ∧ m'.length ≤ m.length + 1 ∧ ∀ b, F' b → F b ∨ w.heap.size ≤ b) := fun w3 w4 hd' hb' row hvs hg hx ho hpt => by
        obtain ⟨F', s1, s2⟩ := h.anew hd' row hb' hg hx ho hpt (by rw [hvs]; exact hgd)
        exact ⟨F', _, s1, by rw [abs_set, hvs, HE.out], setX_len _ _ _, s2⟩
      obtain ⟨vs0, hvs0⟩ : ∃ v, v = hd.vs := ⟨_, rfl⟩
      rw [← hvs0] at WO HA HE ⊢
      obtain ⟨g, q, cap, vs⟩ := hd
      simp only at q1 WO ⊢
      clear h r hr hn hb hm hlen hgd h0 h1 hvs0
      go_enter Tryd.func62, Tryd.ntmps62
      go_wp2_with fail
      go_region_held3 (fun w' => Onl (fun b => b = p) w w')
        ((repeat (first | exact Onl.refl _ _ | assumption | refine Onl.drew ?_ | refine Onl.al ?_ _)))
        (first
          | (go_at_call 49; refine (ST.out w3 hd' hc3).mono ?_; rintro e w4 ⟨rfl, hx, ho4, hp4⟩; have hO4 : Onl (fun b => b = p) w w4 := hO3.trans ho4)
          | (go_at_call 80; refine (WO.out _ (by (repeat (first | exact Below.refl _ _ | assumption | refine Below.drew ?_ | refine Below.al ?_ _ | refine Below.setCell ?_ (by first | exact Nat.le_refl _ | (simp; omega) | (simp; done)) _ | refine Below.on ?_ (by assumption))))).mono ?_; rintro e w3 ⟨hd', rfl, hr3, hv3, hg3, hb3⟩; have hc3 : Below w.heap.size w w3 := (by (repeat (first | exact Below.refl _ _ | assumption | refine Below.drew ?_ | refine Below.al ?_ _ | refine Below.setCell ?_ (by first | exact Nat.le_refl _ | (simp; omega) | (simp; done)) _ | refine Below.on ?_ (by assumption)))); have hO3 : Onl (fun b => b = p) w w3 := Onl.of_below hc3))
      go_wp2_with fail
      go_end0
      exact ⟨⟨_, rfl⟩, HA.out w3 w4 hd' hc3 hr3 hv3 (by first | exact hg3 | (have := hg3; simpa using this)) hx ho4 hp4, hO4, (Part.below hc3).trans hp4⟩
end Go.Proofs.YtmlacdfdpdkdaaaDoor.Vs
/- Prune, plain, and what its loop keeps. -/
namespace Go.Proofs.YtmlacdfdpdkdaaaDoor.Vs
open Go.RowKit Go.Sort Go.Shelf
set_option linter.unusedVariables false

def stepP (t : Sp) (M : Mst) (e : ByteArray × Chain) : Mst := dropM M e.1 e.2 (unseen e.2 t)
theorem set_mid {l r : Mst} {k : ByteArray} {v u : Chain} (h1 : ∀ e ∈ l, lt e.1 k = true) : setX (l ++ (k, v) :: r) k u = l ++ (k, u) :: r := by
  induction l with
  | nil => simp [setX, lt_irrefl]
  | cons x l ih =>
    simp only [List.cons_append, setX]
    rw [if_pos (h1 x (by simp)), ih (fun e he => h1 e (by simp [he]))]
theorem del_mid {l r : Mst} {k : ByteArray} {v : Chain} (h1 : ∀ e ∈ l, e.1 ≠ k) (h2 : ∀ e ∈ r, e.1 ≠ k) : delX (l ++ (k, v) :: r) k = l ++ r := by
  unfold delX
  rw [List.filter_append, List.filter_cons, if_neg (by simp), List.filter_eq_self.2 (fun e he => by simp [h1 e he]), List.filter_eq_self.2 (fun e he => by simp [h2 e he])]
theorem pruneM_app (a b : Mst) (t : Sp) : pruneM (a ++ b) t = pruneM a t ++ pruneM b t := List.filterMap_append ..
theorem pruneM_key {M : Mst} {t : Sp} {e : ByteArray × Chain} (h : e ∈ pruneM M t) : ∃ e' ∈ M, e'.1 = e.1 := by
  obtain ⟨x, hx, hxe⟩ := List.mem_filterMap.1 h
  split at hxe
  · cases hxe
  · injection hxe with hxe; exact ⟨x, hx, by rw [← hxe]⟩
theorem fold_prune (t : Sp) : ∀ (rest pre : Mst), Rising (pre ++ rest) → (∀ e ∈ rest, e.2 ≠ []) → rest.foldl (stepP t) (pruneM pre t ++ rest) = pruneM (pre ++ rest) t
  | [], pre, _, _ => by simp
  | x :: rest, pre, h, hne => by
    have hp := List.pairwise_append.1 h
    have hx := List.pairwise_cons.1 hp.2.1
    have h1 : ∀ e ∈ pruneM pre t, lt e.1 x.1 = true := fun e he => by
      obtain ⟨e', he', ek⟩ := pruneM_key he
      rw [← ek]; exact hp.2.2 e' he' x (by simp)
    have hl := List.length_pos_iff.2 (hne x (by simp))
    have hstep : stepP t (pruneM pre t ++ x :: rest) x = pruneM (pre ++ [x]) t ++ rest := by
      obtain ⟨k, cs⟩ := x
      unfold stepP dropM
      rw [pruneM_app]
      by_cases h0 : unseen cs t = 0
      · rw [if_pos h0]
        have hne0 : ¬ unseen cs t = cs.length := by simp only at hl; omega
        have : pruneM [(k, cs)] t = [(k, cs)] := by unfold pruneM; simp only [List.filterMap_cons, List.filterMap_nil]; rw [if_neg hne0]; simp [h0]
        rw [this]; simp
      · rw [if_neg h0]
        by_cases h2 : unseen cs t = cs.length
        · rw [if_pos h2, del_mid (fun e he => lt_ne (h1 e he)) (fun e he e' => lt_ne (hx.1 e he) e'.symm)]
          have : pruneM [(k, cs)] t = [] := by unfold pruneM; simp only [List.filterMap_cons, List.filterMap_nil]; rw [if_pos h2]
          rw [this]; simp
        · rw [if_neg h2, set_mid h1]
          have : pruneM [(k, cs)] t = [(k, cs.drop (unseen cs t))] := by unfold pruneM; simp only [List.filterMap_cons, List.filterMap_nil]; rw [if_neg h2]
          rw [this]; simp
    rw [List.foldl_cons, hstep, fold_prune t rest (pre ++ [x]) (by rw [List.append_assoc]; exact h) (fun e he => hne e (by simp [he])), List.append_assoc]
    rfl
theorem prune_all {M : Mst} (h : Good M) (t : Sp) : M.foldl (stepP t) M = pruneM M t := fold_prune t M [] h.rising fun e he => (h.chain e he).1
/-- what Prune answers, and what it leaves -/
def prG (M : Mst) (mk t : Sp) : Nat := if mk.lt t then goneM M t else 0
def prM (M : Mst) (mk t : Sp) : Mst := if mk.lt t then pruneM M t else M
def prK (mk t : Sp) : Sp := if mk.lt t then t else mk
def goneE (l : List En) (t : Sp) : Nat := (l.map fun e => unseen e.2.vs t).sum
theorem goneE_snoc (l : List En) (e : En) (t : Sp) : goneE (l ++ [e]) t = goneE l t + unseen e.2.vs t := by simp [goneE]
theorem goneE_abs (l : List En) (t : Sp) : goneE l t = goneM (abs l) t := by unfold goneE goneM abs; rw [List.map_map]; rfl
theorem goneE_bound {E : List En} (t : Sp) (N : Nat) (hN : ∀ e ∈ E, e.2.vs.length ≤ N) : ∀ pre : List (Of E), goneE (pre.map (fun x => x.1)) t ≤ pre.length * N
  | [] => by simp [goneE]
  | x :: pre => by
    have := goneE_bound t N hN pre
    have h1 := hN x.1 x.2
    have h2 := unseen_le x.1.2.vs t
    simp only [goneE, List.map_cons, List.sum_cons, List.length_cons, Nat.add_mul, Nat.one_mul] at *
    omega

/-- the watermark is written -/
theorem StoX.marked {F : Nat → Prop} {w : World} {p o : Nat} {ty : TypeId} {m : List En} {mk : Sp} (h : StoX F w p o ty m mk) (t : Sp) : StoX F (((w.setCell ⟨p, o + 1, none⟩ (.int .u64 t.a)).setCell ⟨p, o + 2, none⟩ (.int .u32 t.b)).setCell ⟨p, o + 3, none⟩ (.int .u32 t.c)) p o ty m t ∧
    Onl (fun b => b = p) w (((w.setCell ⟨p, o + 1, none⟩ (.int .u64 t.a)).setCell ⟨p, o + 2, none⟩ (.int .u32 t.b)).setCell ⟨p, o + 3, none⟩ (.int .u32 t.c)) ∧ Part p o 4 w (((w.setCell ⟨p, o + 1, none⟩ (.int .u64 t.a)).setCell ⟨p, o + 2, none⟩ (.int .u32 t.b)).setCell ⟨p, o + 3, none⟩ (.int .u32 t.c)) := by
  have ho : Onl (fun b => b = p) w (((w.setCell ⟨p, o + 1, none⟩ (.int .u64 t.a)).setCell ⟨p, o + 2, none⟩ (.int .u32 t.b)).setCell ⟨p, o + 3, none⟩ (.int .u32 t.c)) := (((Onl.refl (fun k => k = p) w).set (p := p) rfl _ _).set (p := p) rfl _ _).set (p := p) rfl _ _
  have hpt : Part p o 4 w (((w.setCell ⟨p, o + 1, none⟩ (.int .u64 t.a)).setCell ⟨p, o + 2, none⟩ (.int .u32 t.b)).setCell ⟨p, o + 3, none⟩ (.int .u32 t.c)) := (((Part.set w p (o + 1) _).wide (by omega) (by omega)).trans ((Part.set _ p (o + 2) _).wide (by omega) (by omega))).trans ((Part.set _ p (o + 3) _).wide (by omega) (by omega))
  obtain ⟨cs, hb, x1, x2, x3⟩ := h.obj
  have h1 := heap_put (o := o + 1) (.int .u64 t.a) hb
  have h2 := heap_put (o := o + 2) (.int .u32 t.b) h1
  have h3 := heap_put (o := o + 3) (.int .u32 t.c) h2
  have l1 := (Array.getElem?_eq_some_iff.1 x1).1
  have l2 := (Array.getElem?_eq_some_iff.1 x2).1
  have l3 := (Array.getElem?_eq_some_iff.1 x3).1
  have hk : Kp w (((w.setCell ⟨p, o + 1, none⟩ (.int .u64 t.a)).setCell ⟨p, o + 2, none⟩ (.int .u32 t.b)).setCell ⟨p, o + 3, none⟩ (.int .u32 t.c)) := Kp.of_index ho hb h.ty.1
  refine ⟨⟨⟨_, h3, ?_, ?_, ?_⟩, h.ty, h.xi.keepC hk ?_, fun e he => ?_, h.apart, h.good, h.fp, h.fr, fun b hf => ?_⟩, ho, hpt⟩
  · rw [Array.getElem?_setIfInBounds_ne (by omega), Array.getElem?_setIfInBounds_ne (by omega)]; simp [l1]
  · rw [Array.getElem?_setIfInBounds_ne (by omega)]; simp [l2]
  · simp [l3]
  · intro cs' t' hc'
    rw [hb] at hc'; injection hc' with hc'; injection hc' with e1 e2 _; subst e1 e2
    exact ⟨_, h3, by rw [Array.getElem?_setIfInBounds_ne (by omega), Array.getElem?_setIfInBounds_ne (by omega), Array.getElem?_setIfInBounds_ne (by omega)]⟩
  · have r := h.row e he
    obtain ⟨cs, z, hb2⟩ := r.block
    exact r.keep (ho.block _ r.lt (type_ne hb2 hb h.ty.2.symm))
  · by_cases e : b = p
    · subst e; exact ⟨_, _, _, h3, .inl rfl⟩
    · obtain ⟨cs, ty, z, hc, ht⟩ := h.own b hf
      exact ⟨cs, ty, z, (ho.block b (h.lt hf) e).trans hc, ht⟩
theorem part_own {β : Type} {p o k : Nat} {w0 : World} : Own (fun (_ : β) W => Part p o k w0 W) := fun s A B row hs hg hr => fun cs t z hc => by
  obtain ⟨cs', h1, h2, h3⟩ := hs cs t z hc
  exact ⟨cs', (grownBy_keeps_cells hg hr h1 rfl).trans h1, h2, h3⟩
theorem stoX_own {β : Type} {F : Nat → Prop} {p o : Nat} {ty : TypeId} {m : List En} {mk : Sp} : Own (fun (_ : β) W => StoX F W p o ty m mk) := fun s A B row hs hg hr =>
  hs.keep ⟨hg.size, fun b cs t z _ hb => (grownBy_keeps_cells hg hr hb rfl).trans hb⟩ fun b hf => by
    obtain ⟨cs, t, z, hc, _⟩ := hs.own b hf
    exact grownBy_keeps_cells hg hr hc rfl
theorem onl_own {β : Type} {G : Nat → Prop} {w0 : World} {Q : Nat} (hq : w0.heap.size ≤ Q) : OwnFrom Q (fun (_ : β) W => Onl G w0 W) := fun _ A B row hs hg hr =>
  hs.fresh (grown_onl hg) fun i hi => .inr (Nat.le_trans hq (hr i hi).1)
theorem onl_keeps {G : Nat → Prop} {W W' : World} (B : Nat) (h : Onl G W W') (hF : ∀ k o, G k → W.heap[k]? = some o → o.isCells = true) : KeepsFrom B W W' :=
  ⟨h.size, fun k o _ hk ho => (h.block k (Array.getElem?_eq_some_iff.1 hk).1 (fun hf => by rw [hF k o hf hk] at ho; cases ho)).trans hk⟩
theorem StoX.keepB {F G : Nat → Prop} {w w' : World} {p o : Nat} {ty0 : TypeId} {m : List En} {mk : Sp} (h : StoX F w p o ty0 m mk) (ho : Onl G w w') (hG : ∀ b, G b → ∃ cs t z, w.heap[b]? = some (.cells cs t z) ∧ ¬ SpT ty0 t ∧ ¬ IxT t) : StoX F w' p o ty0 m mk := by
  have hk : Kp w w' := Kp.of_onl ho fun b cs t z hg hb ht => by
    obtain ⟨cs', t', z', hb', _, h2⟩ := hG b hg
    rw [hb'] at hb; cases hb; exact h2 ht
  refine h.keep hk fun b hf => ho.block b (h.lt hf) fun hg => ?_
  obtain ⟨cs', t', z', hb', h1, _⟩ := hG b hg
  obtain ⟨cs, ty, z, hc, hty⟩ := h.own b hf
  rw [hb'] at hc; cases hc; exact h1 hty
theorem onl_put (W : World) (D : Nat) (o : Obj) : Onl (fun b => b = D) W (W.putObj D o) := ⟨rfl, rfl, rfl, by simp, fun k _ hk => World.putObj_heap_other hk⟩
/-- while Prune's loop goes on -/
def PrI (wL : World) (F : Nat → Prop) (M0 : Mst) (n0 p o : Nat) (ty : TypeId) (bg : Nat) (t : Sp) {E : List En} (pre : List (Of E)) (W : World) : Prop :=
  (∃ F' m', StoX F' W p o ty m' t ∧ abs m' = (abs (pre.map (fun x => x.1))).foldl (stepP t) M0 ∧ m'.length ≤ E.length + pre.length ∧ ∀ b, F' b → F b ∨ n0 ≤ b) ∧
  Boxed W bg 3 (.int .i64 (goneE (pre.map (fun x => x.1)) t : Nat)) ∧ Onl (fun b => b = p ∨ b = bg) wL W ∧ Part p o 4 wL W
theorem prI_own {wL : World} {F : Nat → Prop} {M0 : Mst} {n0 p o bg Q : Nat} {ty : TypeId} {t : Sp} {E : List En} (hq : wL.heap.size ≤ Q) : OwnFrom Q (PrI wL F M0 n0 p o ty bg t (E := E)) := fun s A B row hs hg hr => by
  obtain ⟨⟨F', m', h1, h2, h3, h4⟩, hb, ho, hpt⟩ := hs
  exact ⟨⟨F', m', (Own.from (stoX_own (β := Unit)) Q) () A B row h1 hg hr, h2, h3, h4⟩, (Own.from (boxed_own (β := Unit) bg 3 (fun _ => _)) Q) () A B row hb hg hr, (onl_own (β := Unit) hq) () A B row ho hg hr, (Own.from (part_own (β := Unit)) Q) () A B row hpt hg hr⟩
end Go.Proofs.YtmlacdfdpdkdaaaDoor.Vs
