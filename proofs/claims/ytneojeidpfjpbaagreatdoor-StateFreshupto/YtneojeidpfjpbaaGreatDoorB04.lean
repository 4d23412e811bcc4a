import Derived.Test.YtneojeidpfjpbaaGreatDoorB03
set_option linter.unusedVariables false
set_option maxHeartbeats 1000000
namespace Go.Proofs.YtneojeidpfjpbaaGreatDoor.Lk
open Go.RowKit Go.Sort
theorem readsMeet_is {w : World} {p oo : Nat} {ty : TypeId} {m1 m2 : Option Nat} {V : List Hv} {I : It} {i : Ix} {a : Option Addr} {c : Nat} {xs : List T2} {u : Bool}
  (hu : readsMeet I i xs = u) (T : TbO w p oo ty m1 m2 V I) (h : Row2 w a xs) (hl : xs.length ≤ 9223372036854775807) :
  Calls Tryz.prog 176 #[.pointer (some ⟨p, oo, none⟩), ixv i, .slice a xs.length c] w fun e w' => e = .returned (.bool u) ∧ Below w.heap.size w w' := by
 have hb0 : Below w.heap.size w (w.alloc (.cells #[.int .u32 i.1, .int .u32 i.2] 38)) := Below.al (Below.refl _ _) _; have c1 := cell_later hb0 T.c1; obtain ⟨o, hr, R0⟩ := (T.ints.later hb0).range (P := Tryz.prog) Tryz.underlying69; have RR := hid R0; have HU := hid hu; have HR := hid h; have HT := hid T; clear T hu R0 h; go_enter Tryz.func176, Tryz.ntmps176
 go_wp2_with fail
 have hbx : Below w.heap.size w ((w.alloc (.cells #[.int .u32 i.1, .int .u32 i.2] 38)).alloc o) := Below.al hb0 _; go_loopg [14] I.length (fun g s14 wr => ∃ todo, g = todo.length ∧ Hid (RngO Value.string ixv wr m2 (w.heap.size + 1) I todo) ∧ Hid (Below w.heap.size w wr) ∧ Hid (∀ q ∈ I, q ∈ todo ∨ (!decide (q.2 = i) && withinB q.1 xs) = false) ∧
  Hid (wr.cell? ⟨w.heap.size, 0, none⟩ = some (.int .u32 i.1)) ∧ Hid (wr.cell? ⟨w.heap.size, 1, none⟩ = some (.int .u32 i.2)))
 case atStart => exact ⟨I, rfl, hid (by simpa using RR.out), hbx, fun q hq => .inl hq, cell_later (Below.al (Below.refl _ _) _) (by simp [go_sem]), cell_later (Below.al (Below.refl _ _) _) (by simp [go_sem])⟩
 case round =>
  obtain ⟨todo, rfl, HG, HB, HQ, B0, B1⟩ := hrel; clear hr c1 RR hb0 hbx; rcases HG.out.next Tryz.prog with ⟨rfl, hn⟩ | ⟨⟨key, j⟩, todo', w1, hpm, hpI, hn, R1, hen, hon, hsz⟩
  ·have hf : u = false := by
    rw [← HU.out, readsMeet, List.any_eq_false]; intro q hq; rcases HQ.out q hq with h | h
    ·cases h
    ·simpa using h
   subst hf; go_wp2_with fail
   go_ret
   exact ⟨rfl, HB.out⟩
  ·obtain ⟨jc, js⟩ := j; have hlt : w.heap.size < wr.heap.size := World.block_lt_of_cell? _ _ B0.out; have hb1 : Below w.heap.size w w1 := (HB.out.trans (hon.below (B := w.heap.size) (fun k hk => by omega) (by omega))); have e0 : w1.cell? ⟨w.heap.size, 0, none⟩ = some (.int .u32 i.1) := hon.cell (by omega) B0.out; have e1 : w1.cell? ⟨w.heap.size, 1, none⟩ = some (.int .u32 i.2) := hon.cell (by omega) B1.out; have hlt1 : w.heap.size < w1.heap.size := by omega
   have hpl : todo'.length + 1 = todo.length := by have := hpm.length_eq; simpa using this.symm
   have HR1 := hid R1; have HB1 := hid hb1; have HPM := hid hpm; have HPI := hid hpI; clear R1 hb1 hpm hpI hon HG HB B0 B1 hsz hlt; obtain ⟨ic, is⟩ := i; simp only at e0 e1; have hB2 : Below w.heap.size w (w1.alloc (.cells #[.int .u32 jc, .int .u32 js] 38)) := Below.al HB1.out _; cases hs : sameI ⟨jc, js⟩ ⟨ic, is⟩ with
   | true =>
    have hne : ∀ W, (binOp .neq 38 (.agg #[.int .u32 jc, .int .u32 js]) (.agg #[.int .u32 ic, .int .u32 is])).run Tryz.prog W = .ok (.bool false) W := fun W => by
     have := run_neI ⟨jc, js⟩ ⟨ic, is⟩ W; rwa [hs] at this
    have HS := hid hs; clear hs; go_wp2_with fail
    go_roundg todo'.length
    case measure => omega
    case rel =>
     refine ⟨todo', rfl, HR1.out.later (Below.al (Below.refl _ _) _), hB2, fun q hq => ?_, cell_later (Below.al (Below.refl _ _) _) e0, cell_later (Below.al (Below.refl _ _) _) e1⟩; rcases HQ.out q hq with h | h
     ·rcases List.mem_cons.1 (HPM.out.mem_iff.1 h) with h | h
      ·right
       have hd : (⟨jc, js⟩ : Ix) = ⟨ic, is⟩ := by simpa [sameI] using HS.out
       rw [h]; simp [hd]
      ·exact .inl h
     ·exact .inr h
   | false =>
    have hne : ∀ W, (binOp .neq 38 (.agg #[.int .u32 jc, .int .u32 js]) (.agg #[.int .u32 ic, .int .u32 is])).run Tryz.prog W = .ok (.bool true) W := fun W => by
     have := run_neI ⟨jc, js⟩ ⟨ic, is⟩ W; rwa [hs] at this
    have HS := hid hs; clear hs; obtain ⟨v, hv⟩ : ∃ v, withinB key xs = v := ⟨_, rfl⟩; have WI := hid (within_is (c := c) hv (HR.out.later hB2) hl); have HV := hid hv; clear hv; have hd : ¬ (⟨jc, js⟩ : Ix) = ⟨ic, is⟩ := by have := HS.out; simpa [sameI] using this
    have HD := hid hd; clear hd; go_wp2_with fail
    refine WI.out.mono ?_; rintro e w2 ⟨rfl, hw2⟩; have hB3 := Below.on hB2 hw2; cases v with
    | true =>
     have ht : u = true := by
      rw [← HU.out, readsMeet, List.any_eq_true]; exact ⟨_, HPI.out, by simp [HV.out, HD.out]⟩
     subst ht; go_wp2_with fail
     go_ret
     exact ⟨rfl, hB3⟩
    | false =>
     go_wp2_with fail
     go_roundg todo'.length
     case measure => omega
     case rel =>
      have hw12 : Below w1.heap.size w1 w2 := Below.on (Below.al (Below.refl _ _) _) hw2; refine ⟨todo', rfl, HR1.out.later hw12, hB3, fun q hq => ?_, cell_later hw12 e0, cell_later hw12 e1⟩; rcases HQ.out q hq with h | h
      ·rcases List.mem_cons.1 (HPM.out.mem_iff.1 h) with h | h
       ·right
        rw [h]; simp [HV.out]
       ·exact .inl h
      ·exact .inr h
theorem nthW_mem {ws : List Wr} {k : Nat} (h : k < ws.length) : nthW ws k ∈ ws := by
 have : nthW ws k = ws[k] := by simp [nthW, h]
 rw [this]; exact List.getElem_mem h
theorem zero_ix (W : World) : (zeroValue 38).run Tryz.prog W = .ok (ixv ⟨0, 0⟩) W := by kernel_rfl
theorem writesMeet_is {w : World} {p oo : Nat} {ty : TypeId} {m1 m2 : Option Nat} {V : List Hv} {I : It} {i : Ix} {a : Option Addr} {c : Nat} {ws : List Wr} {u : Bool}
  (hu : writesMeet (V.map Hv.h) I i ws = u) (T : TbO w p oo ty m1 m2 V I) (h : RowW w a ws) (hl : ws.length ≤ 9223372036854775807) :
  Calls Tryz.prog 177 #[.pointer (some ⟨p, oo, none⟩), ixv i, .slice a ws.length c] w fun e w' => e = .returned (.bool u) ∧ Below w.heap.size w w' := by
 have hb0 : Below w.heap.size w (w.alloc (.cells #[.int .u32 i.1, .int .u32 i.2] 38)) := Below.al (Below.refl _ _) _; have HU := hid hu; have HR := hid h; have HT := hid T; clear T hu h; go_enter Tryz.func177, Tryz.ntmps177
 go_wp2_with fail
 go_loopg [15] ws.length (fun g s15 wr => ∃ k : Nat, k ≤ ws.length ∧ g = ws.length - k ∧ s15 = .int .i64 k ∧ Hid (Below w.heap.size w wr) ∧ Hid (∀ j, j < k → (I.any (fun q => sameK q.1 (nthW ws j).key && !decide (q.2 = i))) = false) ∧
  Hid (wr.cell? ⟨w.heap.size, 0, none⟩ = some (.int .u32 i.1)) ∧ Hid (wr.cell? ⟨w.heap.size, 1, none⟩ = some (.int .u32 i.2)))
 case atStart => exact ⟨0, by omega, by omega, rfl, hb0, fun j hj => absurd hj (by omega), hid (by simp [go_sem]), hid (by simp [go_sem])⟩
 case round =>
  obtain ⟨k, hk, rfl, rfl, HB, HQ, B0, B1⟩ := hrel; clear hb0; by_cases hlt : k < ws.length
  ·obtain ⟨b, off, rfl, d0, d1, d2⟩ := (HR.out.later HB.out) k hlt; obtain ⟨⟨key, del, val⟩, hx⟩ : ∃ x, x = nthW ws k := ⟨_, rfl⟩; rw [← hx] at d0 d1 d2; simp only at d0 d1 d2; have HX := hid hx; clear hx; have hw1 : Below wr.heap.size wr (wr.alloc (.cells #[.string key, .bool del, .string val] 103)) := Below.al (Below.refl _ _) _; have hB1 := Below.on HB.out hw1; have T1 := HT.out.later hB1; have c1 := T1.c1; have k0 : (wr.alloc (.cells #[.string key, .bool del, .string val] 103)).cell? ⟨wr.heap.size, 0, none⟩ = some (.string key) := by simp [go_sem]
   obtain ⟨⟨jc, js⟩, ok, hyes, hno, hlook⟩ := T1.ints.lookT (P := Tryz.prog) keysS Tryz.underlying69 zero_ix key; simp only [ixv] at hlook; have HY := hid hyes; have HN := hid hno; have HI := hid T1.ints; have b0 := cell_later hw1 B0.out; have b1 := cell_later hw1 B1.out; have HB1 := hid hB1; have HLK := hid hlook; clear hyes hno T1 hB1 hlook B0 B1 HB; go_wp2_with fail
   generalize hwx : wr.alloc (.cells #[.string key, .bool del, .string val] 103) = wx at *
   have hsx : wr.heap.size + 1 = wx.heap.size := by rw [← hwx]; simp
   clear hwx; go_cut [9, 10] (fun s9 s10 wz => ∃ q : Nat, s9 = .pointer (some ⟨q, 0, none⟩) ∧ s10 = .bool ok ∧ Hid (wz.cell? ⟨q, 0, none⟩ = some (.int .u32 jc)) ∧ Hid (wz.cell? ⟨q, 1, none⟩ = some (.int .u32 js)) ∧ Hid (Below wx.heap.size wx wz))
   case first =>
    go_region_held3 (fun w' => w'.cell? ⟨p, oo + 1, none⟩ = some (.map m2) ∧ w'.cell? ⟨wr.heap.size, 0, none⟩ = some (.string key) ∧ (Instr.lookup 69 (.map m2) (.string key) true).run Tryz.prog w' = .ok (.tuple #[.agg #[.int .u32 jc, .int .u32 js], .bool ok]) w' ∧ Below wx.heap.size wx w')
     ((refine (fun (hB : Below wx.heap.size wx _) => ⟨cell_later hB c1, cell_later hB k0, HLK.out _ (fun b e => hB.block b (HI.out.lt b e)), hB⟩) ?_; (repeat (first | exact Below.refl _ _ | assumption | refine Below.drew ?_ | refine Below.al ?_ _ | refine Below.setCell ?_ (by first | exact Nat.le_refl _ | (simp; omega) | (simp; done)) _ | refine Below.on ?_ (by assumption)))))
     (fail)
    all_goals (try go_wp2_with fail)
    all_goals go_meet
    all_goals refine ⟨_, rfl, rfl, hid ?_, hid ?_, hid ?_⟩
    all_goals (first | (simp [go_sem]; done) | ((repeat (first | exact Below.refl _ _ | assumption | refine Below.drew ?_ | refine Below.al ?_ _ | refine Below.setCell ?_ (by first | exact Nat.le_refl _ | (simp; omega) | (simp; done)) _ | refine Below.on ?_ (by assumption)))))
   case rest =>
    obtain ⟨q, rfl, rfl, Q0, Q1, HZ⟩ := hcut; have q0 := Q0.out; have q1 := Q1.out; have b0 := cell_later HZ.out b0; have b1 := cell_later HZ.out b1; have hbW := Below.on HB1.out HZ.out; clear Q0 Q1; obtain ⟨ic, is⟩ := i; simp only at b0 b1; cases ok with
    | false =>
     have hk0 : (I.any (fun q => sameK q.1 (nthW ws k).key && !decide (q.2 = ⟨ic, is⟩))) = false := by
      rw [List.any_eq_false]; intro y hy hc; rw [Bool.and_eq_true, sameK_eq] at hc; exact (HN.out rfl).1 (List.mem_map.2 ⟨y, hy, by rw [hc.1, ← HX.out]⟩)
     have HK0 := hid hk0; clear hk0; go_wp2_with fail
     go_roundg (ws.length - (k + 1))
     case measure => omega
     case rel =>
      refine ⟨k + 1, by omega, rfl, by go_num, hbW, fun j hj => ?_, b0, b1⟩; by_cases e : j = k
      ·subst e; exact HK0.out
      ·exact HQ.out j (by omega)
    | true =>
     have hin := HY.out rfl; cases hs : sameI ⟨jc, js⟩ ⟨ic, is⟩ with
     | true =>
      have hne : ∀ W, (binOp .neq 38 (.agg #[.int .u32 jc, .int .u32 js]) (.agg #[.int .u32 ic, .int .u32 is])).run Tryz.prog W = .ok (.bool false) W := fun W => by
       have := run_neI ⟨jc, js⟩ ⟨ic, is⟩ W; rwa [hs] at this
      have hd : (⟨jc, js⟩ : Ix) = ⟨ic, is⟩ := by simpa [sameI] using hs
      have hk0 : (I.any (fun q => sameK q.1 (nthW ws k).key && !decide (q.2 = ⟨ic, is⟩))) = false := by
       rw [List.any_eq_false]; rintro ⟨y1, y2⟩ hy hc; rw [Bool.and_eq_true, sameK_eq, ← HX.out] at hc; simp only at hc; obtain ⟨rfl, hc⟩ := hc; have e := nodup_inj (HI.out.nodup keysS) hy hin rfl; injection e with _ e
       rw [e, hd] at hc; simp at hc
      have HK0 := hid hk0; clear hk0 hd hs hin; go_wp2_with fail
      go_roundg (ws.length - (k + 1))
      case measure => omega
      case rel =>
       refine ⟨k + 1, by omega, rfl, by go_num, hbW, fun j hj => ?_, b0, b1⟩; by_cases e : j = k
       ·subst e; exact HK0.out
       ·exact HQ.out j (by omega)
     | false =>
      have hne : ∀ W, (binOp .neq 38 (.agg #[.int .u32 jc, .int .u32 js]) (.agg #[.int .u32 ic, .int .u32 is])).run Tryz.prog W = .ok (.bool true) W := fun W => by
       have := run_neI ⟨jc, js⟩ ⟨ic, is⟩ W; rwa [hs] at this
      have ht : u = true := by
       rw [← HU.out, writesMeet, Bool.or_eq_true, List.any_eq_true]; left
       refine ⟨nthW ws k, nthW_mem hlt, ?_⟩; rw [List.any_eq_true]; refine ⟨_, hin, ?_⟩; have hd : ¬ (⟨jc, js⟩ : Ix) = ⟨ic, is⟩ := by simpa [sameI] using hs
       rw [← HX.out]; simp [sameK, hd]
      subst ht; clear hs hin; go_wp2_with fail
      go_ret
      exact ⟨rfl, hbW⟩
  ·obtain rfl : k = ws.length := by omega
   rename World => wA
   have hno : (ws.any (fun x => I.any (fun q => sameK q.1 x.key && !decide (q.2 = i)))) = false := by
    rw [List.any_eq_false]; intro x hx; obtain ⟨j, hj, rfl⟩ := List.getElem_of_mem hx; have := HQ.out j hj; simpa [nthW, hj] using this
   have hu2 : (V.map Hv.h).any (fun h => !decide (h.id = i) && anyB ws h.rs) = u := by rw [← HU.out, writesMeet, hno]; rfl
   have HU2 := hid hu2; have hbr : Below w.heap.size w wA := HB.out; have T1 := HT.out.later hbr; have c0 := T1.c0; have b0 := B0.out; have b1 := B1.out; have hrow := HR.out.later hbr; have HB' := HB; clear HQ hno hu2 HU HB B0 B1 HR; obtain ⟨o, hr, R0⟩ := T1.held.range (P := Tryz.prog) Tryz.underlying68; have RR := hid R0; have HRW := hid hrow; have HT1 := hid T1; have hlr : w.heap.size < wA.heap.size := World.block_lt_of_cell? _ _ b0; clear R0 hrow T1 HT; go_wp2_with fail
   go_loopg [41] V.length (fun g s41 wr => ∃ todo, g = todo.length ∧ Hid (RngO ixv Hv.val wr m1 wA.heap.size (prs V) todo) ∧ Hid (Below wA.heap.size wA wr) ∧ Hid (∀ q ∈ prs V, q ∈ todo ∨ (!decide (q.1 = i) && anyB ws q.2.h.rs) = false))
   case atStart => exact ⟨prs V, by simp, RR, Below.al (Below.refl _ _) _, fun q hq => .inl hq⟩
   case round =>
    obtain ⟨todo, rfl, HG, HB, HQ⟩ := hrel; clear hr c0 RR; rcases HG.out.next Tryz.prog with ⟨rfl, hn⟩ | ⟨⟨j, v⟩, todo', w1, hpm, hpI, hn, R1, hen, hon, hsz⟩
    ·have hf : u = false := by
      rw [← HU2.out, List.any_eq_false]; intro q hq; obtain ⟨v, hv, rfl⟩ := List.mem_map.1 hq; rcases HQ.out (v.h.id, v) (List.mem_map.2 ⟨v, hv, rfl⟩) with h | h
      ·cases h
      ·simpa using h
     subst hf; go_wp2_with fail
     go_ret
     exact ⟨rfl, Below.on hbr HB.out⟩
    ·obtain ⟨v', hv', ev'⟩ := List.mem_map.1 hpI; injection ev' with ev1 ev2
     subst ev2; obtain ⟨⟨⟨vc, vs⟩, home, vw, vl, vn, rs, wss⟩, ra, rc, wa, wc⟩ := v'; subst ev1; simp only [Hv.val, ixv] at hn hen; have hlt2 : wA.heap.size < wr.heap.size := HG.out.lt.1; have hb1 : Below wA.heap.size wA w1 := (HB.out.trans (hon.below (B := wA.heap.size) (fun k hk => by omega) (by omega))); have e0 := cell_later hb1 b0; have e1 := cell_later hb1 b1; have hlt1 : w.heap.size < w1.heap.size := Nat.lt_of_lt_of_le hlr hb1.size; have hpl : todo'.length + 1 = todo.length := by have := hpm.length_eq; simpa using this.symm
     have HR1 := hid R1; have HB1 := hid hb1; have HPM := hid hpm; have HPI := hid hv'; clear R1 hb1 hpm hpI hv' hon HG HB hsz; obtain ⟨ic, is⟩ := i; simp only at e0 e1; obtain ⟨w3, hw3⟩ : ∃ w3, w3 = (w1.alloc (.cells #[.int .u32 vc, .int .u32 vs] 38)).alloc (.cells #[.int .u32 vc, .int .u32 vs, .int .u32 home, .int .u64 vw, .int .u32 vl, .int .u32 vn, .slice ra rs.length rc, .slice wa wss.length wc] 52) := ⟨_, rfl⟩; have hB3 : Below w1.heap.size w1 w3 := by rw [hw3]; exact Below.al (Below.al (Below.refl _ _) _) _
     have hBr3 : Below wA.heap.size wA w3 := Below.on HB1.out hB3; cases hs : sameI ⟨vc, vs⟩ ⟨ic, is⟩ with
     | true =>
      have hne : ∀ W, (binOp .neq 38 (.agg #[.int .u32 vc, .int .u32 vs]) (.agg #[.int .u32 ic, .int .u32 is])).run Tryz.prog W = .ok (.bool false) W := fun W => by
       have := run_neI ⟨vc, vs⟩ ⟨ic, is⟩ W; rwa [hs] at this
      have HS := hid hs; clear hs; go_wp2_with fail
      rw [← hw3]; go_roundg todo'.length
      case measure => omega
      case rel =>
       refine ⟨todo', rfl, HR1.out.later hB3, hBr3, fun q hq => ?_⟩; rcases HQ.out q hq with h | h
       ·rcases List.mem_cons.1 (HPM.out.mem_iff.1 h) with h | h
        ·right
         have hd : (⟨vc, vs⟩ : Ix) = ⟨ic, is⟩ := by simpa [sameI] using HS.out
         rw [h]; simp [hd]
        ·exact .inl h
       ·exact .inr h
     | false =>
      have hne : ∀ W, (binOp .neq 38 (.agg #[.int .u32 vc, .int .u32 vs]) (.agg #[.int .u32 ic, .int .u32 is])).run Tryz.prog W = .ok (.bool true) W := fun W => by
       have := run_neI ⟨vc, vs⟩ ⟨ic, is⟩ W; rwa [hs] at this
      have hd : ¬ (⟨vc, vs⟩ : Ix) = ⟨ic, is⟩ := by simpa [sameI] using hs
      have HD := hid hd; clear hd hs; have hvo := (HT1.out.rows _ HPI.out).later hBr3; obtain ⟨x, hx⟩ : ∃ x, anyB ws rs = x := ⟨_, rfl⟩; have WI := hid (anyWithin_is (c' := c) (c := rc) hx (HRW.out.later hBr3) hvo.r hl (by have := hvo.rl; simp only at this; omega)); have HV := hid hx; simp only at WI; clear hx hvo; go_wp2_with fail
      rw [← hw3]; refine WI.out.mono ?_; rintro e w4 ⟨rfl, hw4⟩; have hB4 := Below.on hBr3 hw4; cases x with
      | true =>
       have ht : u = true := by
        rw [← HU2.out, List.any_eq_true]; exact ⟨_, List.mem_map.2 ⟨_, HPI.out, rfl⟩, by simp [HV.out, HD.out]⟩
       subst ht; go_wp2_with fail
       go_ret
       exact ⟨rfl, Below.on hbr hB4⟩
      | false =>
       go_wp2_with fail
       go_roundg todo'.length
       case measure => omega
       case rel =>
        refine ⟨todo', rfl, HR1.out.later (Below.on hB3 hw4), hB4, fun q hq => ?_⟩; rcases HQ.out q hq with h | h
        ·rcases List.mem_cons.1 (HPM.out.mem_iff.1 h) with h | h
         ·right
          rw [h]; simp [HV.out]
         ·exact .inl h
        ·exact .inr h
theorem conflict_is {w : World} {p oo : Nat} {ty : TypeId} {m1 m2 : Option Nat} {V : List Hv} {I : It} {i : Ix} {ra wa : Option Addr} {rc wc : Nat} {rs : List T2} {ws : List Wr} {u : Bool}
  (hu : confl (V.map Hv.h) i rs ws = u) (T : TbO w p oo ty m1 m2 V I) (hr : Row2 w ra rs) (hw : RowW w wa ws) (hlr : rs.length ≤ 9223372036854775807) (hlw : ws.length ≤ 9223372036854775807) :
  Calls Tryz.prog 128 #[.pointer (some ⟨p, oo, none⟩), ixv i, .slice ra rs.length rc, .slice wa ws.length wc] w fun e w' => e = .returned (.bool u) ∧ Below w.heap.size w w' := by
 rw [← confl_eq T.ok] at hu; have hb0 : Below w.heap.size w (w.alloc (.cells #[.int .u32 i.1, .int .u32 i.2] 38)) := Below.al (Below.refl _ _) _; have T0 := T.later hb0; have b0 : (w.alloc (.cells #[.int .u32 i.1, .int .u32 i.2] 38)).cell? ⟨w.heap.size, 0, none⟩ = some (.int .u32 i.1) := by simp [go_sem]
 have b1 : (w.alloc (.cells #[.int .u32 i.1, .int .u32 i.2] 38)).cell? ⟨w.heap.size, 1, none⟩ = some (.int .u32 i.2) := by simp [go_sem]
 cases h1 : readsMeet I i rs with
 | true =>
  rw [h1, Bool.true_or] at hu; subst hu; have RM := hid (readsMeet_is (c := rc) h1 T0 (hr.later hb0) hlr); clear h1 T T0 hr hw b0 b1; go_enter Tryz.func128, Tryz.ntmps128
  go_wp2_with fail
  refine RM.out.mono ?_; rintro e w1 ⟨rfl, hw1⟩; go_wp2_with fail
  go_ret
  exact ⟨rfl, Below.on hb0 hw1⟩
 | false =>
  rw [h1, Bool.false_or] at hu; have RM := hid (readsMeet_is (c := rc) h1 T0 (hr.later hb0) hlr); have HT := hid T0; have HW := hid (hw.later hb0); have HU := hid hu; clear h1 T T0 hr hw hu; go_enter Tryz.func128, Tryz.ntmps128
  go_wp2_with fail
  refine RM.out.mono ?_; rintro e w1 ⟨rfl, hw1⟩; have b0 := cell_later hw1 b0; have b1 := cell_later hw1 b1; have WM := hid (writesMeet_is (c := wc) HU.out (HT.out.later hw1) (HW.out.later hw1) hlw); go_wp2_with fail
  refine WM.out.mono ?_; rintro e w2 ⟨rfl, hw2⟩; go_wp2_with fail
  go_ret
  exact ⟨rfl, Below.on (Below.on hb0 hw1) hw2⟩
end Go.Proofs.YtneojeidpfjpbaaGreatDoor.Lk
