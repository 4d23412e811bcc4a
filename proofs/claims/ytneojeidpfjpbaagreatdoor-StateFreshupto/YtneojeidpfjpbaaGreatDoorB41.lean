import Derived.Test.YtneojeidpfjpbaaGreatDoorB40
set_option linter.unusedVariables false
set_option maxHeartbeats 8000000
namespace Go.Proofs.YtneojeidpfjpbaaGreatDoor.Lk
open Go.RowKit Go.Sort
theorem infoLS : (Tryz.prog.info? 40).map (fun i => (i.zero, i.size, i.bytes)) = some (some (.slice none 0 0), 1, 24) := by kernel_rfl
theorem infoLW : (Tryz.prog.info? 41).map (fun i => (i.zero, i.size, i.bytes)) = some (some (.slice none 0 0), 1, 24) := by kernel_rfl
theorem encS_one (x : T2) : ∀ v ∈ encS x, v.oneCell' = true := by
 intro v hv; simp [encS] at hv; rcases hv with rfl | rfl <;> rfl
theorem encW_one (x : Wr) : ∀ v ∈ encW x, v.oneCell' = true := by
 intro v hv; simp [encW] at hv; rcases hv with rfl | rfl | rfl <;> rfl
theorem append_S {w : World} {ops : Array Oper} {rest : List Oper} {o : Oper} {a : Act} {Q : Exit → Act → World → Prop} (hg : o.guard = none) (s x : Operand)
  (hop : o.op = Op.call { callee := Callee.builtin Builtin.append, args := #[s, x], argTypes := #[40, 40] }) {B m : Nat} {v : Value} {xs : List Value} (t : T2) (hs : a.eval s = v) (hown : w.ownsRow B 25 2 v m xs)
  {g : Nat} (hx : a.eval x = .slice (some ⟨g, 0, none⟩) 1 1) (c : ∀ (j : Nat) (u : Value), (encS t)[j]? = some u → w.cell? ((⟨g, 0, none⟩ : Addr).add j) = some u) (ho1 : ∀ u ∈ encS t, u.oneCell' = true) (hl : (m + 1) * 64 ≤ 140737488355328) (hB : B ≤ w.heap.size)
  (hK : ∀ v' w', w'.ownsRow B 25 2 v' (m + 1) (xs ++ encS t) → w.grownBy w' v.ownBlock → w'.ownsRow B 25 2 v m xs → (v'.ownBlock = v.ownBlock ∨ ∃ k, v'.ownBlock = some k ∧ w.heap.size ≤ k) → wpList Tryz.prog ops Q rest (a.put o.dst v') w') : wpList Tryz.prog ops Q (o :: rest) a w := by
 obtain ⟨i0, hi, hz0, hz1, hz2⟩ := info_of infoSp; exact wpList_append_keep _ hg s x 40 hop B 25 i0 (.agg #[.string ⟨#[]⟩, .string ⟨#[]⟩]) 2 32 Tryz.underlying40 hi hz0 hz1 hz2 rfl (by decide) v m xs hs hown ⟨g, 0, none⟩ 1 1 (encS t) hx rfl c ho1 (by unfold maxLen; omega) (by omega) hB (by decide) hK
theorem append_Wr {w : World} {ops : Array Oper} {rest : List Oper} {o : Oper} {a : Act} {Q : Exit → Act → World → Prop} (hg : o.guard = none) (s x : Operand)
  (hop : o.op = Op.call { callee := Callee.builtin Builtin.append, args := #[s, x], argTypes := #[41, 41] }) {B m : Nat} {v : Value} {xs : List Value} (t : Wr) (hs : a.eval s = v) (hown : w.ownsRow B 103 3 v m xs)
  {g : Nat} (hx : a.eval x = .slice (some ⟨g, 0, none⟩) 1 1) (c : ∀ (j : Nat) (u : Value), (encW t)[j]? = some u → w.cell? ((⟨g, 0, none⟩ : Addr).add j) = some u) (ho1 : ∀ u ∈ encW t, u.oneCell' = true) (hl : (m + 1) * 64 ≤ 140737488355328) (hB : B ≤ w.heap.size)
  (hK : ∀ v' w', w'.ownsRow B 103 3 v' (m + 1) (xs ++ encW t) → w.grownBy w' v.ownBlock → w'.ownsRow B 103 3 v m xs → (v'.ownBlock = v.ownBlock ∨ ∃ k, v'.ownBlock = some k ∧ w.heap.size ≤ k) → wpList Tryz.prog ops Q rest (a.put o.dst v') w') : wpList Tryz.prog ops Q (o :: rest) a w := by
 obtain ⟨i0, hi, hz0, hz1, hz2⟩ := info_of infoWr; exact wpList_append_keep _ hg s x 41 hop B 103 i0 (.agg #[.string ⟨#[]⟩, .bool false, .string ⟨#[]⟩]) 3 40 Tryz.underlying41 hi hz0 hz1 hz2 rfl (by decide) v m xs hs hown ⟨g, 0, none⟩ 1 1 (encW t) hx rfl c ho1 (by unfold maxLen; omega) (by omega) hB (by decide) hK
theorem append_LS {w : World} {ops : Array Oper} {rest : List Oper} {o : Oper} {a : Act} {Q : Exit → Act → World → Prop} (hg : o.guard = none) (s x : Operand)
  (hop : o.op = Op.call { callee := Callee.builtin Builtin.append, args := #[s, x], argTypes := #[104, 104] }) {B m : Nat} {v : Value} {xs : List Value} (t : Value) (hs : a.eval s = v) (hown : w.ownsRow B 40 1 v m xs)
  {g : Nat} (hx : a.eval x = .slice (some ⟨g, 0, none⟩) 1 1) (c : ∀ (j : Nat) (u : Value), ([t])[j]? = some u → w.cell? ((⟨g, 0, none⟩ : Addr).add j) = some u) (ho1 : ∀ u ∈ [t], u.oneCell' = true) (hl : (m + 1) * 64 ≤ 140737488355328) (hB : B ≤ w.heap.size)
  (hK : ∀ v' w', w'.ownsRow B 40 1 v' (m + 1) (xs ++ [t]) → w.grownBy w' v.ownBlock → w'.ownsRow B 40 1 v m xs → (v'.ownBlock = v.ownBlock ∨ ∃ k, v'.ownBlock = some k ∧ w.heap.size ≤ k) → wpList Tryz.prog ops Q rest (a.put o.dst v') w') : wpList Tryz.prog ops Q (o :: rest) a w := by
 obtain ⟨i0, hi, hz0, hz1, hz2⟩ := info_of infoLS; exact wpList_append_keep _ hg s x 104 hop B 40 i0 (.slice none 0 0) 1 24 Tryz.underlying104 hi hz0 hz1 hz2 rfl (by decide) v m xs hs hown ⟨g, 0, none⟩ 1 1 ([t]) hx rfl c ho1 (by unfold maxLen; omega) (by omega) hB (by decide) hK
theorem append_LW {w : World} {ops : Array Oper} {rest : List Oper} {o : Oper} {a : Act} {Q : Exit → Act → World → Prop} (hg : o.guard = none) (s x : Operand)
  (hop : o.op = Op.call { callee := Callee.builtin Builtin.append, args := #[s, x], argTypes := #[105, 105] }) {B m : Nat} {v : Value} {xs : List Value} (t : Value) (hs : a.eval s = v) (hown : w.ownsRow B 41 1 v m xs)
  {g : Nat} (hx : a.eval x = .slice (some ⟨g, 0, none⟩) 1 1) (c : ∀ (j : Nat) (u : Value), ([t])[j]? = some u → w.cell? ((⟨g, 0, none⟩ : Addr).add j) = some u) (ho1 : ∀ u ∈ [t], u.oneCell' = true) (hl : (m + 1) * 64 ≤ 140737488355328) (hB : B ≤ w.heap.size)
  (hK : ∀ v' w', w'.ownsRow B 41 1 v' (m + 1) (xs ++ [t]) → w.grownBy w' v.ownBlock → w'.ownsRow B 41 1 v m xs → (v'.ownBlock = v.ownBlock ∨ ∃ k, v'.ownBlock = some k ∧ w.heap.size ≤ k) → wpList Tryz.prog ops Q rest (a.put o.dst v') w') : wpList Tryz.prog ops Q (o :: rest) a w := by
 obtain ⟨i0, hi, hz0, hz1, hz2⟩ := info_of infoLW; exact wpList_append_keep _ hg s x 105 hop B 41 i0 (.slice none 0 0) 1 24 Tryz.underlying105 hi hz0 hz1 hz2 rfl (by decide) v m xs hs hown ⟨g, 0, none⟩ 1 1 ([t]) hx rfl c ho1 (by unfold maxLen; omega) (by omega) hB (by decide) hK
theorem newC (w : World) (cs : List Value) (t : TypeId) : ∀ (j : Nat) (u : Value), cs[j]? = some u → (w.alloc (.cells cs.toArray t)).cell? ((⟨w.heap.size, 0, none⟩ : Addr).add j) = some u := fun j u hj => by
 rw [Addr.add_lit, Nat.zero_add]; rw [World.cell?_alloc_new, List.getElem?_toArray]; exact hj
theorem row_at {w : World} {B n : Nat} {a : Option Addr} {c : Nat} {hs : List Value} (h : w.ownsRow B 52 8 (.slice a n c) n hs) (hn : 0 < n) : ∃ g, a = some ⟨g, 0, none⟩ ∧ ∀ j v, hs[j]? = some v → w.cell? ⟨g, j, none⟩ = some v := by
 obtain ⟨g, e, _, hc⟩ := own_cells h hn; exact ⟨g, e, hc⟩
set_option maxRecDepth 16000 in
theorem grown_is {w : World} {B n : Nat} {rv wv : Nat → Value} {R : Nat → List T2} {S : Nat → List Wr} {lv : Value} {hs : List Value} {sg : Nat → Nat → ByteArray} {k : Int} (h : Mk B w n rv wv R S) (hl : w.ownsRow B 52 8 lv n hs) (hB : B ≤ w.heap.size)
  (h6 : ∀ q, q < n → hs[q * 8 + 6]? = some (rv q)) (h7 : ∀ q, q < n → hs[q * 8 + 7]? = some (wv q)) (hR : ∀ q, q < n → (R q).length ≤ 1073741824) (hS : ∀ q, q < n → (S q).length ≤ 1073741824) (hn : n ≤ 1073741824)
  (HS : ∀ (w1 : World) (i j : Nat), Below B w w1 → i ≤ 2147483648 → j ≤ 2147483648 → Calls Tryz.prog 40 #[.int .i64 k, .int .i64 (i : Int), .int .i64 (j : Int)] w1 fun e w' => e = .returned (.string (sg i j)) ∧ Below w1.heap.size w1 w') :
  Calls Tryz.prog 41 #[lv, .int .i64 k] w fun e w' => ∃ x y SV TV, e = .returned (.tuple #[x, y]) ∧ Hid (Gw w w' B n rv wv R S lv hs sg n x y SV TV) := by
 obtain ⟨la, lc, hlv, _⟩ := Fam.row_slice hl; have HG0 := hid (Gw.start (sg := sg) h hl hB); have H6 := hid h6; have H7 := hid h7; have HR := hid hR; have HSL := hid hS; have HSG := hid HS; have HBK : Hid (∀ wz, Onl (fun k => ∃ q, q < n ∧ ((rv q).ownBlock = some k ∨ (wv q).ownBlock = some k)) w wz → Below B w wz) := fun wz ho => ho.below (fun k hk => by
  obtain ⟨q, hq, hk | hk⟩ := hk
  ·exact ((h.r.own q hq).lt k hk).1
  ·exact ((h.s.own q hq).lt k hk).1) hB
 have HB := hid hB; clear h6 h7 hR hS HS h hl hB; subst hlv; go_enter Tryz.func41, Tryz.ntmps41
 go_wp2_with fail
 go_loopg [6, 7, 8] n (fun g s6 s7 s8 wr => ∃ i : Nat, i ≤ n ∧ g = n - i ∧ s8 = .int .i64 i ∧ Hid (∃ SV TV, Gw w wr B n rv wv R S (.slice la n lc) hs sg i s6 s7 SV TV))
 case atStart => exact ⟨0, by omega, by omega, rfl, [], [], HG0.out⟩
 case round =>
  obtain ⟨i, hi, rfl, rfl, HG⟩ := hrel; clear HG0; obtain ⟨v6, hv6⟩ : ∃ v6, v6 = u6 := ⟨_, rfl⟩; obtain ⟨v7, hv7⟩ : ∃ v7, v7 = u7 := ⟨_, rfl⟩; rw [← hv6, ← hv7] at HG ⊢; clear hv6 hv7; by_cases hlt : i < n
  ·obtain ⟨SV, TV, hgw⟩ := HG.out; obtain ⟨g, rfl, hc⟩ := row_at hgw.l (by omega); obtain ⟨ra, rc, er, _⟩ := Fam.row_slice (hgw.mr.r.own i hlt); obtain ⟨wa, wc, ew, _⟩ := Fam.row_slice (hgw.mr.s.own i hlt); have c6 := hc _ _ (H6.out i hlt); have c7 := hc _ _ (H7.out i hlt); obtain ⟨nr, hnr⟩ : ∃ nr, nr = (R i).length := ⟨_, rfl⟩; obtain ⟨nw, hnw⟩ : ∃ nw, nw = (S i).length := ⟨_, rfl⟩; have hRl := HR.out i hlt; have hSl := HSL.out i hlt; rw [← hnr] at er hRl; rw [← hnw] at ew hSl; rw [er] at c6; rw [ew] at c7; have HL0 : Hid (Lg2 wr wr B (rv i) (wv i) (.slice ra nr rc) (.slice wa nw wc) (R i) (S i) (mS sg i nr 0) (mW sg i nw 0)) := by
    have := Lg2.start (hgw.mr.r.own i hlt) (hgw.mr.s.own i hlt); rw [← er, ← ew]; exact this
   have HGW := hid hgw; have HNR := hid hnr; have HNW := hid hnw; have HER := hid er; have HEW := hid ew; have hI : (i : Int) < (n : Int) := by omega
   have HCW : Hid (∀ wz, Gw w wz B n rv wv R S (.slice (some ⟨g, 0, none⟩) n lc) hs sg i v6 v7 SV TV → wz.cell? ⟨g, i * 8 + 6, none⟩ = some (.slice ra nr rc) ∧ wz.cell? ⟨g, i * 8 + 7, none⟩ = some (.slice wa nw wc)) := fun wz hz => by
    obtain ⟨g2, e2, hc2⟩ := row_at hz.l (by omega); injection e2 with e2
    injection e2 with e2 _ _
    subst e2; have c6 := hc2 _ _ (H6.out i hlt); have c7 := hc2 _ _ (H7.out i hlt); rw [er] at c6; rw [ew] at c7; exact ⟨c6, c7⟩
   clear HG hc hgw hnr hnw er ew; go_wp2_with fail
   rename World => wi
   go_loopg [9, 10, 11] 70 (fun g s9 s10 s11 wr => ∃ j : Nat, j ≤ 70 ∧ g = 70 - j ∧ s11 = .int .i64 j ∧ Hid (Lg2 wi wr B (rv i) (wv i) s9 s10 (R i) (S i) (mS sg i nr j) (mW sg i nw j)))
   case atStart => exact ⟨0, by omega, by omega, rfl, HL0.out⟩
   case round =>
    obtain ⟨j, hj, rfl, rfl, HL⟩ := hrel; clear HL0 c6 c7; obtain ⟨v9, hv9⟩ : ∃ v9, v9 = u9 := ⟨_, rfl⟩; obtain ⟨v10, hv10⟩ : ∃ v10, v10 = u10 := ⟨_, rfl⟩; rw [← hv9, ← hv10] at HL ⊢; clear hv9 hv10; have HGJ := hid (HGW.out.inner hlt HL.out); have HBJ := hid (HBK.out _ HGJ.out.on); obtain ⟨c6, c7⟩ := HCW.out _ HGJ.out; by_cases hlt2 : j < 70
    ·have k1 : IntKind.i64.wrap ((nr : Int) + (j : Int)) = ((nr + j : Nat) : Int) := by rw [IntKind.wrap_i64]; omega
     have k2 : IntKind.i64.wrap ((nw : Int) + (j : Int)) = ((nw + j : Nat) : Int) := by rw [IntKind.wrap_i64]; omega
     have hJ : (j : Int) < 70 := by omega
     have S1 := hid (HSG.out wr i (nr + j) HBJ.out (by omega) (by omega)); go_wp2_with fail
     refine S1.out.mono ?_; rintro e w1 ⟨rfl, hb1⟩; have HL1 := hid (HL.out.later hb1); obtain ⟨t1, ht1⟩ : ∃ t1 : T2, t1 = (sg i (nr + j), ⟨#[114]⟩) := ⟨_, rfl⟩; have e1 : sg i (nr + j) = t1.1 := by rw [ht1]
     have e2 : (⟨#[114]⟩ : ByteArray) = t1.2 := by rw [ht1]
     have HT1 : Hid (mS sg i nr (j + 1) = mS sg i nr j ++ [t1]) := by show _ = _; rw [mS_succ, ht1]
     have HA1 := hid (HL1.out.later (Below.al (Below.refl _ w1) (.cells #[.string (sg i (nr + j)), .string ⟨#[114]⟩] 25))); have HM1 : Hid (((R i).length + (mS sg i nr j).length + 1) * 64 ≤ 140737488355328) := by show _ ≤ _; rw [mS_len, ← HNR.out]; omega
     have HZ1 : Hid (B ≤ (w1.alloc (.cells #[.string (sg i (nr + j)), .string ⟨#[114]⟩] 25)).heap.size) := by show _ ≤ _; have := HA1.out.on.size; have := HGW.out.on.size; have := HB.out; omega
     have HN1 : Hid (∀ (q : Nat) (u : Value), (encS t1)[q]? = some u → (w1.alloc (.cells #[.string (sg i (nr + j)), .string ⟨#[114]⟩] 25)).cell? ((⟨w1.heap.size, 0, none⟩ : Addr).add q) = some u) := by
      rw [ht1]; exact newC w1 [.string (sg i (nr + j)), .string ⟨#[114]⟩] 25
     clear ht1 e1 e2 S1 c6 c7 hb1; generalize sg i (nr + j) = tx at HA1 HZ1 HN1
     go_wp2_with (at_builtin; refine append_S rfl _ _ rfl t1 rfl HA1.out.ra rfl HN1.out (encS_one _) HM1.out HZ1.out ?_; intro v6' w6 ho6 hg6 hk6 hn6; have hs6 := hid (HA1.out.stepR t1 ho6 hg6 hk6 hn6); have HG6 := hid (HGW.out.inner hlt hs6.out); have c7b := (HCW.out _ HG6.out).2; clear ho6 hg6 hk6 hn6)
     have S2 := hid (HSG.out w6 i (nw + j) (HBK.out _ HG6.out.on) (by omega) (by omega)); refine S2.out.mono ?_; rintro e w7 ⟨rfl, hb7⟩; have HL7 := hid (hs6.out.later hb7); obtain ⟨t2, ht2⟩ : ∃ t2 : Wr, t2 = ⟨sg i (nw + j), false, ⟨#[119]⟩⟩ := ⟨_, rfl⟩; have HT2 : Hid (mW sg i nw (j + 1) = mW sg i nw j ++ [t2]) := by show _ = _; rw [mW_succ, ht2]
     have HA2 := hid (HL7.out.later (Below.al (Below.refl _ w7) (.cells #[.string (sg i (nw + j)), .bool false, .string ⟨#[119]⟩] 103))); have HM2 : Hid (((S i).length + (mW sg i nw j).length + 1) * 64 ≤ 140737488355328) := by show _ ≤ _; rw [mW_len, ← HNW.out]; omega
     have HZ2 : Hid (B ≤ (w7.alloc (.cells #[.string (sg i (nw + j)), .bool false, .string ⟨#[119]⟩] 103)).heap.size) := by show _ ≤ _; have := HA2.out.on.size; have := HGW.out.on.size; have := HB.out; omega
     have HN2 : Hid (∀ (q : Nat) (u : Value), (encW t2)[q]? = some u → (w7.alloc (.cells #[.string (sg i (nw + j)), .bool false, .string ⟨#[119]⟩] 103)).cell? ((⟨w7.heap.size, 0, none⟩ : Addr).add q) = some u) := by
      rw [ht2]; exact newC w7 [.string (sg i (nw + j)), .bool false, .string ⟨#[119]⟩] 103
     clear ht2 S2 c7b hb7 HL1 HA1 HM1 HZ1 HN1 hs6 HL7; generalize sg i (nw + j) = ty at HA2 HZ2 HN2
     go_wp2_with (at_builtin; refine append_Wr rfl _ _ rfl t2 rfl HA2.out.wa rfl HN2.out (encW_one _) HM2.out HZ2.out ?_; intro v8' w8 ho8 hg8 hk8 hn8; have hs8 := hid (HA2.out.stepW t2 ho8 hg8 hk8 hn8); clear ho8 hg8 hk8 hn8)
     go_roundg (70 - (j + 1))
     case measure => omega
     case rel => exact ⟨j + 1, by omega, rfl, by go_num, by rw [HT1.out, HT2.out]; exact hs8.out⟩
    ·obtain rfl : j = 70 := by omega
     have HRA : Hid (wr.ownsRow B 25 2 v9 ((R i).length + 70) (flat2 (R i) ++ flat2 (mS sg i (R i).length 70))) := by
      have := HL.out.ra; rw [mS_len, HNR.out] at this; exact this
     have HWA : Hid (wr.ownsRow B 103 3 v10 ((S i).length + 70) (flatW (S i) ++ flatW (mW sg i (S i).length 70))) := by
      have := HL.out.wa; rw [mW_len, HNW.out] at this; exact this
     have HRN := hid (near_mono HGW.out.on.size HL.out.rn); have HWN := hid (near_mono HGW.out.on.size HL.out.wn); obtain ⟨a9, c9, e9, -⟩ := Fam.row_slice HRA.out; obtain ⟨a10, c10, e10, -⟩ := Fam.row_slice HWA.out; generalize (R i).length + 70 = n9 at e9
     generalize (S i).length + 70 = n10 at e10
     subst e9 e10; obtain ⟨x9, hx9⟩ : ∃ x9, x9 = Value.slice a9 n9 c9 := ⟨_, rfl⟩; obtain ⟨x10, hx10⟩ : ∃ x10, x10 = Value.slice a10 n10 c10 := ⟨_, rfl⟩; obtain ⟨a6, c6b, e6, -⟩ := Fam.row_slice HGJ.out.sx; obtain ⟨a7, c7b, e7, -⟩ := Fam.row_slice HGJ.out.sy; subst e6 e7; have HX1 := hid (Fam.row_later HGJ.out.sx (Below.al (Below.refl _ wr) (.cells #[.slice a9 n9 c9] 40))); have HZ1 : Hid (w.heap.size ≤ (wr.alloc (.cells #[.slice a9 n9 c9] 40)).heap.size) := by show _ ≤ _; have := HGJ.out.on.size; simp; omega
     have HN1 : Hid (∀ (q : Nat) (u : Value), [Value.slice a9 n9 c9][q]? = some u → (wr.alloc (.cells #[.slice a9 n9 c9] 40)).cell? ((⟨wr.heap.size, 0, none⟩ : Addr).add q) = some u) := newC wr [.slice a9 n9 c9] 40; have HV9 : Hid (∀ u ∈ [Value.slice a9 n9 c9], u.oneCell' = true) := fun u hu => by simp at hu; subst hu; rfl
     have HV10 : Hid (∀ u ∈ [Value.slice a10 n10 c10], u.oneCell' = true) := fun u hu => by simp at hu; subst hu; rfl
     have HM1 : Hid ((i + 1) * 64 ≤ 140737488355328) := by show _ ≤ _; omega
     have HYF : Hid (∀ w2, (wr.alloc (.cells #[.slice a9 n9 c9] 40)).grownBy w2 (Value.slice a6 i c6b).ownBlock → (w2.alloc (.cells #[.slice a10 n10 c10] 41)).ownsRow w.heap.size 41 1 (.slice a7 i c7b) i TV ∧ w.heap.size ≤ (w2.alloc (.cells #[.slice a10 n10 c10] 41)).heap.size) := fun w2 hg => by
      have y1 := Fam.row_later HGJ.out.sy (Below.al (Below.refl _ wr) (.cells #[.slice a9 n9 c9] 40)); refine ⟨Fam.row_later (World.ownsRow.kept y1 hg (Fam.Ap.types y1 HX1.out (by decide))) (Below.al (Below.refl _ w2) _), ?_⟩; have h1 := HZ1.out; have h2 := hg.size; simp at h1 h2 ⊢; omega
     have HFIN : Hid (∀ w2 w4 x' y', (wr.alloc (.cells #[.slice a9 n9 c9] 40)).grownBy w2 (Value.slice a6 i c6b).ownBlock → w2.ownsRow w.heap.size 40 1 x' (i + 1) (SV ++ [.slice a9 n9 c9]) → (w2.alloc (.cells #[.slice a10 n10 c10] 41)).grownBy w4 (Value.slice a7 i c7b).ownBlock → w4.ownsRow w.heap.size 41 1 y' (i + 1) (TV ++ [.slice a10 n10 c10]) → ∃ SV TV, Gw w w4 B n rv wv R S (.slice (some ⟨g, 0, none⟩) n lc) hs sg (i + 1) x' y' SV TV) := fun w2 w4 x' y' h1 h2 h3 h4 =>
      ⟨_, _, HGJ.out.next HRA.out HRN.out HWA.out HWN.out (Below.al (Below.refl _ _) _) h1 h2 (Below.al (Below.refl _ _) _) h3 h4⟩
     clear hlt2 hj c6 c7 hx9 hx10; go_wp2_with (first
      | (at_builtin; refine append_LS rfl _ _ rfl (.slice a9 n9 c9) rfl HX1.out rfl HN1.out HV9.out HM1.out HZ1.out ?_; intro x' w2 ho2 hg2 _ _; have HY := hid (HYF.out w2 hg2); have HN2 := hid (newC w2 [.slice a10 n10 c10] 41); have HO2 := hid ho2; have HG2 := hid hg2; clear ho2 hg2)
      | (at_builtin; refine append_LW rfl _ _ rfl (.slice a10 n10 c10) rfl HY.out.1 rfl HN2.out HV10.out HM1.out HY.out.2 ?_; intro y' w4 ho4 hg4 _ _; have HF := hid (HFIN.out _ _ _ _ HG2.out HO2.out hg4 ho4); clear ho4 hg4))
     go_roundg (n - (i + 1))
     case measure => omega
     case rel => exact ⟨i + 1, by omega, rfl, by go_num, HF.out⟩
  ·obtain rfl : i = n := by omega
   clear hlt hi; go_wp2_with fail
   refine bodyPost_ret (v := .tuple #[v6, v7]) (by simp [results, Tryz.results41, go_sem]) rfl ?_; obtain ⟨SV, TV, hgw⟩ := HG.out; exact ⟨_, _, SV, TV, rfl, hgw⟩
abbrev MR (sg : Nat → Nat → ByteArray) (R : Nat → List T2) (q : Nat) : List T2 := mS sg q 0 (R q).length
abbrev MS (sg : Nat → Nat → ByteArray) (S : Nat → List Wr) (q : Nat) : List Wr := mW sg q 0 (S q).length
structure M1 (w wr : World) (B n : Nat) (rv wv : Nat → Value) (R : Nat → List T2) (S : Nat → List Wr) (lv : Value) (hs : List Value) : Prop where
 mr : Mk B wr n rv wv R S
 l : wr.ownsRow B 52 8 lv n hs
 on : Onl (fun k => ∃ q, q < n ∧ ((rv q).ownBlock = some k ∨ (wv q).ownBlock = some k)) w wr
section
variable {w wr wr' : World} {B n : Nat} {rv wv : Nat → Value} {R R' : Nat → List T2} {S S' : Nat → List Wr} {lv : Value} {hs : List Value}
theorem Mk.congr (h : Mk B w n rv wv R S) (hR : ∀ q, q < n → R' q = R q) (hS : ∀ q, q < n → S' q = S q) : Mk B w n rv wv R' S' :=
 ⟨⟨fun q hq => by rw [hR q hq]; exact h.r.own q hq, h.r.ap⟩, ⟨fun q hq => by rw [hS q hq]; exact h.s.own q hq, h.s.ap⟩⟩
theorem M1.congr (h : M1 w wr B n rv wv R S lv hs) (hR : ∀ q, q < n → R' q = R q) (hS : ∀ q, q < n → S' q = S q) : M1 w wr B n rv wv R' S' lv hs := ⟨h.mr.congr hR hS, h.l, h.on⟩
theorem M1.later (h : M1 w wr B n rv wv R S lv hs) (hb : Below wr.heap.size wr wr') : M1 w wr' B n rv wv R S lv hs := ⟨h.mr.later hb, Fam.row_later h.l hb, h.on.on hb⟩
theorem M1.putR (h : M1 w wr B n rv wv R S lv hs) {i : Nat} (hi : i < n) {j : Nat} (hj : j < (R i).length) (x : T2) :
  ∃ g c, rv i = .slice (some ⟨g, 0, none⟩) (R i).length c ∧ g < wr.heap.size ∧ wr.cell? ⟨g, j * 2, none⟩ = some (.string (nth2 (R i) j).1) ∧ wr.cell? ⟨g, j * 2 + 1, none⟩ = some (.string (nth2 (R i) j).2) ∧ (∀ o, wr.frozen? ⟨g, o, none⟩ = false) ∧
   ∀ wz, Below wr.heap.size wr wz → M1 w (putS wz g (j * 2) x) B n rv wv (Fam.up R i ((R i).set j x)) S lv hs := by
 obtain ⟨g, c, e, c0, c1, fz, _, _⟩ := h.mr.putR hi hj x; refine ⟨g, c, e, World.block_lt_of_cell? _ _ c0, c0, c1, fz, fun wz hb => ?_⟩; have hz := h.later hb; obtain ⟨g2, c2, e2, _, _, _, hm, hg⟩ := hz.mr.putR hi hj x; rw [e] at e2; injection e2 with e2 _ _
 injection e2 with e2
 injection e2 with e2 _ _
 subst e2; exact ⟨hm, World.ownsRow.kept hz.l hg (Fam.Ap.types hz.l (hz.mr.r.own i hi) (by decide)), hz.on.trans ((grown_onl hg).mono fun k hk => ⟨i, hi, .inl hk⟩)⟩
theorem M1.putW (h : M1 w wr B n rv wv R S lv hs) {i : Nat} (hi : i < n) {j : Nat} (hj : j < (S i).length) (x : Wr) :
  ∃ g c, wv i = .slice (some ⟨g, 0, none⟩) (S i).length c ∧ g < wr.heap.size ∧ wr.cell? ⟨g, j * 3, none⟩ = some (.string (nthW (S i) j).key) ∧ wr.cell? ⟨g, j * 3 + 1, none⟩ = some (.bool (nthW (S i) j).del) ∧ wr.cell? ⟨g, j * 3 + 2, none⟩ = some (.string (nthW (S i) j).val) ∧ (∀ o, wr.frozen? ⟨g, o, none⟩ = false) ∧
   ∀ wz, Below wr.heap.size wr wz → M1 w (putW wz g (j * 3) x) B n rv wv R (Fam.up S i ((S i).set j x)) lv hs := by
 obtain ⟨g, c, e, c0, c1, c2, fz, _, _⟩ := h.mr.putW hi hj x; refine ⟨g, c, e, World.block_lt_of_cell? _ _ c0, c0, c1, c2, fz, fun wz hb => ?_⟩; have hz := h.later hb; obtain ⟨g2, c2, e2, _, _, _, _, hm, hg⟩ := hz.mr.putW hi hj x; rw [e] at e2; injection e2 with e2 _ _
 injection e2 with e2
 injection e2 with e2 _ _
 subst e2; exact ⟨hm, World.ownsRow.kept hz.l hg (Fam.Ap.types hz.l (hz.mr.s.own i hi) (by decide)), hz.on.trans ((grown_onl hg).mono fun k hk => ⟨i, hi, .inr hk⟩)⟩
end
section
variable {w wr : World} {B n : Nat} {rv wv : Nat → Value} {R : Nat → List T2} {S : Nat → List Wr} {lv : Value} {hs : List Value} {sg : Nat → Nat → ByteArray} {i j : Nat}
abbrev MA (w wr : World) (B n : Nat) (rv wv : Nat → Value) (R : Nat → List T2) (S : Nat → List Wr) (lv : Value) (hs : List Value) (sg : Nat → Nat → ByteArray) (i j : Nat) : Prop := M1 w wr B n rv wv (Fam.ct (MR sg R) R i j) (Fam.ct (MS sg S) S i 0) lv hs
abbrev MB (w wr : World) (B n : Nat) (rv wv : Nat → Value) (R : Nat → List T2) (S : Nat → List Wr) (lv : Value) (hs : List Value) (sg : Nat → Nat → ByteArray) (i j : Nat) : Prop := M1 w wr B n rv wv (Fam.ct (MR sg R) R (i + 1) 0) (Fam.ct (MS sg S) S i j) lv hs
theorem MR_len (q : Nat) : (MR sg R q).length = (R q).length := mS_len _ _ _ _
theorem MS_len (q : Nat) : (MS sg S q).length = (S q).length := mW_len _ _ _ _
theorem MA.start (h : M1 w wr B n rv wv R S lv hs) : MA w wr B n rv wv R S lv hs sg 0 0 := h.congr (fun q _ => Fam.ct_zero _ _ q) (fun q _ => Fam.ct_zero _ _ q)
theorem MA.full (h : MA w wr B n rv wv R S lv hs sg i (R i).length) : MB w wr B n rv wv R S lv hs sg i 0 := h.congr (fun q _ => (Fam.ct_next _ _ (MR_len i) q).symm) (fun q _ => rfl)
theorem MB.full (h : MB w wr B n rv wv R S lv hs sg i (S i).length) : MA w wr B n rv wv R S lv hs sg (i + 1) 0 := h.congr (fun q _ => rfl) (fun q _ => (Fam.ct_next _ _ (MS_len i) q).symm)
theorem MA.done (h : MA w wr B n rv wv R S lv hs sg n 0) : M1 w wr B n rv wv (MR sg R) (MS sg S) lv hs := h.congr (fun q hq => (Fam.ct_done _ _ hq).symm) (fun q hq => (Fam.ct_done _ _ hq).symm)
theorem mS_get {i len m j : Nat} (h : j < m) : (mS sg i len m)[j]? = some (sg i (len + j), ⟨#[114]⟩) := by simp [mS, h]
theorem mW_get {i len m j : Nat} (h : j < m) : (mW sg i len m)[j]? = some ⟨sg i (len + j), false, ⟨#[119]⟩⟩ := by simp [mW, h]
theorem MA.put (h : MA w wr B n rv wv R S lv hs sg i j) (hi : i < n) (hj : j < (R i).length) :
  ∃ g c a b, rv i = .slice (some ⟨g, 0, none⟩) (R i).length c ∧ g < wr.heap.size ∧ wr.cell? ⟨g, j * 2, none⟩ = some (.string a) ∧ wr.cell? ⟨g, j * 2 + 1, none⟩ = some (.string b) ∧ (∀ o, wr.frozen? ⟨g, o, none⟩ = false) ∧
   ∀ wz, Below wr.heap.size wr wz → MA w (putS wz g (j * 2) (sg i j, ⟨#[114]⟩)) B n rv wv R S lv hs sg i (j + 1) := by
 have hl := Fam.ct_len (MR sg R) R (fun q => MR_len q) (i := i) (k := j) (by omega) i; obtain ⟨g, c, e, hg, c0, c1, fz, hz⟩ := h.putR hi (j := j) (by rw [hl]; exact hj) (sg i j, ⟨#[114]⟩); rw [hl] at e; refine ⟨g, c, _, _, e, hg, c0, c1, fz, fun wz hb => (hz wz hb).congr (fun q hq => ?_) (fun q _ => rfl)⟩; by_cases e2 : q = i
 ·subst e2; rw [Fam.up_same, Fam.ct_set _ _ (MR_len q) hj (by rw [mS_get hj, Nat.zero_add])]
 ·rw [Fam.up_other _ _ e2]; exact Fam.ct_other _ _ e2
theorem MB.put (h : MB w wr B n rv wv R S lv hs sg i j) (hi : i < n) (hj : j < (S i).length) :
  ∃ g c a b d, wv i = .slice (some ⟨g, 0, none⟩) (S i).length c ∧ g < wr.heap.size ∧ wr.cell? ⟨g, j * 3, none⟩ = some (.string a) ∧ wr.cell? ⟨g, j * 3 + 1, none⟩ = some (.bool b) ∧ wr.cell? ⟨g, j * 3 + 2, none⟩ = some (.string d) ∧ (∀ o, wr.frozen? ⟨g, o, none⟩ = false) ∧
   ∀ wz, Below wr.heap.size wr wz → MB w (putW wz g (j * 3) ⟨sg i j, false, ⟨#[119]⟩⟩) B n rv wv R S lv hs sg i (j + 1) := by
 have hl := Fam.ct_len (MS sg S) S (fun q => MS_len q) (i := i) (k := j) (by omega) i; obtain ⟨g, c, e, hg, c0, c1, c2, fz, hz⟩ := h.putW hi (j := j) (by rw [hl]; exact hj) ⟨sg i j, false, ⟨#[119]⟩⟩; rw [hl] at e; refine ⟨g, c, _, _, _, e, hg, c0, c1, c2, fz, fun wz hb => (hz wz hb).congr (fun q _ => rfl) (fun q hq => ?_)⟩; by_cases e2 : q = i
 ·subst e2; rw [Fam.up_same, Fam.ct_set _ _ (MS_len q) hj (by rw [mW_get hj, Nat.zero_add])]
 ·rw [Fam.up_other _ _ e2]; exact Fam.ct_other _ _ e2
end
theorem mS_join (sg : Nat → Nat → ByteArray) (i a b : Nat) : mS sg i 0 a ++ mS sg i a b = mS sg i 0 (a + b) := by
 apply List.ext_getElem?
 intro j; by_cases h : j < a
 ·rw [List.getElem?_append_left (by rw [mS_len]; exact h), mS_get h, mS_get (by omega)]
 ·rw [List.getElem?_append_right (by rw [mS_len]; omega), mS_len]; by_cases h2 : j < a + b
  ·rw [mS_get (by omega), mS_get h2, show a + (j - a) = 0 + j by omega]
  ·rw [List.getElem?_eq_none (by rw [mS_len]; omega), List.getElem?_eq_none (by rw [mS_len]; omega)]
theorem mW_join (sg : Nat → Nat → ByteArray) (i a b : Nat) : mW sg i 0 a ++ mW sg i a b = mW sg i 0 (a + b) := by
 apply List.ext_getElem?
 intro j; by_cases h : j < a
 ·rw [List.getElem?_append_left (by rw [mW_len]; exact h), mW_get h, mW_get (by omega)]
 ·rw [List.getElem?_append_right (by rw [mW_len]; omega), mW_len]; by_cases h2 : j < a + b
  ·rw [mW_get (by omega), mW_get h2, show a + (j - a) = 0 + j by omega]
  ·rw [List.getElem?_eq_none (by rw [mW_len]; omega), List.getElem?_eq_none (by rw [mW_len]; omega)]
theorem row_S {w : World} {B m q : Nat} {v : Value} {sg : Nat → Nat → ByteArray} (h : w.ownsRow B 25 2 v m (flat2 (mS sg q 0 m))) {j : Nat} (hj : j < m) : ∃ g c, v = .slice (some ⟨g, 0, none⟩) m c ∧ ∀ j, j < m → w.cell? ⟨g, j * 2, none⟩ = some (.string (sg q j)) ∧ w.cell? ⟨g, j * 2 + 1, none⟩ = some (.string ⟨#[114]⟩) := by
 obtain ⟨g, c, e, _⟩ := Fam.row_block h (by omega); subst e; refine ⟨g, c, rfl, fun j hj => ?_⟩; have := cells_S h (mS_len _ _ _ _) hj; rw [nth2, mS_get hj] at this; simpa using this
theorem row_W {w : World} {B m q : Nat} {v : Value} {sg : Nat → Nat → ByteArray} (h : w.ownsRow B 103 3 v m (flatW (mW sg q 0 m))) {j : Nat} (hj : j < m) : ∃ g c, v = .slice (some ⟨g, 0, none⟩) m c ∧ ∀ j, j < m → w.cell? ⟨g, j * 3, none⟩ = some (.string (sg q j)) ∧ w.cell? ⟨g, j * 3 + 1, none⟩ = some (.bool false) ∧ w.cell? ⟨g, j * 3 + 2, none⟩ = some (.string ⟨#[119]⟩) := by
 obtain ⟨g, c, e, _⟩ := Fam.row_block h (by omega); subst e; refine ⟨g, c, rfl, fun j hj => ?_⟩; have := cells_W h (mW_len _ _ _ _) hj; rw [nthW, mW_get hj] at this; simpa using this
theorem row_V {w : World} {B n : Nat} {e : TypeId} {x : Value} {SV : List Value} (h : w.ownsRow B e 1 x n SV) {q : Nat} (hq : q < n) : ∃ g c, x = .slice (some ⟨g, 0, none⟩) n c ∧ w.cell? ⟨g, q, none⟩ = some (nthY SV q) := by
 obtain ⟨g, c, e, _⟩ := Fam.row_block h (by omega); have hl := h.1; subst e; obtain ⟨g', e', _, hc⟩ := own_cells h (by omega); injection e' with e'
 injection e' with e' _ _
 subst e'; refine ⟨g, c, rfl, hc q _ ?_⟩; rw [nthY, List.getElem?_eq_getElem (by omega)]; rfl
theorem Gw.spans {W wr : World} {B n : Nat} {rv wv : Nat → Value} {R : Nat → List T2} {S : Nat → List Wr} {lv x y : Value} {hs SV TV : List Value} {sg : Nat → Nat → ByteArray} (h : Gw W wr B n rv wv (MR sg R) (MS sg S) lv hs sg n x y SV TV) {q : Nat} (hq : q < n) :
  wr.ownsRow B 25 2 (nthY SV q) ((R q).length + 70) (flat2 (mS sg q 0 ((R q).length + 70))) ∧ wr.ownsRow B 103 3 (nthY TV q) ((S q).length + 70) (flatW (mW sg q 0 ((S q).length + 70))) ∧ wr.ownsRow B 25 2 (rv q) (R q).length (flat2 (mS sg q 0 (R q).length)) ∧ wr.ownsRow B 103 3 (wv q) (S q).length (flatW (mW sg q 0 (S q).length)) := by
 have h1 := (h.rs q hq).1; have h2 := (h.ws q hq).1; have h3 := h.mr.r.own q hq; have h4 := h.mr.s.own q hq; rw [MR_len, ← flat2_append, mS_join] at h1; rw [MS_len, ← flatW_append, mW_join] at h2; simp only [MR_len] at h3; simp only [MS_len] at h4; exact ⟨h1, h2, h3, h4⟩
abbrev hld (w : World) (g o : Nat) (m : Int) : World := (((((((w.setCell ⟨g, o, none⟩ (.int .u32 0)).setCell ⟨g, o + 1, none⟩ (.int .u32 0)).setCell ⟨g, o + 2, none⟩ (.int .u32 m)).setCell ⟨g, o + 3, none⟩ (.int .u64 0)).setCell ⟨g, o + 4, none⟩ (.int .u32 0)).setCell ⟨g, o + 5, none⟩ (.int .u32 0)).setCell ⟨g, o + 6, none⟩ (.slice none 0 0)).setCell ⟨g, o + 7, none⟩ (.slice none 0 0)
abbrev hldL (hs : List Value) (o : Nat) (m : Int) : List Value := (((((((hs.set o (.int .u32 0)).set (o + 1) (.int .u32 0)).set (o + 2) (.int .u32 m)).set (o + 3) (.int .u64 0)).set (o + 4) (.int .u32 0)).set (o + 5) (.int .u32 0)).set (o + 6) (.slice none 0 0)).set (o + 7) (.slice none 0 0)
theorem hldL_at {hs : List Value} {q n : Nat} {m : Int} (hl : hs.length = n * 8) (hq : q < n) : (hldL hs (q * 8) m)[q * 8 + 2]? = some (.int .u32 m) := by
 have h2 : q * 8 + 2 < hs.length := by omega
 simp only [hldL, List.getElem?_set, List.length_set]; simp; omega
theorem hldL_not {hs : List Value} {q j : Nat} {m : Int} (h : j ≠ q) : (hldL hs (q * 8) m)[j * 8 + 2]? = hs[j * 8 + 2]? := by
 simp only [hldL, List.getElem?_set, List.length_set]; rw [if_neg (by omega), if_neg (by omega), if_neg (by omega), if_neg (by omega), if_neg (by omega), if_neg (by omega), if_neg (by omega), if_neg (by omega)]
theorem own_loose {w : World} {B n size g c : Nat} {e : TypeId} {xs : List Value} (h : w.ownsRow B e size (.slice (some ⟨g, 0, none⟩) n c) n xs) : ∀ o, w.frozen? ⟨g, o, none⟩ = false := by
 intro o; rcases h.2 with ⟨h', _⟩ | ⟨g', cap', cur, h', hb, hg, _⟩
 ·simp at h'
 ·simp only [Value.slice.injEq, Option.some.injEq, Addr.mk.injEq, and_true, true_and] at h'; obtain ⟨rfl, rfl⟩ := h'; simp [World.frozen?, hg]
theorem held_put {w : World} {B n : Nat} {la : Option Addr} {lc : Nat} {hs : List Value} (h : w.ownsRow B 52 8 (.slice la n lc) n hs) {q : Nat} (hq : q < n) (m : Int) :
  ∃ g, la = some ⟨g, 0, none⟩ ∧ (∀ i, i < 8 → ∃ x, w.cell? ⟨g, q * 8 + i, none⟩ = some x) ∧ (∀ o, w.frozen? ⟨g, o, none⟩ = false) ∧
   (hld w g (q * 8) m).ownsRow B 52 8 (.slice la n lc) n (hldL hs (q * 8) m) ∧ Onl (fun b => (Value.slice la n lc).ownBlock = some b) w (hld w g (q * 8) m) ∧ hs.length = n * 8 := by
 have hl : hs.length = n * 8 := h.1; obtain ⟨g, rfl, hc⟩ := row_at h (by omega); have h0 := World.ownsRow.stored h (q * 8) (.int .u32 0); have h1 := World.ownsRow.stored h0.1 (q * 8 + 1) (.int .u32 0); have h2 := World.ownsRow.stored h1.1 (q * 8 + 2) (.int .u32 m); have h3 := World.ownsRow.stored h2.1 (q * 8 + 3) (.int .u64 0); have h4 := World.ownsRow.stored h3.1 (q * 8 + 4) (.int .u32 0); have h5 := World.ownsRow.stored h4.1 (q * 8 + 5) (.int .u32 0); have h6 := World.ownsRow.stored h5.1 (q * 8 + 6) (.slice none 0 0); have h7 := World.ownsRow.stored h6.1 (q * 8 + 7) (.slice none 0 0); refine ⟨g, rfl, fun i hi => ⟨_, hc _ _ (List.getElem?_eq_getElem (by omega))⟩, own_loose h, h7.1, ?_, hl⟩; have := (grown_onl h0.2).trans ((grown_onl h1.2).trans ((grown_onl h2.2).trans ((grown_onl h3.2).trans ((grown_onl h4.2).trans ((grown_onl h5.2).trans ((grown_onl h6.2).trans (grown_onl h7.2)))))))
 exact this.mono fun k hk => by simpa [Value.ownBlock] using hk
end Go.Proofs.YtneojeidpfjpbaaGreatDoor.Lk
