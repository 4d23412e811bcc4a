import Derived.Test.YtmhpakbkmddfeaaIFrz2
namespace Go.Proofs.Ytmhpakbkmddfeaa
open Go.RowKit Go.Sort Go.Shelf
set_option linter.unusedVariables false
attribute [local go_sem] Oper.semAt_some

set_option maxRecDepth 100000 in
set_option maxHeartbeats 4000000 in
theorem frozen_is {W0 w : World} {x c : Nat} {a : Option Addr} {l : List En} {ops : List Ao} (h : Xi w x l) (hR : RowO W0 a ops) (hc : ops.length ≤ c) (hbW : Below W0.heap.size W0 w) (hxW : W0.heap.size ≤ x) (lo hi : ByteArray)
    (hl : (l.length + 1) * 16 ≤ 140737488355328) (hn : (ops.length + 2) * 64 ≤ 140737488355328) (hks : ∀ e ∈ rangeX l lo hi, e.1.size + 1 ≤ 9223372036854775807) :
    Calls Try.prog 18 #[pt x, .agg #[.string lo, .string hi], .slice a ops.length c] w fun e w' => e = .returned (.bool true) ∧ ∃ l', Xi w' x l' ∧ InU (Uof l ops (rangeX l lo hi)) l' ∧ Onl (fun b => b = x) w w' := by
  refine (callsIn_wide (n := 5)).1 ?_
  obtain ⟨E, hE⟩ : ∃ E, rangeX l lo hi = E := ⟨_, rfl⟩
  obtain ⟨T, hT⟩ : ∃ T, E.length = T := ⟨_, rfl⟩
  obtain ⟨U, hU⟩ : ∃ U, Uof l ops E = U := ⟨_, rfl⟩
  rw [hE, hU]
  rw [hE] at hks
  have hEl : E.length ≤ l.length := by rw [← hE]; exact List.length_filter_le _ _
  have hlT : l.length + 1 ≤ 140737488355328 := Nat.le_trans (Nat.le_mul_of_pos_right _ (by decide : 0 < 16)) hl
  have hnT : ops.length + 2 ≤ 140737488355328 := Nat.le_trans (Nat.le_mul_of_pos_right _ (by decide : 0 < 64)) hn
  have HUL : Hid (U.length ≤ 562949953421312) := by
    have h1 := U_len (l := l) (E := E) (ops := ops) hEl
    rw [hU] at h1
    show _ ≤ _; omega
  have HUO : Hid (∀ i, i < ops.length → (nthO ops i).key ∈ U) := fun i hi => hU ▸ U_ops hi
  have HUZ : Hid (∀ e ∈ E, zb e.1 ∈ U) := fun e he => hU ▸ U_zb he
  have HUS : Hid (InU U l) := hU ▸ U_self
  have HUE : Hid (∀ e ∈ E, e.1 ∈ U) := fun e he => HUS.out e (by rw [← hE] at he; exact (List.mem_filter.1 he).1)
  have hTl : T ≤ l.length := by omega
  have hT8 : (T + 1) * 8 ≤ 140737488355328 := Nat.le_trans (Nat.mul_le_mul (Nat.succ_le_succ hTl) (by decide : 8 ≤ 16)) hl
  obtain ⟨w0, hw0⟩ : ∃ w0, w0 = ((w.alloc (.cells #[pt x] 23)).alloc (.cells #[.string lo, .string hi] 32)).alloc (.cells #[.bool false] 4) := ⟨_, rfl⟩
  have hb0 : Below w.heap.size w w0 := by rw [hw0]; exact Below.al (Below.al (Below.al (Below.refl _ _) _) _) _
  have bX : Boxed w0 w.heap.size 23 (pt x) := by rw [hw0]; exact ((Boxed.new w _ _).alloc _).alloc _
  have hS : w0.heap[w.heap.size + 1]? = some (.cells #[.string lo, .string hi] 32 (0, 0)) := by
    have := World.alloc_heap_new (w.alloc (.cells #[pt x] 23)) (.cells #[.string lo, .string hi] 32)
    rw [World.size_alloc] at this
    rw [hw0]; exact (Below.heap_alloc _ _ _ (by simp)).trans this
  have bR : Boxed w0 (w.heap.size + 1 + 1) 4 (.bool false) := by
    rw [hw0]; have := Boxed.new ((w.alloc (.cells #[pt x] 23)).alloc (.cells #[.string lo, .string hi] 32)) 4 (.bool false)
    simp only [World.size_alloc] at this; exact this
  have cX := bX.cell
  have cS0 : w0.cell? ⟨w.heap.size + 1, 0, none⟩ = some (.string lo) := cell_of_obj hS rfl
  have cS1 : w0.cell? ⟨w.heap.size + 1, 1, none⟩ = some (.string hi) := cell_of_obj hS rfl
  have hx0 := h.later hb0
  have KY : Hid (Calls Try.prog 12 #[pt x, .agg #[.string lo, .string hi]] w0 fun e w' => ∃ ka kc, e = .returned (.slice ka T kc) ∧ Hid (RowT w' ka (ks E)) ∧ Hid (∀ b off, ka = some ⟨b, off, none⟩ → w.heap.size ≤ b) ∧ Hid (Below w0.heap.size w0 w')) :=
    (keys_wide hx0 lo hi hl).mono fun e w' ⟨v, he, ho, hb⟩ => by
      rw [hE] at ho
      have ho' : w'.ownsRow w0.heap.size 9 1 v (ks E).length ((ks E).map Value.string) := by rw [List.length_map, ks_txs]; exact ho
      obtain ⟨ka, kc, rfl, hr⟩ := rowT_of_owns ho'
      rw [List.length_map, hT] at he ho'
      refine ⟨ka, kc, he, hr, fun b off e => ?_, hb⟩
      have := (World.ownsRow.lt ho' b (by rw [e]; rfl)).1
      exact Nat.le_trans hb0.size this
  have GE : Hid (∀ W' i, Below w0.heap.size w0 W' → i < E.length → Calls Try.prog 14 #[pt x, .string (nthE E i).1] W' fun e w' => e = .returned (.tuple #[.int .i64 (nthE E i).2, .bool true]) ∧ Below W'.heap.size W' w') := fun W' i hb hi => by
    have h1 := get_is (hx0.later hb) (nthE E i).1
    have h2 : getX l (nthE E i).1 = some (nthE E i).2 := (getX_some h.rising).2 (by have := nthE_inE hi; rw [← hE] at this; exact hE ▸ (List.mem_filter.1 this).1)
    rw [h2] at h1
    exact h1.mono fun e w' ⟨he, hw⟩ => ⟨he, hw ▸ Below.refl _ _⟩
  have RGE : Hid (∀ W', Below w0.heap.size w0 W' → Calls Try.prog 36 #[pt x, .agg #[.string lo, .string hi]] W' fun e w' => ∃ R B, e = .returned (itv 57 R B) ∧ Hid (It w' R B l lo hi) ∧ Hid (Below W'.heap.size W' w')) := fun W' hb =>
    (range_is (hx0.later hb) lo hi).mono fun e w' ⟨R, B, he, hit, hb, _, _⟩ => ⟨R, B, he, hit, hb⟩
  have BKE : Hid (∀ W', Below w0.heap.size w0 W' → Calls Try.prog 38 #[pt x, .agg #[.string lo, .string hi]] W' fun e w' => ∃ R B, e = .returned (itv 59 R B) ∧ Hid (It w' R B l lo hi) ∧ Hid (Below W'.heap.size W' w')) := fun W' hb =>
    (back_is (hx0.later hb) lo hi).mono fun e w' ⟨R, B, he, hit, hb, _, _⟩ => ⟨R, B, he, hit, hb⟩
  have HX0 := hid hx0
  have HB0 := hid hb0
  have HBX := hid bX
  have HBR := hid bR
  have HSP := hid hS
  have HRO := hid hR
  have HBW := hid hbW
  have HXW := hid hxW
  have HXL : Hid (x < w.heap.size) := h.lt
  have HT := hid hT
  have HE := hid hE
  have HKS := hid hks
  have HT8 := hid hT8
  have hTb : T ≤ 140737488355328 := by omega
  clear h hR hbW hxW hl hn hks hE hT hU hEl hlT hTl hT8 hb0 bX hS bR hx0
  refine callsIn_of_wp_marks Try.func18 rfl trivial ?_ rfl
  simp only [Try.ntmps18, List.size_toArray, List.length_cons, List.length_nil, Nat.reduceAdd, Nat.reduceSub, Array.replicate_succ, Array.replicate_zero, List.push_toArray, List.append_toArray, List.nil_append, List.cons_append]
  refine wpIn_wide.2 ?_
  subst hw0
  go_wp2_with (go_at_call 12; refine KY.out.mono ?_; rintro e w1 ⟨ka, kc, rfl, HRT, HKB, HB1⟩)
  obtain ⟨w0, hw0⟩ : ∃ w0, w0 = ((w.alloc (.cells #[pt x] 23)).alloc (.cells #[.string lo, .string hi] 32)).alloc (.cells #[.bool false] 4) := ⟨_, rfl⟩
  rw [← hw0] at HB0 HBX HBR HSP HX0 HB1 GE RGE BKE cX cS0 cS1
  clear hw0 KY
  obtain ⟨w2, hw2⟩ : ∃ w2, w2 = (w1.alloc (.cells #[.slice ka T kc] 29)).alloc (.cells #[.slice none 0 0] 76) := ⟨_, rfl⟩
  have b7 : Boxed w2 w1.heap.size 29 (.slice ka T kc) := by rw [hw2]; exact (Boxed.new w1 _ _).alloc _
  have b8 : Boxed w2 (w1.heap.size + 1) 76 (.slice none 0 0) := by
    rw [hw2]; have := Boxed.new (w1.alloc (.cells #[.slice ka T kc] 29)) 76 (.slice none 0 0)
    rw [World.size_alloc] at this; exact this
  have HB2 : Hid (Below w1.heap.size w1 w2) := by rw [hw2]; exact Below.al (Below.al (Below.refl _ _) _) _
  rw [← hw2]
  clear hw2
  go_loopg [28] T (fun g s28 wr => ∃ i : Nat, i ≤ T ∧ g = T - i ∧ s28 = .int .i64 i ∧ (∃ va vc, Boxed wr (w1.heap.size + 1) 76 (.slice va i vc) ∧ Hid (OwnI wr w1.heap.size (.slice va i vc) ((E.take i).map (fun e => e.2)))) ∧ Hid (Boxed wr w1.heap.size 29 (.slice ka T kc)) ∧ Hid (Below w1.heap.size w1 wr))
  case atStart => exact ⟨0, by omega, by omega, rfl, ⟨none, 0, b8, World.ownsRow_nil _ _ _ _⟩, b7, HB2⟩
  case round =>
    clear b7 b8 HB2
    obtain ⟨i, hle, rfl, rfl, ⟨va, vc, b8, HOW⟩, HB7, HBr⟩ := hrel
    by_cases hlt : i < T
    · have hil : i < E.length := by have := HT.out; omega
      obtain ⟨kb, koff, rfl, k0⟩ := HRT.out i (by simpa using hil)
      rw [nthT_ks hil] at k0
      have GEi := hid (fun W' hb => GE.out W' i hb hil)
      have HTV := hid (take_vals hil)
      have HLN : Hid (((E.take i).map (fun e => e.2)).length = i) := by show _ = _; rw [List.length_map, List.length_take]; omega
      obtain ⟨y, hy⟩ : ∃ y, y = nthE E i := ⟨_, rfl⟩
      rw [← hy] at k0 GEi HTV
      clear hy hil
      have c8 := b8.cell
      have f8 := b8.frozen
      have c7 := HB7.out.cell
      have kr := cell_later HBr.out k0
      have xr := cell_later (Below.on HB1.out HBr.out) cX
      have H8 := hid b8
      go_wp2_with fail
      go_region_held3 (fun w' => w'.cell? ⟨w.heap.size, 0, none⟩ = some (pt x) ∧ w'.cell? ⟨w1.heap.size, 0, none⟩ = some (.slice (some ⟨kb, koff, none⟩) T kc) ∧ w'.cell? ⟨kb, koff + i, none⟩ = some (.string y.1) ∧ Below wr.heap.size wr w')
        ((refine (fun (hB : Below wr.heap.size wr _) => ⟨cell_later hB xr, cell_later hB c7, cell_later hB kr, hB⟩) ?_; (repeat (first | exact Below.refl _ _ | assumption | refine Below.drew ?_ | refine Below.al ?_ _ | refine Below.setCell ?_ (by first | exact Nat.le_refl _ | (simp; omega) | (simp; done)) _ | refine Below.on ?_ (by assumption)))))
        (first
          | (go_at_call 14; refine (GEi.out _ (Below.on (Below.on HB1.out HBr.out) ?_)).mono ?_; ((repeat (first | exact Below.refl _ _ | assumption | refine Below.drew ?_ | refine Below.al ?_ _ | refine Below.setCell ?_ (by first | exact Nat.le_refl _ | (simp; omega) | (simp; done)) _ | refine Below.on ?_ (by assumption)))); rintro e w3 ⟨rfl, hb3⟩))
      have hbr3 : Below wr.heap.size wr w3 := by (repeat (first | exact Below.refl _ _ | assumption | refine Below.drew ?_ | refine Below.al ?_ _ | refine Below.setCell ?_ (by first | exact Nat.le_refl _ | (simp; omega) | (simp; done)) _ | refine Below.on ?_ (by assumption)))
      have b83 : Boxed w3 (w1.heap.size + 1) 76 (.slice va i vc) := (hbr3.block _ H8.out.lt).trans H8.out
      have HO3 := hid (HOW.out.later hbr3)
      have H73 : Hid (Boxed w3 w1.heap.size 29 (.slice (some ⟨kb, koff, none⟩) T kc)) := (hbr3.block _ HB7.out.lt).trans HB7.out
      have HBr3 : Hid (Below w1.heap.size w1 w3) := Below.on HBr.out hbr3
      have d8 := b83.cell
      have g8 := b83.frozen
      have H83 := hid b83
      have HL8 : Hid ((((E.take i).map (fun e => e.2)).length + 1) * 8 ≤ 140737488355328) := by show _ ≤ _; rw [HLN.out]; exact Nat.le_trans (Nat.mul_le_mul_right 8 (Nat.succ_le_succ hle)) HT8.out
      have hs1 : Hid (w1.heap.size ≤ w3.heap.size) := HBr3.out.size
      obtain ⟨vl, hvl⟩ : ∃ vl, (E.take i).map (fun e => e.2) = vl := ⟨_, rfl⟩
      rw [hvl] at HO3 HL8 HLN HTV
      clear b83 hbr3 hb3 c8 f8 c7 kr xr H8 HOW hvl
      go_wp2_with (at_builtin; refine append_I rfl _ _ rfl y.2 rfl (HO3.out.later (Below.al (Below.refl _ _) _)) rfl (cell1_newI _ _ _) HL8.out (by have := hs1.out; simp; omega) ?_; intro g' cap' w6 ho6 hg6; rw [HLN.out] at ho6 ⊢; obtain ⟨p1, p2, p3⟩ := vals_put H83.out HO3.out ho6 hg6; have p4 := hid (box_kept H73.out (by decide) HO3.out hg6); have p5 := hid (below_grownI HBr3.out (Nat.le_refl _) HO3.out hg6); have p1c := p1.cell; have p1f := p1.frozen; have p2 := hid p2; have p3 := hid p3; clear ho6 hg6)
      go_roundg (T - (i + 1))
      case measure => omega
      case rel => exact ⟨i + 1, by omega, rfl, by go_num, ⟨_, cap', p2.out, by show OwnI _ _ _ _; rw [HTV.out]; exact p3.out⟩, p4.out.other (by omega) _, Below.setCell p5.out (by show _ ≤ w1.heap.size + 1; omega) _⟩
    · obtain rfl : T = i := by omega
      clear hlt hle
      have xr := cell_later (Below.on HB1.out HBr.out) cX
      have s0r := cell_later (Below.on HB1.out HBr.out) cS0
      have s1r := cell_later (Below.on HB1.out HBr.out) cS1
      have HO8 : Hid (OwnI wr w1.heap.size (.slice va T vc) (E.map (fun e => e.2))) := by have := HOW.out; rw [show E.take T = E from by rw [← HT.out]; exact List.take_length] at this; exact this
      have H8 := hid b8
      clear b8 HOW GE
      go_wp2_with (first
        | (go_at_call 36; refine (RGE.out _ (Below.on HB1.out HBr.out)).mono ?_; rintro e w4 ⟨R1, B1, rfl, HI1, HB4⟩; have x4 := cell_later HB4.out xr; have s04 := cell_later HB4.out s0r; have s14 := cell_later HB4.out s1r)
        | (go_at_call 38; refine (BKE.out _ (Below.on (Below.on HB1.out HBr.out) HB4.out)).mono ?_; rintro e w5 ⟨R2, B2, rfl, HI2, HB5⟩))
      have HBr5 : Hid (Below wr.heap.size wr w5) := Below.on HB4.out HB5.out
      have HB05 : Hid (Below w0.heap.size w0 w5) := Below.on (Below.on HB1.out HBr.out) HBr5.out
      have x5 := cell_later HB5.out x4
      have HX5 : Hid (Xi w5 x l) := HX0.out.later HB05.out
      have HI15 : Hid (It w5 R1 B1 l lo hi) := HI1.out.later HB5.out
      have HR5 : Hid (RowT w5 ka (ks E)) := (HRT.out.later HBr.out).later HBr5.out
      have H75 : Hid (Boxed w5 w1.heap.size 29 (.slice ka T kc)) := (HBr5.out.block _ HB7.out.lt).trans HB7.out
      have H85 : Hid (Boxed w5 (w1.heap.size + 1) 76 (.slice va T vc)) := (HBr5.out.block _ H8.out.lt).trans H8.out
      have HR6 : Hid (Boxed w5 (w.heap.size + 1 + 1) 4 (.bool false)) := (HB05.out.block _ HBR.out.lt).trans HBR.out
      have HV5 : Hid (RowI w5 va (E.map (fun e => e.2)) ∧ ∀ b off, va = some ⟨b, off, none⟩ → w.heap.size ≤ b) := by
        have h1 := HO8.out.later HBr5.out
        obtain ⟨a', c', he, hr⟩ := rowI_of_owns h1
        cases he
        refine ⟨hr, fun b off e => ?_⟩
        have h2 := (World.ownsRow.lt h1 b (by rw [e]; rfl)).1
        exact Nat.le_trans (Nat.le_trans HB0.out.size HB1.out.size) h2
      have HBW5 : Hid (Below w.heap.size w w5) := Below.on HB0.out HB05.out
      have HNS : Hid (¬ w.heap.size = x) := Nat.ne_of_gt HXL.out
      have HXB : Hid (Boxed w5 w.heap.size 23 (pt x)) := (HB05.out.block _ HBX.out.lt).trans HBX.out
      have HW1 : Hid (w.heap.size ≤ w1.heap.size) := Nat.le_trans HB0.out.size HB1.out.size
      have HC0 : Hid (∃ cur, Hid (Xi w5 x cur ∧ InU U cur)) := ⟨l, HX5.out, HUS.out⟩
      clear xr s0r s1r x4 s04 s14 RGE BKE HI1 HB4 HB5 HBr5 HRT HB7 H8 HO8 HBr HBX HBR HSP HX0 HB1 HB0 HB05 cX cS0 cS1
      go_loopg [53] ops.length (fun g s53 wr => ∃ j : Nat, j ≤ ops.length ∧ g = ops.length - j ∧ s53 = .int .i64 j ∧ (∃ cur, Hid (Xi wr x cur ∧ InU U cur)) ∧ Hid (Onl (fun b => b = x) w5 wr))
      case atStart => exact ⟨0, by omega, by omega, rfl, HC0.out, Onl.refl _ _⟩
      case round =>
        clear HC0
        obtain ⟨j, hjle, rfl, rfl, ⟨cur, HC⟩, HOn⟩ := hrel
        by_cases hjl : j < ops.length
        · obtain ⟨ob, ooff, rfl, -, -, d2, d3, -, -⟩ := HRO.out j hjl
          have HBo : Hid (Below W0.heap.size W0 w5) := HBW.out.trans (HBW5.out.mono HBW.out.size)
          have HNo : Hid (¬ ob = x) := Nat.ne_of_lt (Nat.lt_of_lt_of_le (World.block_lt_of_cell? _ _ d2) HXW.out)
          have HKU := hid (HUO.out j hjl)
          have o2 := cell_later HBo.out d2
          have o3 := cell_later HBo.out d3
          obtain ⟨op, hop⟩ : ∃ op, op = nthO ops j := ⟨_, rfl⟩
          rw [← hop] at o2 o3 HKU
          clear hop d2 d3 HBo
          have HLn : Hid (cur.length + 1 ≤ 1152921504606846976) := by show _ ≤ _; have h1 := HC.out.2.len HC.out.1.rising; have h2 := HUL.out; omega
          have SE : Hid (∀ W', Below wr.heap.size wr W' → Calls Try.prog 10 #[pt x, .string op.key, .int .i64 (j : Int)] W' fun e w' => ∃ u : Bool, e = .returned (.bool u) ∧ Hid (Xi w' x (setX cur op.key j) ∧ InU U (setX cur op.key j)) ∧ Onl (fun b => b = x) w5 w') := fun W' hb =>
            (set_is (HC.out.1.later hb) op.key j HLn.out).mono fun e w' ⟨he, hx, ho⟩ => ⟨_, he, ⟨hx, HC.out.2.set HC.out.1.rising HKU.out _⟩, (HOn.out.on hb).trans ho⟩
          have DE : Hid (∀ W1 W', Hid (Xi W1 x (setX cur op.key j) ∧ InU U (setX cur op.key j)) → Onl (fun b => b = x) w5 W1 → Below W1.heap.size W1 W' → Calls Try.prog 11 #[pt x, .string op.hi] W' fun e w' => ∃ u : Bool, e = .returned (.bool u) ∧ Hid (Xi w' x (delX (setX cur op.key j) op.hi) ∧ InU U (delX (setX cur op.key j) op.hi)) ∧ Onl (fun b => b = x) w5 w') := fun W1 W' hc ho hb => by
            have hl1 : (setX cur op.key j).length + 1 ≤ 1152921504606846976 := by have h1 := hc.out.2.len hc.out.1.rising; have h2 := HUL.out; omega
            exact (del_is (hc.out.1.later hb) op.hi hl1).mono fun e w' ⟨he, hx, ho'⟩ => ⟨_, he, ⟨hx, hc.out.2.del _⟩, (ho.on hb).trans ho'⟩
          have ho0 := HOn.out
          go_wp2_with fail
          go_region_held3 (fun w' => w'.cell? ⟨w.heap.size, 0, none⟩ = some (pt x) ∧ w'.cell? ⟨ob, ooff + j * 6 + 2, none⟩ = some (.string op.key) ∧ Onl (fun b => b = x) w5 w')
            ((refine (fun (hO : Onl (fun b => b = x) w5 _) => ⟨hO.cell HNS.out x5, hO.cell HNo.out o2, hO⟩) ?_; (repeat (first | assumption | exact Onl.refl _ _ | refine Onl.drew ?_))))
            (first
              | (go_at_call 10; refine (SE.out _ ?_).mono ?_; ((repeat (first | exact Below.refl _ _ | assumption | refine Below.drew ?_ | refine Below.al ?_ _ | refine Below.setCell ?_ (by first | exact Nat.le_refl _ | (simp; omega) | (simp; done)) _ | refine Below.on ?_ (by assumption)))); rintro e w6 ⟨u6, rfl, hc6, ho6⟩))
          go_wp2_with fail
          go_region_held3 (fun w' => w'.cell? ⟨w.heap.size, 0, none⟩ = some (pt x) ∧ w'.cell? ⟨ob, ooff + j * 6 + 3, none⟩ = some (.string op.hi) ∧ Onl (fun b => b = x) w5 w')
            ((refine (fun (hO : Onl (fun b => b = x) w5 _) => ⟨hO.cell HNS.out x5, hO.cell HNo.out o3, hO⟩) ?_; (repeat (first | assumption | exact Onl.refl _ _ | refine Onl.drew ?_))))
            (first
              | (go_at_call 11; refine (DE.out _ _ hc6 ho6 ?_).mono ?_; ((repeat (first | exact Below.refl _ _ | assumption | refine Below.drew ?_ | refine Below.al ?_ _ | refine Below.setCell ?_ (by first | exact Nat.le_refl _ | (simp; omega) | (simp; done)) _ | refine Below.on ?_ (by assumption)))); rintro e w7 ⟨u7, rfl, hc7, ho7⟩))
          go_wp2_with fail
          go_roundg (ops.length - (j + 1))
          case measure => omega
          case rel => exact ⟨j + 1, by omega, rfl, by go_num, ⟨_, hc7⟩, ho7⟩
        · obtain rfl : j = ops.length := by omega
          clear hjl hjle
          obtain ⟨wF, rfl⟩ : ∃ wF, wF = wr := ⟨_, rfl⟩
          have HCF : Hid (Cst w wF x w1.heap.size T kc vc ka va E) := Cst.on ⟨HXB.out, HR6.out, H75.out, H85.out, HR5.out, HV5.out.1, HW1.out, HKB.out, HV5.out.2⟩ HXL.out HOn.out
          have HKF : Hid (Kp w5 wF) := HX5.out.kp HOn.out
          have HJ1 : Hid (It wF R1 B1 l lo hi) := HI15.out.kp HKF.out
          have HJ2 : Hid (It wF R2 B2 l lo hi) := HI2.out.kp HKF.out
          have HOw : Hid (Onl (fun b => b = x) w wF) := (Onl.of_below HBW5.out).trans HOn.out
          have HXF : Hid (x < wF.heap.size) := HC.out.1.lt
          have HwF : Hid (w.heap.size + 1 + 1 < wF.heap.size) := HCF.out.rb.lt
          clear HX5 HKF HI15 HI2 HOn HBW5 HV5 HR6 H85 H75 HR5 HNS HXB HRO HBW HXW x5 HUO HUS hc hnT HW1 HKB HT8
          go_wp2_with fail
          have hsA := range_stops (5 - 1) HJ1.out
          rw [HE.out] at hsA
          refine (wpIn_wide (n := 5)).1 ?_
          apply once_loop hsA (Below.refl _ _) (enters_of Try.func57 (by kernel_rfl) rfl)
          case hg => rfl
          case hps => exact fun _ => rfl
          case hassign =>
            intro y z W K hK
            gi_wp2
            exact hK
          case hbody =>
            intro y z W hB
            have hCW := HCF.out.on HXL.out (Onl.of_below hB)
            have hpos : 0 < E.length := List.length_pos_of_mem z.2
            obtain ⟨kb, koff, hka, k0⟩ := hCW.key hpos
            subst hka
            simp only [Nat.add_zero] at k0
            have c7 := hCW.kb.cell
            have cr := hCW.rb.cell
            have fr := hCW.rb.frozen
            have hT0 : ((T : Int) == 0) = false := by have := HT.out; simp; omega
            have hTp : 0 < T := by have := HT.out; omega
            by_cases hk : z.1.1 = (nthE E 0).1
            · have q1 := toList_beq' (decide_eq_true hk)
              clear hk
              gi_wp2
              exact ⟨(KeepsOthers.refl _).from _, .inl rfl, rfl, fun _ => hB⟩
            · have q1 := toList_beq' (decide_eq_false hk)
              have HN : Hid (¬ [z.1] <+: E) := fun hp => hk (congrArg Prod.fst (prefix_nth (pre := []) (by simpa using hp)))
              clear hk
              gi_wp2
              exact ⟨(KeepsOthers.setCell _ _ _).from _, .inr ⟨rfl, HN.out⟩, rfl, fun e => (by cases e)⟩
          case rest =>
            intro D1 W1 hD1 hB1 hK1
            have HD1 := hid hD1
            have HB1' := hid hB1
            have HK1 := hid hK1
            have hJ := HJ2.out.later hB1
            clear hD1 hB1 hK1 hsA
            gi_wp2
            go_wp2_with fail
            refine (wpIn_wide (n := 5)).1 ?_
            have hsB := back_stops (5 - 1) hJ
            rw [HE.out] at hsB
            apply once_loop hsB (Below.refl _ _) (enters_of Try.func59 (by kernel_rfl) rfl)
            case hg => rfl
            case hps => exact fun _ => rfl
            case hassign =>
              intro y z W K hK
              gi_wp2
              exact hK
            case hbody =>
              intro y z W hB
              have hCW := HCF.out.on HXL.out ((Onl.of_below HB1'.out).trans (Onl.of_below hB))
              have hpos : 0 < E.length := by have := List.length_pos_of_mem z.2; simpa using this
              obtain ⟨M, rfl⟩ : ∃ M, T = M + 1 := ⟨T - 1, by have := HT.out; omega⟩
              have hML : M < E.length := by have := HT.out; omega
              obtain ⟨kb, koff, hka, k0⟩ := hCW.key hML
              subst hka
              have c7 := hCW.kb.cell
              have cr := hCW.rb.cell
              have fr := hCW.rb.frozen
              have hw : IntKind.i64.wrap ((M : Int) + 1 - 1) = (M : Int) := by rw [IntKind.wrap_i64]; omega
              have hw2 : IntKind.i64.wrap (M : Int) = (M : Int) := by rw [IntKind.wrap_i64]; omega
              have hrev : Hid (nthE E.reverse 0 = nthE E M) := by show _ = _; rw [rev_nth hpos, HT.out]; rfl
              by_cases hk : z.1.1 = (nthE E M).1
              · have q1 := toList_beq' (decide_eq_true hk)
                clear hk
                gi_wp2
                exact ⟨(KeepsOthers.refl _).from _, .inl rfl, rfl, fun _ => hB⟩
              · have q1 := toList_beq' (decide_eq_false hk)
                have HN : Hid (¬ [z.1] <+: E.reverse) := fun hp => hk (by have := prefix_nth (pre := []) (x := z) (by simpa using hp); rw [List.length_nil, hrev.out] at this; exact congrArg Prod.fst this)
                clear hk
                gi_wp2
                exact ⟨(KeepsOthers.setCell _ _ _).from _, .inr ⟨rfl, HN.out⟩, rfl, fun e => (by cases e)⟩
            case rest =>
              intro D2 W2 hD2 hB2 hK2
              gi_wp2
              have HY0 : Hid (Onl (fun b => b = x) wF W2 ∧ (∃ cur, Xi W2 x cur ∧ InU U cur) ∧ (∀ D ∈ [D2, D1], W2.heap[D]? = some (.deferred (some []))) ∧ [D2, D1].Nodup ∧ ∀ D ∈ [D2, D1], wF.heap.size ≤ D) := by
                have hb12 := Below.on HB1'.out hB2
                have hl1 := (Array.getElem?_eq_some_iff.1 HK1.out).1
                have h0 := HB1'.out.size
                refine ⟨Onl.of_below hb12, ⟨cur, HC.out.1.later hb12, HC.out.2⟩, fun D hD => ?_, List.nodup_cons.2 ⟨fun hm => ?_, List.nodup_cons.2 ⟨fun hm => (by cases hm), List.nodup_nil⟩⟩, fun D hD => ?_⟩
                · rcases List.mem_cons.1 hD with rfl | hD
                  · exact hK2
                  · obtain rfl := List.mem_singleton.1 hD
                    exact (hB2.block _ hl1).trans HK1.out
                · obtain rfl := List.mem_singleton.1 hm
                  omega
                · rcases List.mem_cons.1 hD with rfl | hD
                  · omega
                  · obtain rfl := List.mem_singleton.1 hD
                    exact HD1.out
              clear hD2 hB2 hK2 hsB hJ HK1 HB1' HD1
              go_wp2_with fail
              refine wp_loop_rounds 3 ?_
              rw [rounds_succ]
              go_wp2_with fail
              obtain ⟨V0, hV0⟩ : ∃ V0, V0 = (W2.alloc (.cells #[.int .i64 0] 3)).alloc (.cells #[.int .i64 0] 3) := ⟨_, rfl⟩
              obtain ⟨rB0, hrB0⟩ : ∃ rB0, rB0 = W2.heap.size := ⟨_, rfl⟩
              have HBV0 : Hid (Below W2.heap.size W2 V0) := by rw [hV0]; exact Below.al (Below.al (Below.refl _ _) _) _
              have HS0 : Hid (V0.heap.size = rB0 + 1 + 1) := by show _ = _; rw [hV0, hrB0]; simp
              have HR0 : Hid (wF.heap.size ≤ rB0) := by show _ ≤ _; rw [hrB0]; exact HY0.out.1.size
              have HN0 : Hid (wF.heap.size ≤ rB0 + 1) := Nat.le_succ_of_le HR0.out
              have HZ0 : Hid (Zst wF V0 x (rB0 + 1) rB0 0 0 U [D2, D1]) := by
                have b1 := Boxed.new W2 3 (.int .i64 0)
                have b2 := Boxed.new (W2.alloc (.cells #[.int .i64 0] 3)) 3 (.int .i64 0)
                rw [World.size_alloc] at b2
                obtain ⟨c0, h1, h2⟩ := HY0.out.2.1
                exact ⟨HY0.out.1.on HBV0.out, by rw [hV0, hrB0]; exact b2, by rw [hV0, hrB0]; exact b1.alloc _, ⟨c0, h1.later HBV0.out, h2⟩, fun D hD => (HBV0.out.block D (Array.getElem?_eq_some_iff.1 (HY0.out.2.2.1 D hD)).1).trans (HY0.out.2.2.1 D hD)⟩
              have HBD0 : Hid (∀ D ∈ [D2, D1], D < rB0) := by show ∀ D ∈ [D2, D1], D < rB0; rw [hrB0]; exact fun D hD => (Array.getElem?_eq_some_iff.1 (HY0.out.2.2.1 D hD)).1
              rw [← hV0, ← hrB0]
              clear hV0 hrB0
              refine (wpIn_wide (n := 5)).1 ?_
              have hsC0 := range_stops (5 - 1) (HJ1.out.kp (HC.out.1.kp HZ0.out.on))
              rw [HE.out] at hsC0
              apply count_loop (f := fun k => (k : Int)) hsC0 (Below.refl _ _) (enters_of Try.func57 (by kernel_rfl) rfl) (Nat.le_trans HR0.out (by have := HS0.out; omega)) (fun D hD => Nat.lt_of_lt_of_le (HBD0.out D hD) (by have := HS0.out; omega)) HZ0.out
              case hg => rfl
              case hps => exact fun _ => rfl
              case hassign =>
                intro y z W K hK
                gi_wp2
                exact hK
              case hbody =>
                intro y k z W hZ hlt
                have hZ : Zst wF W x (rB0 + 1) rB0 (k : Int) 0 U [D2, D1] := hZ
                have hCW := HCF.out.on HXL.out hZ.on
                obtain ⟨kb, koff, hka, k0⟩ := hCW.key hlt
                obtain ⟨vb, voff, hva, v0⟩ := hCW.val hlt
                subst hka hva
                have c7 := hCW.kb.cell
                have c8 := hCW.vb.cell
                have cr := hCW.rb.cell
                have fr := hCW.rb.frozen
                have cx := hCW.xb.cell
                have cn := hZ.nb.cell
                have fn := hZ.nb.frozen
                have hkT : k < T := by have := HT.out; omega
                have hge : decide ((T : Int) ≤ (k : Int)) = false := decide_eq_false (by omega)
                have hwk : IntKind.i64.wrap ((k : Int) + 1) = (k : Int) + 1 := by rw [IntKind.wrap_i64]; omega
                have HKZ := hid (HKS.out z.1 z.2)
                have hlen : (9223372036854775807 < z.1.1.size + 1) = False := by have := HKZ.out; simp; omega
                have ne0 : ¬ (w.heap.size = rB0 + 1) := by have h1 := HwF.out; have h2 := HR0.out; omega
                have ne0' : ¬ (rB0 + 1 = w.heap.size) := by omega
                obtain ⟨y0, hy0⟩ : ∃ y0, y0 = nthE E k := ⟨_, rfl⟩
                rw [← hy0] at k0 v0
                by_cases hk : y0.1 = z.1.1
                · by_cases hv : y0.2 = z.1.2
                  · have q1 := toList_beq' (decide_eq_true hk)
                    have q2 : (y0.2 != z.1.2) = false := by simpa using hv
                    obtain ⟨hZ1, hk1⟩ := hZ.put HXF.out HN0.out (Nat.ne_of_lt (Nat.lt_succ_self _)) ((k : Int) + 1)
                    have ko1 := KeepsOthers.setCell W ⟨rB0 + 1, 0, none⟩ (.int .i64 ((k : Int) + 1))
                    obtain ⟨cur, hX1, hU1⟩ := hZ1.cur
                    have hC1 := HCF.out.on HXL.out hZ1.on
                    have cx1 := hC1.xb.cell
                    have HLn : Hid (∀ l', Rising l' → InU U l' → l'.length + 1 ≤ 1152921504606846976) := fun l' h1 h2 => by have := h2.len h1; have := HUL.out; omega
                    have DE : Hid (Calls Try.prog 11 #[pt x, .string z.1.1] (W.setCell ⟨rB0 + 1, 0, none⟩ (.int .i64 ((k : Int) + 1))) fun e w' => ∃ u : Bool, e = .returned (.bool u) ∧ w'.cell? ⟨w.heap.size, 0, none⟩ = some (pt x) ∧ w'.cell? ⟨rB0, 0, none⟩ = some (.int .i64 0) ∧ Hid (Zst wF w' x (rB0 + 1) (rB0) ((k : Int) + 1) 0 U [D2, D1] ∧ Kp W w' ∧ KeepsOthers W w' ∧ Xi w' x (delX cur z.1.1) ∧ InU U (delX cur z.1.1))) :=
                      (del_is hX1 z.1.1 (HLn.out _ hX1.rising hU1)).mono fun e w' ⟨he, hx, ho⟩ => by
                        obtain ⟨m1, m2, m3⟩ := hZ1.moved HXF.out HN0.out HR0.out hx (hU1.del _) ho
                        exact ⟨_, he, (HCF.out.on HXL.out m1.on).xb.cell, m1.rb.cell, m1, hk1.trans m2, ko1.trans m3, hx, hU1.del _⟩
                    have SE : Hid (∀ w', (Zst wF w' x (rB0 + 1) (rB0) ((k : Int) + 1) 0 U [D2, D1] ∧ Kp W w' ∧ KeepsOthers W w' ∧ Xi w' x (delX cur z.1.1) ∧ InU U (delX cur z.1.1)) → Calls Try.prog 10 #[pt x, .string (z.1.1 ++ ⟨#[0]⟩), .int .i64 0] w' fun e w2 => ∃ u : Bool, e = .returned (.bool u) ∧ Hid (Zst wF w2 x (rB0 + 1) (rB0) ((k : Int) + 1) 0 U [D2, D1] ∧ Kp W w2 ∧ KeepsOthers W w2)) := fun w' hs =>
                      (set_is hs.2.2.2.1 (zb z.1.1) 0 (HLn.out _ hs.2.2.2.1.rising hs.2.2.2.2)).mono fun e w2 ⟨he, hx, ho⟩ => by
                        obtain ⟨m1, m2, m3⟩ := hs.1.moved HXF.out HN0.out HR0.out hx (hs.2.2.2.2.set hs.2.2.2.1.rising (HUZ.out _ z.2) _) ho
                        exact ⟨_, he, m1, hs.2.1.trans m2, hs.2.2.1.trans m3⟩
                    clear hk hv hZ hZ1 hk1 ko1 hX1 hU1 hC1 hCW hy0
                    gi_wp2_with (first
                      | ((try refine ⟨trivial, ?_⟩); gi_at_call 11; refine (CallsIn.inRound y (callsIn_wide.2 DE.out)).mono ?_; rintro e w6 ⟨u6, rfl, cx6, cr6, hs6⟩)
                      | ((try refine ⟨trivial, ?_⟩); gi_at_call 10; refine (CallsIn.inRound y (callsIn_wide.2 (SE.out _ hs6.out))).mono ?_; rintro e w7 ⟨u7, rfl, hs7⟩))
                    exact ⟨hs7.out.2.2.from _, hs7.out.2.1, by show Zst wF w7 x (rB0 + 1) rB0 (((k + 1 : Nat)) : Int) 0 U [D2, D1]; rw [show (((k + 1 : Nat)) : Int) = (k : Int) + 1 from by omega]; exact hs7.out.1⟩
                  · have q1 := toList_beq' (decide_eq_true hk)
                    have q2 : (y0.2 != z.1.2) = true := by simpa using hv
                    have HN : Hid (z.1 ≠ nthE E k) := fun e => hv (by rw [hy0, ← e])
                    clear hk hv hy0 hZ
                    gi_wp2
                    exact ⟨(KeepsOthers.setCell _ _ _).from _, rfl, HN.out⟩
                · have q1 := toList_beq' (decide_eq_false hk)
                  have HN : Hid (z.1 ≠ nthE E k) := fun e => hk (by rw [hy0, ← e])
                  clear hk hy0 hZ
                  gi_wp2
                  exact ⟨(KeepsOthers.setCell _ _ _).from _, rfl, HN.out⟩
              case rest =>
                intro D3 W3 hD3 hZD3 hD3K
                have hZD3 : Zst wF W3 x (rB0 + 1) rB0 (T : Int) 0 U [D2, D1] := by have := hZD3; rw [HT.out] at this; exact this
                have HQ0 : Hid (Zst wF W3 x (rB0 + 1) rB0 (T : Int) 0 U [D3, D2, D1]) := ⟨hZD3.on, hZD3.nb, hZD3.rb, hZD3.cur, fun D hD => by
                  rcases List.mem_cons.1 hD with rfl | hD
                  · exact hD3K
                  · exact hZD3.mks D hD⟩
                have HE0 : Hid (rB0 + 1 + 1 ≤ D3 ∧ D3 < W3.heap.size) := ⟨by have := HS0.out; omega, (Array.getElem?_eq_some_iff.1 hD3K).1⟩
                have cn0 := hZD3.nb.cell
                have c70 := (HCF.out.on HXL.out hZD3.on).kb.cell
                clear hD3 hZD3 hD3K hsC0
                gi_wp2
                go_wp2_with fail
                refine (wpIn_wide (n := 5)).1 ?_
                have hsD0 := back_stops (5 - 1) (HJ2.out.kp (HC.out.1.kp HQ0.out.on))
                rw [HE.out] at hsD0
                have HQ00 : Zst wF W3 x (rB0 + 1) rB0 (((T - 0 : Nat)) : Int) 0 U [D3, D2, D1] := HQ0.out
                apply count_loop (f := fun k => (((T - k : Nat)) : Int)) hsD0 (Below.refl _ _) (enters_of Try.func59 (by kernel_rfl) rfl) (Nat.le_trans HR0.out (by have := HE0.out; omega)) (fun D hD => (Array.getElem?_eq_some_iff.1 (HQ0.out.mks D hD)).1) HQ00
                case hg => rfl
                case hps => exact fun _ => rfl
                case hassign =>
                  intro y z W K hK
                  gi_wp2
                  exact hK
                case hbody =>
                  intro y k z W hZ hlt
                  have hlt' : k < E.length := by simpa using hlt
                  obtain ⟨m, hm⟩ : ∃ m, T - k = m + 1 := ⟨T - k - 1, by have := HT.out; omega⟩
                  have hZ : Zst wF W x (rB0 + 1) (rB0) ((m + 1 : Nat) : Int) 0 U [D3, D2, D1] := by have := hZ; rw [hm] at this; exact this
                  have hmE : m < E.length := by have := HT.out; omega
                  have HRV : Hid (nthE E.reverse k = nthE E m) := by show _ = _; rw [rev_nth hlt', HT.out]; congr 1; omega
                  have hCW := HCF.out.on HXL.out hZ.on
                  obtain ⟨kb, koff, hka, kF⟩ := HCF.out.key hmE
                  obtain ⟨vb, voff, hva, vF⟩ := HCF.out.val hmE
                  have kl : kb < wF.heap.size := World.block_lt_of_cell? _ _ kF
                  have vl : vb < wF.heap.size := World.block_lt_of_cell? _ _ vF
                  clear kF vF
                  subst hka hva
                  obtain ⟨hZ1, hk1⟩ := hZ.put HXF.out HN0.out (Nat.ne_of_lt (Nat.lt_succ_self _)) (m : Int)
                  have ko1 := KeepsOthers.setCell W ⟨rB0 + 1, 0, none⟩ (.int .i64 (m : Int))
                  obtain ⟨kb', koff', hka', k0⟩ := hCW.key hmE
                  cases hka'
                  obtain ⟨vb', voff', hva', v0⟩ := hCW.val hmE
                  cases hva'
                  have c7 := hCW.kb.cell
                  have c8 := hCW.vb.cell
                  have cr := hCW.rb.cell
                  have fr := hCW.rb.frozen
                  have cx := hCW.xb.cell
                  have l8 := HCF.out.vb.lt
                  have lw := HwF.out
                  have lr := HR0.out
                  have ne0 : ¬ (w.heap.size = rB0 + 1) := by omega
                  have ne0' : ¬ (rB0 + 1 = w.heap.size) := by omega
                  have ne1 : ¬ (w.heap.size + 1 + 1 = rB0 + 1) := by omega
                  have ne1' : ¬ (rB0 + 1 = w.heap.size + 1 + 1) := by omega
                  have ne2 : ¬ (w1.heap.size = rB0 + 1) := by omega
                  have ne2' : ¬ (rB0 + 1 = w1.heap.size) := by omega
                  have ne3 : ¬ (w1.heap.size + 1 = rB0 + 1) := by omega
                  have ne3' : ¬ (rB0 + 1 = w1.heap.size + 1) := by omega
                  have ne4 : ¬ (kb = rB0 + 1) := by omega
                  have ne4' : ¬ (rB0 + 1 = kb) := by omega
                  have ne5 : ¬ (vb = rB0 + 1) := by omega
                  have ne5' : ¬ (rB0 + 1 = vb) := by omega
                  clear kl vl l8 lw lr
                  have cn := hZ.nb.cell
                  have fn := hZ.nb.frozen
                  have hmT : m < T := by have := HT.out; omega
                  have hge : decide ((m : Int) < 0) = false := decide_eq_false (by omega)
                  have hwk : IntKind.i64.wrap ((m : Int) + 1 - 1) = (m : Int) := by rw [IntKind.wrap_i64]; omega
                  have hwk2 : IntKind.i64.wrap (m : Int) = (m : Int) := by rw [IntKind.wrap_i64]; omega
                  have hzE : z.1 ∈ E := List.mem_reverse.1 z.2
                  have HKZ := hid (HKS.out z.1 hzE)
                  have hlen : (9223372036854775807 < z.1.1.size + 1) = False := by have := HKZ.out; simp; omega
                  have HFE : Hid (T - (k + 1) = m) := by show _ = _; omega
                  obtain ⟨y0, hy0⟩ : ∃ y0, y0 = nthE E m := ⟨_, rfl⟩
                  rw [← hy0] at k0 v0
                  by_cases hk : y0.1 = z.1.1
                  · by_cases hv : y0.2 = z.1.2
                    · have q1 := toList_beq' (decide_eq_true hk)
                      have q2 : (y0.2 != z.1.2) = false := by simpa using hv
                      obtain ⟨cur, hX1, hU1⟩ := hZ1.cur
                      have HLn : Hid (∀ l', Rising l' → InU U l' → l'.length + 1 ≤ 1152921504606846976) := fun l' h1 h2 => by have := h2.len h1; have := HUL.out; omega
                      have SE : Hid (Calls Try.prog 10 #[pt x, .string z.1.1, .int .i64 (-1)] (W.setCell ⟨rB0 + 1, 0, none⟩ (.int .i64 (m : Int))) fun e w' => ∃ u : Bool, e = .returned (.bool u) ∧ w'.cell? ⟨w.heap.size, 0, none⟩ = some (pt x) ∧ Hid (Zst wF w' x (rB0 + 1) (rB0) (m : Int) 0 U [D3, D2, D1] ∧ Kp W w' ∧ KeepsOthers W w' ∧ Xi w' x (setX cur z.1.1 (-1)) ∧ InU U (setX cur z.1.1 (-1)))) :=
                        (set_is hX1 z.1.1 (-1) (HLn.out _ hX1.rising hU1)).mono fun e w' ⟨he, hx, ho⟩ => by
                          have hU2 := hU1.set hX1.rising (HUE.out _ hzE) (-1)
                          obtain ⟨m1, m2, m3⟩ := hZ1.moved HXF.out HN0.out HR0.out hx hU2 ho
                          exact ⟨_, he, (HCF.out.on HXL.out m1.on).xb.cell, m1, hk1.trans m2, ko1.trans m3, hx, hU2⟩
                      have DE : Hid (∀ w', (Zst wF w' x (rB0 + 1) (rB0) (m : Int) 0 U [D3, D2, D1] ∧ Kp W w' ∧ KeepsOthers W w' ∧ Xi w' x (setX cur z.1.1 (-1)) ∧ InU U (setX cur z.1.1 (-1))) → Calls Try.prog 11 #[pt x, .string (z.1.1 ++ ⟨#[0]⟩)] w' fun e w2 => ∃ u : Bool, e = .returned (.bool u) ∧ Hid (Zst wF w2 x (rB0 + 1) (rB0) (m : Int) 0 U [D3, D2, D1] ∧ Kp W w2 ∧ KeepsOthers W w2)) := fun w' hs =>
                        (del_is hs.2.2.2.1 (zb z.1.1) (HLn.out _ hs.2.2.2.1.rising hs.2.2.2.2)).mono fun e w2 ⟨he, hx, ho⟩ => by
                          obtain ⟨m1, m2, m3⟩ := hs.1.moved HXF.out HN0.out HR0.out hx (hs.2.2.2.2.del _) ho
                          exact ⟨_, he, m1, hs.2.1.trans m2, hs.2.2.1.trans m3⟩
                      clear hk hv hZ hZ1 hk1 ko1 hX1 hU1 hCW hy0
                      gi_wp2_with (first
                        | ((try refine ⟨trivial, ?_⟩); gi_at_call 10; refine (CallsIn.inRound y (callsIn_wide.2 SE.out)).mono ?_; rintro e w6 ⟨u6, rfl, cx6, hs6⟩)
                        | ((try refine ⟨trivial, ?_⟩); gi_at_call 11; refine (CallsIn.inRound y (callsIn_wide.2 (DE.out _ hs6.out))).mono ?_; rintro e w7 ⟨u7, rfl, hs7⟩))
                      exact ⟨hs7.out.2.2.from _, hs7.out.2.1, by show Zst wF w7 x (rB0 + 1) (rB0) (((T - (k + 1) : Nat)) : Int) 0 U [D3, D2, D1]; rw [HFE.out]; exact hs7.out.1⟩
                    · have q1 := toList_beq' (decide_eq_true hk)
                      have q2 : (y0.2 != z.1.2) = true := by simpa using hv
                      have HN : Hid (z.1 ≠ nthE E.reverse k) := fun e => hv (by rw [hy0, ← HRV.out, ← e])
                      clear hk hv hy0 hZ hZ1
                      gi_wp2
                      exact ⟨((KeepsOthers.setCell _ _ _).trans (KeepsOthers.setCell _ _ _)).from _, rfl, HN.out⟩
                  · have q1 := toList_beq' (decide_eq_false hk)
                    have HN : Hid (z.1 ≠ nthE E.reverse k) := fun e => hk (by rw [hy0, ← HRV.out, ← e])
                    clear hk hy0 hZ hZ1
                    gi_wp2
                    exact ⟨((KeepsOthers.setCell _ _ _).trans (KeepsOthers.setCell _ _ _)).from _, rfl, HN.out⟩
                case rest =>
                  intro D4 W4 hD4 hZD4 hD4K
                  have hZD4 : Zst wF W4 x (rB0 + 1) rB0 0 0 U [D3, D2, D1] := by have := hZD4; rw [List.length_reverse, HT.out, Nat.sub_self] at this; exact this
                  have HY1 : Hid (Onl (fun b => b = x) wF W4 ∧ (∃ cur, Xi W4 x cur ∧ InU U cur) ∧ (∀ D ∈ [D4, D3, D2, D1], W4.heap[D]? = some (.deferred (some []))) ∧ [D4, D3, D2, D1].Nodup ∧ ∀ D ∈ [D4, D3, D2, D1], wF.heap.size ≤ D) := by
                    refine ⟨hZD4.on, hZD4.cur, fun D hD => ?_, List.nodup_cons.2 ⟨fun hm => ?_, List.nodup_cons.2 ⟨fun hm => ?_, HY0.out.2.2.2.1⟩⟩, fun D hD => ?_⟩
                    · rcases List.mem_cons.1 hD with rfl | hD
                      · exact hD4K
                      · exact hZD4.mks D hD
                    · have h1 := (Array.getElem?_eq_some_iff.1 (HQ0.out.mks _ hm)).1
                      omega
                    · have h1 := HBD0.out _ hm
                      have h2 := HE0.out
                      omega
                    · rcases List.mem_cons.1 hD with rfl | hD
                      · have h1 := HE0.out; have h2 := HR0.out; omega
                      · rcases List.mem_cons.1 hD with rfl | hD
                        · have h1 := HE0.out; have h2 := HR0.out; omega
                        · exact HY0.out.2.2.2.2 D hD
                  have cn0' := hZD4.nb.cell
                  clear hD4 hZD4 hD4K hsD0 HQ00 cn0 c70
                  gi_wp2
                  go_wp2_with fail
                  clear cn0'
                  rw [rounds_succ]
                  go_wp2_with fail
                  obtain ⟨V1, hV1⟩ : ∃ V1, V1 = (W4.alloc (.cells #[.int .i64 1] 3)).alloc (.cells #[.int .i64 0] 3) := ⟨_, rfl⟩
                  obtain ⟨rB1, hrB1⟩ : ∃ rB1, rB1 = W4.heap.size := ⟨_, rfl⟩
                  have HBV1 : Hid (Below W4.heap.size W4 V1) := by rw [hV1]; exact Below.al (Below.al (Below.refl _ _) _) _
                  have HS1 : Hid (V1.heap.size = rB1 + 1 + 1) := by show _ = _; rw [hV1, hrB1]; simp
                  have HR1 : Hid (wF.heap.size ≤ rB1) := by show _ ≤ _; rw [hrB1]; exact HY1.out.1.size
                  have HN1 : Hid (wF.heap.size ≤ rB1 + 1) := Nat.le_succ_of_le HR1.out
                  have HZ1 : Hid (Zst wF V1 x (rB1 + 1) rB1 0 1 U [D4, D3, D2, D1]) := by
                    have b1 := Boxed.new W4 3 (.int .i64 1)
                    have b2 := Boxed.new (W4.alloc (.cells #[.int .i64 1] 3)) 3 (.int .i64 0)
                    rw [World.size_alloc] at b2
                    obtain ⟨c0, h1, h2⟩ := HY1.out.2.1
                    exact ⟨HY1.out.1.on HBV1.out, by rw [hV1, hrB1]; exact b2, by rw [hV1, hrB1]; exact b1.alloc _, ⟨c0, h1.later HBV1.out, h2⟩, fun D hD => (HBV1.out.block D (Array.getElem?_eq_some_iff.1 (HY1.out.2.2.1 D hD)).1).trans (HY1.out.2.2.1 D hD)⟩
                  have HBD1 : Hid (∀ D ∈ [D4, D3, D2, D1], D < rB1) := by show ∀ D ∈ [D4, D3, D2, D1], D < rB1; rw [hrB1]; exact fun D hD => (Array.getElem?_eq_some_iff.1 (HY1.out.2.2.1 D hD)).1
                  rw [← hV1, ← hrB1]
                  clear hV1 hrB1
                  refine (wpIn_wide (n := 5)).1 ?_
                  have hsC1 := range_stops (5 - 1) (HJ1.out.kp (HC.out.1.kp HZ1.out.on))
                  rw [HE.out] at hsC1
                  apply count_loop (f := fun k => (k : Int)) hsC1 (Below.refl _ _) (enters_of Try.func57 (by kernel_rfl) rfl) (Nat.le_trans HR1.out (by have := HS1.out; omega)) (fun D hD => Nat.lt_of_lt_of_le (HBD1.out D hD) (by have := HS1.out; omega)) HZ1.out
                  case hg => rfl
                  case hps => exact fun _ => rfl
                  case hassign =>
                    intro y z W K hK
                    gi_wp2
                    exact hK
                  case hbody =>
                    intro y k z W hZ hlt
                    have hZ : Zst wF W x (rB1 + 1) rB1 (k : Int) 1 U [D4, D3, D2, D1] := hZ
                    have hCW := HCF.out.on HXL.out hZ.on
                    obtain ⟨kb, koff, hka, k0⟩ := hCW.key hlt
                    obtain ⟨vb, voff, hva, v0⟩ := hCW.val hlt
                    subst hka hva
                    have c7 := hCW.kb.cell
                    have c8 := hCW.vb.cell
                    have cr := hCW.rb.cell
                    have fr := hCW.rb.frozen
                    have cx := hCW.xb.cell
                    have cn := hZ.nb.cell
                    have fn := hZ.nb.frozen
                    have hkT : k < T := by have := HT.out; omega
                    have hge : decide ((T : Int) ≤ (k : Int)) = false := decide_eq_false (by omega)
                    have hwk : IntKind.i64.wrap ((k : Int) + 1) = (k : Int) + 1 := by rw [IntKind.wrap_i64]; omega
                    have HKZ := hid (HKS.out z.1 z.2)
                    have hlen : (9223372036854775807 < z.1.1.size + 1) = False := by have := HKZ.out; simp; omega
                    have ne0 : ¬ (w.heap.size = rB1 + 1) := by have h1 := HwF.out; have h2 := HR1.out; omega
                    have ne0' : ¬ (rB1 + 1 = w.heap.size) := by omega
                    obtain ⟨y0, hy0⟩ : ∃ y0, y0 = nthE E k := ⟨_, rfl⟩
                    rw [← hy0] at k0 v0
                    by_cases hk : y0.1 = z.1.1
                    · by_cases hv : y0.2 = z.1.2
                      · have q1 := toList_beq' (decide_eq_true hk)
                        have q2 : (y0.2 != z.1.2) = false := by simpa using hv
                        obtain ⟨hZ1, hk1⟩ := hZ.put HXF.out HN1.out (Nat.ne_of_lt (Nat.lt_succ_self _)) ((k : Int) + 1)
                        have ko1 := KeepsOthers.setCell W ⟨rB1 + 1, 0, none⟩ (.int .i64 ((k : Int) + 1))
                        obtain ⟨cur, hX1, hU1⟩ := hZ1.cur
                        have hC1 := HCF.out.on HXL.out hZ1.on
                        have cx1 := hC1.xb.cell
                        have HLn : Hid (∀ l', Rising l' → InU U l' → l'.length + 1 ≤ 1152921504606846976) := fun l' h1 h2 => by have := h2.len h1; have := HUL.out; omega
                        have DE : Hid (Calls Try.prog 11 #[pt x, .string z.1.1] (W.setCell ⟨rB1 + 1, 0, none⟩ (.int .i64 ((k : Int) + 1))) fun e w' => ∃ u : Bool, e = .returned (.bool u) ∧ w'.cell? ⟨w.heap.size, 0, none⟩ = some (pt x) ∧ w'.cell? ⟨rB1, 0, none⟩ = some (.int .i64 1) ∧ Hid (Zst wF w' x (rB1 + 1) (rB1) ((k : Int) + 1) 1 U [D4, D3, D2, D1] ∧ Kp W w' ∧ KeepsOthers W w' ∧ Xi w' x (delX cur z.1.1) ∧ InU U (delX cur z.1.1))) :=
                          (del_is hX1 z.1.1 (HLn.out _ hX1.rising hU1)).mono fun e w' ⟨he, hx, ho⟩ => by
                            obtain ⟨m1, m2, m3⟩ := hZ1.moved HXF.out HN1.out HR1.out hx (hU1.del _) ho
                            exact ⟨_, he, (HCF.out.on HXL.out m1.on).xb.cell, m1.rb.cell, m1, hk1.trans m2, ko1.trans m3, hx, hU1.del _⟩
                        have SE : Hid (∀ w', (Zst wF w' x (rB1 + 1) (rB1) ((k : Int) + 1) 1 U [D4, D3, D2, D1] ∧ Kp W w' ∧ KeepsOthers W w' ∧ Xi w' x (delX cur z.1.1) ∧ InU U (delX cur z.1.1)) → Calls Try.prog 10 #[pt x, .string (z.1.1 ++ ⟨#[0]⟩), .int .i64 1] w' fun e w2 => ∃ u : Bool, e = .returned (.bool u) ∧ Hid (Zst wF w2 x (rB1 + 1) (rB1) ((k : Int) + 1) 1 U [D4, D3, D2, D1] ∧ Kp W w2 ∧ KeepsOthers W w2)) := fun w' hs =>
                          (set_is hs.2.2.2.1 (zb z.1.1) 1 (HLn.out _ hs.2.2.2.1.rising hs.2.2.2.2)).mono fun e w2 ⟨he, hx, ho⟩ => by
                            obtain ⟨m1, m2, m3⟩ := hs.1.moved HXF.out HN1.out HR1.out hx (hs.2.2.2.2.set hs.2.2.2.1.rising (HUZ.out _ z.2) _) ho
                            exact ⟨_, he, m1, hs.2.1.trans m2, hs.2.2.1.trans m3⟩
                        clear hk hv hZ hZ1 hk1 ko1 hX1 hU1 hC1 hCW hy0
                        gi_wp2_with (first
                          | ((try refine ⟨trivial, ?_⟩); gi_at_call 11; refine (CallsIn.inRound y (callsIn_wide.2 DE.out)).mono ?_; rintro e w6 ⟨u6, rfl, cx6, cr6, hs6⟩)
                          | ((try refine ⟨trivial, ?_⟩); gi_at_call 10; refine (CallsIn.inRound y (callsIn_wide.2 (SE.out _ hs6.out))).mono ?_; rintro e w7 ⟨u7, rfl, hs7⟩))
                        exact ⟨hs7.out.2.2.from _, hs7.out.2.1, by show Zst wF w7 x (rB1 + 1) rB1 (((k + 1 : Nat)) : Int) 1 U [D4, D3, D2, D1]; rw [show (((k + 1 : Nat)) : Int) = (k : Int) + 1 from by omega]; exact hs7.out.1⟩
                      · have q1 := toList_beq' (decide_eq_true hk)
                        have q2 : (y0.2 != z.1.2) = true := by simpa using hv
                        have HN : Hid (z.1 ≠ nthE E k) := fun e => hv (by rw [hy0, ← e])
                        clear hk hv hy0 hZ
                        gi_wp2
                        exact ⟨(KeepsOthers.setCell _ _ _).from _, rfl, HN.out⟩
                    · have q1 := toList_beq' (decide_eq_false hk)
                      have HN : Hid (z.1 ≠ nthE E k) := fun e => hk (by rw [hy0, ← e])
                      clear hk hy0 hZ
                      gi_wp2
                      exact ⟨(KeepsOthers.setCell _ _ _).from _, rfl, HN.out⟩
                  case rest =>
                    intro D5 W5 hD5 hZD5 hD5K
                    have hZD5 : Zst wF W5 x (rB1 + 1) rB1 (T : Int) 1 U [D4, D3, D2, D1] := by have := hZD5; rw [HT.out] at this; exact this
                    have HQ1 : Hid (Zst wF W5 x (rB1 + 1) rB1 (T : Int) 1 U [D5, D4, D3, D2, D1]) := ⟨hZD5.on, hZD5.nb, hZD5.rb, hZD5.cur, fun D hD => by
                      rcases List.mem_cons.1 hD with rfl | hD
                      · exact hD5K
                      · exact hZD5.mks D hD⟩
                    have HE1 : Hid (rB1 + 1 + 1 ≤ D5 ∧ D5 < W5.heap.size) := ⟨by have := HS1.out; omega, (Array.getElem?_eq_some_iff.1 hD5K).1⟩
                    have cn1 := hZD5.nb.cell
                    have c71 := (HCF.out.on HXL.out hZD5.on).kb.cell
                    clear hD5 hZD5 hD5K hsC1
                    gi_wp2
                    go_wp2_with fail
                    refine (wpIn_wide (n := 5)).1 ?_
                    have hsD1 := back_stops (5 - 1) (HJ2.out.kp (HC.out.1.kp HQ1.out.on))
                    rw [HE.out] at hsD1
                    have HQ01 : Zst wF W5 x (rB1 + 1) rB1 (((T - 0 : Nat)) : Int) 1 U [D5, D4, D3, D2, D1] := HQ1.out
                    apply count_loop (f := fun k => (((T - k : Nat)) : Int)) hsD1 (Below.refl _ _) (enters_of Try.func59 (by kernel_rfl) rfl) (Nat.le_trans HR1.out (by have := HE1.out; omega)) (fun D hD => (Array.getElem?_eq_some_iff.1 (HQ1.out.mks D hD)).1) HQ01
                    case hg => rfl
                    case hps => exact fun _ => rfl
                    case hassign =>
                      intro y z W K hK
                      gi_wp2
                      exact hK
                    case hbody =>
                      intro y k z W hZ hlt
                      have hlt' : k < E.length := by simpa using hlt
                      obtain ⟨m, hm⟩ : ∃ m, T - k = m + 1 := ⟨T - k - 1, by have := HT.out; omega⟩
                      have hZ : Zst wF W x (rB1 + 1) (rB1) ((m + 1 : Nat) : Int) 1 U [D5, D4, D3, D2, D1] := by have := hZ; rw [hm] at this; exact this
                      have hmE : m < E.length := by have := HT.out; omega
                      have HRV : Hid (nthE E.reverse k = nthE E m) := by show _ = _; rw [rev_nth hlt', HT.out]; congr 1; omega
                      have hCW := HCF.out.on HXL.out hZ.on
                      obtain ⟨kb, koff, hka, kF⟩ := HCF.out.key hmE
                      obtain ⟨vb, voff, hva, vF⟩ := HCF.out.val hmE
                      have kl : kb < wF.heap.size := World.block_lt_of_cell? _ _ kF
                      have vl : vb < wF.heap.size := World.block_lt_of_cell? _ _ vF
                      clear kF vF
                      subst hka hva
                      obtain ⟨hZ1, hk1⟩ := hZ.put HXF.out HN1.out (Nat.ne_of_lt (Nat.lt_succ_self _)) (m : Int)
                      have ko1 := KeepsOthers.setCell W ⟨rB1 + 1, 0, none⟩ (.int .i64 (m : Int))
                      obtain ⟨kb', koff', hka', k0⟩ := hCW.key hmE
                      cases hka'
                      obtain ⟨vb', voff', hva', v0⟩ := hCW.val hmE
                      cases hva'
                      have c7 := hCW.kb.cell
                      have c8 := hCW.vb.cell
                      have cr := hCW.rb.cell
                      have fr := hCW.rb.frozen
                      have cx := hCW.xb.cell
                      have l8 := HCF.out.vb.lt
                      have lw := HwF.out
                      have lr := HR1.out
                      have ne0 : ¬ (w.heap.size = rB1 + 1) := by omega
                      have ne0' : ¬ (rB1 + 1 = w.heap.size) := by omega
                      have ne1 : ¬ (w.heap.size + 1 + 1 = rB1 + 1) := by omega
                      have ne1' : ¬ (rB1 + 1 = w.heap.size + 1 + 1) := by omega
                      have ne2 : ¬ (w1.heap.size = rB1 + 1) := by omega
                      have ne2' : ¬ (rB1 + 1 = w1.heap.size) := by omega
                      have ne3 : ¬ (w1.heap.size + 1 = rB1 + 1) := by omega
                      have ne3' : ¬ (rB1 + 1 = w1.heap.size + 1) := by omega
                      have ne4 : ¬ (kb = rB1 + 1) := by omega
                      have ne4' : ¬ (rB1 + 1 = kb) := by omega
                      have ne5 : ¬ (vb = rB1 + 1) := by omega
                      have ne5' : ¬ (rB1 + 1 = vb) := by omega
                      clear kl vl l8 lw lr
                      have cn := hZ.nb.cell
                      have fn := hZ.nb.frozen
                      have hmT : m < T := by have := HT.out; omega
                      have hge : decide ((m : Int) < 0) = false := decide_eq_false (by omega)
                      have hwk : IntKind.i64.wrap ((m : Int) + 1 - 1) = (m : Int) := by rw [IntKind.wrap_i64]; omega
                      have hwk2 : IntKind.i64.wrap (m : Int) = (m : Int) := by rw [IntKind.wrap_i64]; omega
                      have hzE : z.1 ∈ E := List.mem_reverse.1 z.2
                      have HKZ := hid (HKS.out z.1 hzE)
                      have hlen : (9223372036854775807 < z.1.1.size + 1) = False := by have := HKZ.out; simp; omega
                      have HFE : Hid (T - (k + 1) = m) := by show _ = _; omega
                      obtain ⟨y0, hy0⟩ : ∃ y0, y0 = nthE E m := ⟨_, rfl⟩
                      rw [← hy0] at k0 v0
                      by_cases hk : y0.1 = z.1.1
                      · by_cases hv : y0.2 = z.1.2
                        · have q1 := toList_beq' (decide_eq_true hk)
                          have q2 : (y0.2 != z.1.2) = false := by simpa using hv
                          obtain ⟨cur, hX1, hU1⟩ := hZ1.cur
                          have HLn : Hid (∀ l', Rising l' → InU U l' → l'.length + 1 ≤ 1152921504606846976) := fun l' h1 h2 => by have := h2.len h1; have := HUL.out; omega
                          have SE : Hid (Calls Try.prog 10 #[pt x, .string z.1.1, .int .i64 (-1)] (W.setCell ⟨rB1 + 1, 0, none⟩ (.int .i64 (m : Int))) fun e w' => ∃ u : Bool, e = .returned (.bool u) ∧ w'.cell? ⟨w.heap.size, 0, none⟩ = some (pt x) ∧ Hid (Zst wF w' x (rB1 + 1) (rB1) (m : Int) 1 U [D5, D4, D3, D2, D1] ∧ Kp W w' ∧ KeepsOthers W w' ∧ Xi w' x (setX cur z.1.1 (-1)) ∧ InU U (setX cur z.1.1 (-1)))) :=
                            (set_is hX1 z.1.1 (-1) (HLn.out _ hX1.rising hU1)).mono fun e w' ⟨he, hx, ho⟩ => by
                              have hU2 := hU1.set hX1.rising (HUE.out _ hzE) (-1)
                              obtain ⟨m1, m2, m3⟩ := hZ1.moved HXF.out HN1.out HR1.out hx hU2 ho
                              exact ⟨_, he, (HCF.out.on HXL.out m1.on).xb.cell, m1, hk1.trans m2, ko1.trans m3, hx, hU2⟩
                          have DE : Hid (∀ w', (Zst wF w' x (rB1 + 1) (rB1) (m : Int) 1 U [D5, D4, D3, D2, D1] ∧ Kp W w' ∧ KeepsOthers W w' ∧ Xi w' x (setX cur z.1.1 (-1)) ∧ InU U (setX cur z.1.1 (-1))) → Calls Try.prog 11 #[pt x, .string (z.1.1 ++ ⟨#[0]⟩)] w' fun e w2 => ∃ u : Bool, e = .returned (.bool u) ∧ Hid (Zst wF w2 x (rB1 + 1) (rB1) (m : Int) 1 U [D5, D4, D3, D2, D1] ∧ Kp W w2 ∧ KeepsOthers W w2)) := fun w' hs =>
                            (del_is hs.2.2.2.1 (zb z.1.1) (HLn.out _ hs.2.2.2.1.rising hs.2.2.2.2)).mono fun e w2 ⟨he, hx, ho⟩ => by
                              obtain ⟨m1, m2, m3⟩ := hs.1.moved HXF.out HN1.out HR1.out hx (hs.2.2.2.2.del _) ho
                              exact ⟨_, he, m1, hs.2.1.trans m2, hs.2.2.1.trans m3⟩
                          clear hk hv hZ hZ1 hk1 ko1 hX1 hU1 hCW hy0
                          gi_wp2_with (first
                            | ((try refine ⟨trivial, ?_⟩); gi_at_call 10; refine (CallsIn.inRound y (callsIn_wide.2 SE.out)).mono ?_; rintro e w6 ⟨u6, rfl, cx6, hs6⟩)
                            | ((try refine ⟨trivial, ?_⟩); gi_at_call 11; refine (CallsIn.inRound y (callsIn_wide.2 (DE.out _ hs6.out))).mono ?_; rintro e w7 ⟨u7, rfl, hs7⟩))
                          exact ⟨hs7.out.2.2.from _, hs7.out.2.1, by show Zst wF w7 x (rB1 + 1) (rB1) (((T - (k + 1) : Nat)) : Int) 1 U [D5, D4, D3, D2, D1]; rw [HFE.out]; exact hs7.out.1⟩
                        · have q1 := toList_beq' (decide_eq_true hk)
                          have q2 : (y0.2 != z.1.2) = true := by simpa using hv
                          have HN : Hid (z.1 ≠ nthE E.reverse k) := fun e => hv (by rw [hy0, ← HRV.out, ← e])
                          clear hk hv hy0 hZ hZ1
                          gi_wp2
                          exact ⟨((KeepsOthers.setCell _ _ _).trans (KeepsOthers.setCell _ _ _)).from _, rfl, HN.out⟩
                      · have q1 := toList_beq' (decide_eq_false hk)
                        have HN : Hid (z.1 ≠ nthE E.reverse k) := fun e => hk (by rw [hy0, ← HRV.out, ← e])
                        clear hk hy0 hZ hZ1
                        gi_wp2
                        exact ⟨((KeepsOthers.setCell _ _ _).trans (KeepsOthers.setCell _ _ _)).from _, rfl, HN.out⟩
                    case rest =>
                      intro D6 W6 hD6 hZD6 hD6K
                      have hZD6 : Zst wF W6 x (rB1 + 1) rB1 0 1 U [D5, D4, D3, D2, D1] := by have := hZD6; rw [List.length_reverse, HT.out, Nat.sub_self] at this; exact this
                      have HY2 : Hid (Onl (fun b => b = x) wF W6 ∧ (∃ cur, Xi W6 x cur ∧ InU U cur) ∧ (∀ D ∈ [D6, D5, D4, D3, D2, D1], W6.heap[D]? = some (.deferred (some []))) ∧ [D6, D5, D4, D3, D2, D1].Nodup ∧ ∀ D ∈ [D6, D5, D4, D3, D2, D1], wF.heap.size ≤ D) := by
                        refine ⟨hZD6.on, hZD6.cur, fun D hD => ?_, List.nodup_cons.2 ⟨fun hm => ?_, List.nodup_cons.2 ⟨fun hm => ?_, HY1.out.2.2.2.1⟩⟩, fun D hD => ?_⟩
                        · rcases List.mem_cons.1 hD with rfl | hD
                          · exact hD6K
                          · exact hZD6.mks D hD
                        · have h1 := (Array.getElem?_eq_some_iff.1 (HQ1.out.mks _ hm)).1
                          omega
                        · have h1 := HBD1.out _ hm
                          have h2 := HE1.out
                          omega
                        · rcases List.mem_cons.1 hD with rfl | hD
                          · have h1 := HE1.out; have h2 := HR1.out; omega
                          · rcases List.mem_cons.1 hD with rfl | hD
                            · have h1 := HE1.out; have h2 := HR1.out; omega
                            · exact HY1.out.2.2.2.2 D hD
                      have cn1' := hZD6.nb.cell
                      clear hD6 hZD6 hD6K hsD1 HQ01 cn1 c71
                      gi_wp2
                      go_wp2_with fail
                      clear cn1'
                      have hCE := HCF.out.on HXL.out HY2.out.1
                      have cr := hCE.rb.cell
                      have fr := hCE.rb.frozen
                      rw [rounds_succ]
                      go_wp2_with fail
                      obtain ⟨hon, ⟨cur', hX', hU'⟩, hmk, hnd, hge'⟩ := HY2.out
                      have hwF := HwF.out
                      have hxl := HXL.out
                      have hbR := hCE.rb.set (.bool true)
                      have hkp := kp_set hCE.rb (not_ixt rfl) (.bool true)
                      have hXw := hX'.keep hkp (Below.heap_setCell _ _ _ _ (by show x ≠ w.heap.size + 1 + 1; omega))
                      have hmk' : ∀ D ∈ [D6, D5, D4, D3, D2, D1], (W6.setCell ⟨w.heap.size + 1 + 1, 0, none⟩ (.bool true)).heap[D]? = some (.deferred (some [])) := fun D hD => (Below.heap_setCell _ _ _ _ (fun (e : D = w.heap.size + 1 + 1) => by have := hge' D hD; omega)).trans (hmk D hD)
                      have hOn' : Onl (fun b => b = x) w (W6.setCell ⟨w.heap.size + 1 + 1, 0, none⟩ (.bool true)) := (HOw.out.trans hon).setNew (by omega) _ _
                      have hni : w.heap.size + 1 + 1 ∉ [D6, D5, D4, D3, D2, D1] := fun hm => by have := hge' _ hm; omega
                      have hres : Boxed (takeAll (W6.setCell ⟨w.heap.size + 1 + 1, 0, none⟩ (.bool true)) [D6, D5, D4, D3, D2, D1]) (w.heap.size + 1 + 1) 4 (.bool true) := (takeAll_block hni).trans hbR
                      have cR := hres.cell
                      refine leaves_marks (ds := [D6, D5, D4, D3, D2, D1]) hnd hmk' ?_
                      refine ⟨.bool true, ?_, rfl, cur', takeAll_xi hXw hnd hmk', hU', takeAll_onl hOn' (fun D hD => by have := hge' D hD; omega)⟩
                      simp [results, Try.f18, go_sem, cR]

end Go.Proofs.Ytmhpakbkmddfeaa
