import Derived.Test.YtmhpakbkmddfeabIFolded
namespace Go.Proofs.Ytmhpakbkmddfeab
open Go.RowKit Go.Sort
set_option linter.unusedVariables false

set_option maxRecDepth 100000 in
set_option maxHeartbeats 4000000 in
theorem folded_stir {w : World} {B L o x d : Nat} {v : Value} {log : List Ch} {op : Ao} (hst : 0 < op.st) (hL : LT w L) (hp : PairAt w B L o x d v log) (hBw : B ≤ w.heap.size) (hl : (log.length + 900002) * 64 ≤ 140737488355328) (hl3 : (ixL log).length ≤ 300000) (hks : ∀ e ∈ rangeX (ixL log) op.key op.hi, e.1.size + 1 ≤ 9223372036854775807) :
    Calls Try.prog 7 #[.pointer (some ⟨L, o, none⟩), opV op] w fun e w' => ∃ v', e = .returned (.bool true) ∧ LT w' L ∧ PairAt w' B L o x d v' ((rangeX (ixL log) op.key op.hi).foldl stirC log) ∧ Moved L o x d v x d v' w w' := by
  obtain ⟨E, hE⟩ : ∃ E, rangeX (ixL log) op.key op.hi = E := ⟨_, rfl⟩
  have hEl : E.length ≤ (ixL log).length := by rw [← hE]; exact List.length_filter_le _ _
  have hll := ixL_len log
  obtain ⟨T, hT⟩ : ∃ T, E.length = T := ⟨_, rfl⟩
  rw [hT] at hEl
  obtain ⟨w1, hw1⟩ : ∃ w1, w1 = (w.alloc (.cells (opC op) 31)).alloc (.cells #[.string firstT, .int .i64 op.v] 41) := ⟨_, rfl⟩
  have hb1 : Below w.heap.size w w1 := by rw [hw1]; exact Below.al (Below.al (Below.refl _ _) _) _
  have hop : OpAt w1 w.heap.size op := by rw [hw1]; exact (Below.heap_alloc _ _ _ (by simp)).trans (op_new w op)
  have hen : EnAt w1 (w.heap.size + 1) firstT op.v := by
    have := World.alloc_heap_new (w.alloc (.cells (opC op) 31)) (.cells #[.string firstT, .int .i64 op.v] 41)
    rw [World.size_alloc] at this; rw [hw1]; exact this
  have r4 : (w.alloc (.cells (opC op) 31)).cell? ⟨w.heap.size, 4, none⟩ = some (.int .i64 op.v) := OpAt.c4 (op_new w op)
  have HEN := hid hen
  clear hen
  have hp1 := hp.later hb1
  have cx := hp1.cx
  have cd := hp1.cd
  have q0 := hop.c0; have q1 := hop.c1; have q2 := hop.c2; have q3 := hop.c3; have q4 := hop.c4; have q5 := hop.c5
  have SP : Hid (∀ W', Calls Try.prog 17 #[opV op] W' fun e w' => e = .returned (.agg #[.string op.key, .string op.hi]) ∧ Below W'.heap.size W' w') := fun W' => span_is W' op
  have EN : Hid (∀ W', Below w1.heap.size w1 W' → Calls Try.prog 16 #[.pointer (some ⟨d, 0, none⟩), .agg #[.string op.key, .string op.hi]] W' fun e w' => ∃ ea ec, e = .returned (.slice ea T ec) ∧ Hid (OwnE w' w1.heap.size (.slice ea T ec) E) ∧ Below W'.heap.size W' w') := fun W' hb =>
    (refentries_is (hp1.ri.later hb) op.key op.hi).mono fun e w' ⟨v', he, ho, hb'⟩ => by
      rw [hE] at ho
      obtain ⟨ea, ec, rfl⟩ : ∃ ea ec, v' = .slice ea T ec := by
        have h2 := ho; unfold OwnE at h2; rw [hT] at h2
        exact owns_slice h2
      exact ⟨ea, ec, he, ho.base hb.size, hb'⟩
  rw [hE] at hks ⊢
  have hst' : decide (0 < op.st) = true := decide_eq_true hst
  have HBW := hid hb1
  have HE := hid hE
  have HT := hid hT
  have hl1 : (ixL log).length + 3 ≤ log.length + 900002 := by omega
  have HL := hid (Nat.le_trans (Nat.mul_le_mul_right 64 hl1) hl)
  have hl2 : T + 3 ≤ log.length + 900002 := by omega
  have hl4 := Nat.le_trans (Nat.mul_le_mul_right 64 hl2) hl
  have HT2 : Hid (T + 3 ≤ 140737488355328) := Nat.le_trans (Nat.le_mul_of_pos_right _ (by decide)) hl4
  have hl6 : (ixL log).length + (ixL log).length + (ixL log).length + 3 ≤ 900003 := by omega
  have HL3 := hid (room_of hl6 (by decide))
  have HTE : Hid (E.length ≤ 300000) := by show _ ≤ _; omega
  have HP := hid hp
  have HLT := hid hL
  have HBB := hid hBw
  have HLL := hid hl
  have HKS := hid hks
  have HP1 := hid hp1
  clear hp hl hst hEl hll hb1 hop hE hT hl1 hl2 hl4 hl6 hl3 hL hBw hks hp1
  go_enter Try.func7, Try.ntmps7
  go_wp2_with fail
  rw [← hw1]
  clear hw1 r4
  go_region_held3 (fun w' => w'.cell? ⟨L, o + 1, none⟩ = some (.pointer (some ⟨d, 0, none⟩)) ∧ w'.cell? ⟨w.heap.size, 0, none⟩ = some (.int .i64 op.k) ∧ w'.cell? ⟨w.heap.size, 1, none⟩ = some (.int .i64 op.pl) ∧ w'.cell? ⟨w.heap.size, 2, none⟩ = some (.string op.key) ∧ w'.cell? ⟨w.heap.size, 3, none⟩ = some (.string op.hi) ∧ w'.cell? ⟨w.heap.size, 4, none⟩ = some (.int .i64 op.v) ∧ w'.cell? ⟨w.heap.size, 5, none⟩ = some (.int .i64 op.st) ∧ Below w1.heap.size w1 w')
    ((refine (fun (hB : Below w1.heap.size w1 _) => ⟨cell_later hB cd, cell_later hB q0, cell_later hB q1, cell_later hB q2, cell_later hB q3, cell_later hB q4, cell_later hB q5, hB⟩) ?_; (repeat (first | exact Below.refl _ _ | assumption | refine Below.drew ?_ | refine Below.al ?_ _ | refine Below.setCell ?_ (by first | exact Nat.le_refl _ | (simp; omega) | (simp; done)) _ | refine Below.on ?_ (by assumption)))))
    (first
      | (go_at_call 17; refine (SP.out _).mono ?_; rintro e w2 ⟨rfl, hc2⟩)
      | (go_at_call 16; refine (EN.out _ ?_).mono ?_; ((repeat (first | exact Below.refl _ _ | assumption | refine Below.drew ?_ | refine Below.al ?_ _ | refine Below.setCell ?_ (by first | exact Nat.le_refl _ | (simp; omega) | (simp; done)) _ | refine Below.on ?_ (by assumption)))); rintro e w3 ⟨ea, ec, rfl, ho3, hc3⟩))
  have hb3 : Below w1.heap.size w1 w3 := by (repeat (first | exact Below.refl _ _ | assumption | refine Below.drew ?_ | refine Below.al ?_ _ | refine Below.setCell ?_ (by first | exact Nat.le_refl _ | (simp; omega) | (simp; done)) _ | refine Below.on ?_ (by assumption)))
  have XI3 : Hid (Xi w3 x (ixL log)) := HP1.out.xi.later hb3
  have RI3 : Hid (Ri w3 d v log) := HP1.out.ri.later hb3
  have FO : Hid (∀ W' blk, Below w3.heap.size w3 W' → OwnE W' w3.heap.size (.slice (some ⟨blk, 0, none⟩) 1 1) [(firstT, op.v)] → Calls Try.prog 18 #[pt x, .agg #[.string op.key, .string op.hi], .agg #[pt x, .slice (some ⟨blk, 0, none⟩) 1 1], fnv 19] W' fun e w' => ∃ ga gc, e = .returned (.agg #[pt x, .slice ga (T + 1) gc]) ∧ Hid (OwnE w' w3.heap.size (.slice ga (T + 1) gc) ((firstT, op.v) :: E)) ∧ Hid (Xi w' x (E.foldl stirX (ixL log))) ∧ Onl (fun b => b = x ∨ w3.heap.size ≤ b) w3 w') := fun W' blk hb hr =>
    (foldS_one (XI3.out.later hb) hr op.key op.hi HE.out HT.out HL.out HL3.out hb.size HKS.out).mono fun e w' ⟨ga, gc, he, ho, hx, hb'⟩ => ⟨ga, gc, he, ho, hx, (Onl.of_below hb).trans hb'⟩
  have HEN3 := HEN.out.later hb3
  have m0 := HEN3.c0
  have m1 := HEN3.c1
  have HEN3 := hid HEN3
  have c3 := cell_later hb3 cx
  have d3 := cell_later hb3 cd
  replace q0 := cell_later hb3 q0; replace q1 := cell_later hb3 q1; replace q2 := cell_later hb3 q2; replace q3 := cell_later hb3 q3; replace q4 := cell_later hb3 q4; replace q5 := cell_later hb3 q5
  have HB3 := hid hb3
  have hsz := Nat.le_trans HBW.out.size hb3.size
  have hs1 : w.heap.size + 1 < w3.heap.size := HEN3.out.lt
  have HNL : Hid (¬ (L = x ∨ w3.heap.size ≤ L)) := fun e => e.elim (fun e => HLT.out.ne_xi HP.out.xi e.symm) (fun e => by have := HLT.out.lt; omega)
  have HN0 : Hid (¬ (w.heap.size = x ∨ w3.heap.size ≤ w.heap.size)) := fun e => by have := HP.out.xi.lt; omega
  have HN1 : Hid (¬ (w.heap.size + 1 = x ∨ w3.heap.size ≤ w.heap.size + 1)) := fun e => by have := HP.out.xi.lt; omega
  clear hb3 hc2 hc3 cx cd EN HEN hsz hs1
  have hfd := field_stirred
  go_wp2_with fail
  go_cut [7] from 26 to 40 (fun s7 wx => ∃ ga gc, s7 = .slice ga (T + 1) gc ∧ Hid (OwnE wx w3.heap.size (.slice ga (T + 1) gc) ((firstT, op.v) :: E)) ∧ Hid (Xi wx x (E.foldl stirX (ixL log))) ∧ Hid (Onl (fun b => b = x ∨ w3.heap.size ≤ b) w3 wx))
  case first =>
    go_region_held3 (fun w' => w'.cell? ⟨L, o, none⟩ = some (.pointer (some ⟨x, 0, none⟩)) ∧ w'.cell? ⟨w.heap.size + 1, 0, none⟩ = some (.string firstT) ∧ w'.cell? ⟨w.heap.size + 1, 1, none⟩ = some (.int .i64 op.v) ∧ w'.cell? ⟨w.heap.size, 0, none⟩ = some (.int .i64 op.k) ∧ w'.cell? ⟨w.heap.size, 1, none⟩ = some (.int .i64 op.pl) ∧ w'.cell? ⟨w.heap.size, 2, none⟩ = some (.string op.key) ∧ w'.cell? ⟨w.heap.size, 3, none⟩ = some (.string op.hi) ∧ w'.cell? ⟨w.heap.size, 4, none⟩ = some (.int .i64 op.v) ∧ w'.cell? ⟨w.heap.size, 5, none⟩ = some (.int .i64 op.st) ∧ Onl (fun b => b = x ∨ w3.heap.size ≤ b) w3 w')
      ((refine (fun (hO : Onl (fun b => b = x ∨ w3.heap.size ≤ b) w3 _) => ⟨hO.cell HNL.out c3, hO.cell HN1.out m0, hO.cell HN1.out m1, hO.cell HN0.out q0, hO.cell HN0.out q1, hO.cell HN0.out q2, hO.cell HN0.out q3, hO.cell HN0.out q4, hO.cell HN0.out q5, hO⟩) ?_; (repeat (first | assumption | exact Onl.refl _ _ | refine Onl.drew ?_ | refine Onl.al ?_ _ | refine Onl.on ?_ (by assumption)))))
      (first
        | (go_at_call 17; refine (SP.out _).mono ?_; rintro e w4 ⟨rfl, hc4⟩)
        | (go_at_call 18; refine (FO.out _ _ ?_ ?_).mono ?_; ((repeat (first | exact Below.refl _ _ | assumption | refine Below.drew ?_ | refine Below.al ?_ _ | refine Below.setCell ?_ (by first | exact Nat.le_refl _ | (simp; omega) | (simp; done)) _ | refine Below.on ?_ (by assumption)))); (first | exact own_lit _ _ hc4.size | exact (own_lit _ _ (Nat.le_refl _)).later (Below.on (Below.drew (Below.refl _ _)) hc4)); rintro e w5 ⟨ga, gc, rfl, ho5, hx5, hb5⟩))
    all_goals go_wp2_with fail
    all_goals go_meet
    all_goals exact ⟨ga, gc, rfl, ho5, hx5, hb5⟩
  case rest =>
    obtain ⟨ga, gc, rfl, HG, HX, HW⟩ := hcut
    have HOE : Hid (OwnE wc w1.heap.size (.slice ea T ec) E) := ho3.out.keep HW.out (fun g hg e => e.elim (fun e => XI3.out.not_own ho3.out (e ▸ hg)) (fun e => by have := (World.ownsRow.lt ho3.out g hg).2; omega))
    have HRI : Hid (Ri wc d v log) := RI3.out.keep HW.out (fun k hk e => e.elim (fun e => XI3.out.ne_ri RI3.out (e ▸ hk)) (fun e => by
      rcases hk with hk | hk
      · have := RI3.out.lt; omega
      · have := (RI3.out.own.lt k hk).2; omega))
    have cdc := HW.out.cell HNL.out d3
    have HENc : Hid (EnAt wc (w.heap.size + 1) firstT op.v) := (HW.out.block _ HEN3.out.lt HN1.out).trans HEN3.out
    have HNR : Hid (¬ Ri.has d v L) := HLT.out.ne_ri HP.out.ri
    have HNM : Hid (¬ Ri.has d v (w.heap.size + 1)) := fun e => by have := HP.out.foot_lt (.inr e); omega
    have HS0 : Hid (Sti wc wc d v v log) := ⟨HRI.out, Onl.refl _ _, fun g hg => .inl hg, Kp.refl _⟩
    clear HEN3 m0 m1 c3 d3 q0 q1 q2 q3 q4 q5 SP FO XI3 RI3 ho3 HE HL HL3 HP1 HN0 HN1 HNL hfd
    have hTb := HT2.out
    go_wp2_with fail
    go_loopg [43] T (fun g s43 wr => ∃ i : Nat, i ≤ T ∧ g = T - i ∧ s43 = .int .i64 i ∧ ∃ vi, Hid (Sti wc wr d v vi ((E.take i).foldl stirC log)))
    case atStart => exact ⟨0, by omega, by omega, rfl, v, HS0⟩
    case round =>
      obtain ⟨i, hi, rfl, rfl, vi, HS⟩ := hrel
      by_cases hlt : i < T
      · have hil : i < E.length := by have := HT.out; omega
        obtain ⟨eb, eoff, rfl, e0, e1⟩ := own_row HOE.out i hil
        have HNE : Hid (¬ Ri.has d v eb) := own_ne_ri HOE.out HRI.out rfl
        obtain ⟨y, hy⟩ : ∃ y, y = nthE E i := ⟨_, rfl⟩
        have HTS := hid (take_stir hil hy log)
        have hrm := take_room hil HTE.out HLL.out
        have hys : y.1.size + 1 ≤ 9223372036854775807 := HKS.out y (by rw [hy]; exact nthE_in hil)
        have hlen : (9223372036854775807 < y.1.size + 1) = False := by simp; omega
        rw [← hy] at e0 e1
        obtain ⟨lg, hlg⟩ : ∃ lg, (E.take i).foldl stirC log = lg := ⟨_, rfl⟩
        rw [hlg] at HS HTS hrm
        have HRM := hid hrm
        have DE : Hid (∀ W', Below wr.heap.size wr W' → Calls Try.prog 15 #[.pointer (some ⟨d, 0, none⟩), .string y.1] W' fun e w' => ∃ (u : Bool) (v' : Value), e = .returned (.bool u) ∧ Hid (Sti wc w' d v v' (lg ++ [⟨y.1, 0, true⟩])) ∧ Onl (Ri.has d v) wc w') := fun W' hb => sti_del (HS.out.later hb) y.1 (room_of (Nat.add_le_add_left (by decide) _) HRM.out)
        have SE : Hid (∀ W0 v5 W', Sti wc W0 d v v5 (lg ++ [⟨y.1, 0, true⟩]) → Below W0.heap.size W0 W' → Calls Try.prog 13 #[.pointer (some ⟨d, 0, none⟩), .string (y.1 ++ ⟨#[0]⟩), .int .i64 y.2] W' fun e w' => ∃ (u : Bool) (v' : Value), e = .returned (.bool u) ∧ Hid (Sti wc w' d v v' (lg ++ [⟨y.1, 0, true⟩] ++ [⟨zb y.1, y.2, false⟩])) ∧ Onl (Ri.has d v) wc w') := fun W0 v5 W' hs hb => sti_set (hs.later hb) (zb y.1) y.2 (room_of (by rw [List.length_append]; exact Nat.add_le_add_left (by decide : 1 + 2 ≤ 5) _) HRM.out)
        obtain ⟨l2, hl2⟩ : ∃ l2, lg ++ [⟨y.1, 0, true⟩] ++ [⟨zb y.1, y.2, false⟩] = l2 := ⟨_, rfl⟩
        have hl2n : l2.length = lg.length + 2 := by rw [← hl2]; simp
        have HR2 : Hid ((l2.length + 3) * 64 ≤ 140737488355328) := room_of (by rw [hl2n]; exact Nat.le_refl _) HRM.out
        have HC0 : Hid (∀ z, topX (ixL l2) = some z → stirC lg y = l2 ++ [⟨z.1, -1, false⟩]) := fun z hz => by rw [← hl2] at hz ⊢; exact stirC_some hz
        have HC1 : Hid (topX (ixL l2) = none → stirC lg y = l2) := fun hz => by rw [← hl2] at hz ⊢; exact stirC_none hz
        rw [hl2] at SE
        have ho0 := HS.out.onl
        clear hl2 hl2n hrm hys hlg hil hy HS0
        go_wp2_with fail
        go_region_held3 (fun w' => w'.cell? ⟨L, o + 1, none⟩ = some (.pointer (some ⟨d, 0, none⟩)) ∧ w'.cell? ⟨eb, eoff + i * 2, none⟩ = some (.string y.1) ∧ Onl (Ri.has d v) wc w')
          ((refine (fun (hO : Onl (Ri.has d v) wc _) => ⟨hO.cell HNR.out cdc, hO.cell HNE.out e0, hO⟩) ?_; (repeat (first | assumption | exact Onl.refl _ _ | refine Onl.drew ?_ | refine Onl.al ?_ _ | refine Onl.on ?_ (by assumption)))))
          (first
            | (go_at_call 15; refine (DE.out _ ?_).mono ?_; ((repeat (first | exact Below.refl _ _ | assumption | refine Below.drew ?_ | refine Below.al ?_ _ | refine Below.setCell ?_ (by first | exact Nat.le_refl _ | (simp; omega) | (simp; done)) _ | refine Below.on ?_ (by assumption)))); rintro e w5 ⟨u5, v5, rfl, hs5, ho5⟩))
        go_wp2_with fail
        go_region_held3 (fun w' => w'.cell? ⟨L, o + 1, none⟩ = some (.pointer (some ⟨d, 0, none⟩)) ∧ w'.cell? ⟨eb, eoff + i * 2, none⟩ = some (.string y.1) ∧ w'.cell? ⟨eb, eoff + i * 2 + 1, none⟩ = some (.int .i64 y.2) ∧ Onl (Ri.has d v) wc w')
          ((refine (fun (hO : Onl (Ri.has d v) wc _) => ⟨hO.cell HNR.out cdc, hO.cell HNE.out e0, hO.cell HNE.out e1, hO⟩) ?_; (repeat (first | assumption | exact Onl.refl _ _ | refine Onl.drew ?_ | refine Onl.al ?_ _ | refine Onl.on ?_ (by assumption)))))
          (first
            | (go_at_call 13; refine (SE.out _ _ _ hs5.out ?_).mono ?_; ((repeat (first | exact Below.refl _ _ | assumption | refine Below.drew ?_ | refine Below.al ?_ _ | refine Below.setCell ?_ (by first | exact Nat.le_refl _ | (simp; omega) | (simp; done)) _ | refine Below.on ?_ (by assumption)))); rintro e w6 ⟨u6, v6, rfl, hs6, ho6⟩))
        have cd6 := ho6.cell HNR.out cdc
        obtain ⟨tp, htp⟩ : ∃ tp, topX (ixL l2) = tp := ⟨_, rfl⟩
        have TP : Hid (Calls Try.prog 20 #[.pointer (some ⟨d, 0, none⟩), .string ⟨#[255, 255, 255, 255]⟩] w6 fun e w' => e = .returned (firV tp) ∧ Hid (Sti wc w' d v v6 l2) ∧ w'.cell? ⟨L, o + 1, none⟩ = some (.pointer (some ⟨d, 0, none⟩))) := (sti_top hs6.out (room_ix HR2.out)).mono fun e w' ⟨he, hs, ho⟩ => ⟨by rw [he, htp], hs, ho.cell HNR.out cdc⟩
        rw [htp] at HC0 HC1
        clear htp DE SE hlen ho0 HS ho5 ho6 hs5 hs6 e0 e1
        cases tp with
        | none =>
          rw [show firV none = .tuple #[.string ⟨#[]⟩, .int .i64 0, .bool false] from rfl] at TP
          have HC := hid (HC1.out rfl)
          clear HC0 HC1
          go_wp2_with (first
            | (go_at_call 20; refine TP.out.mono ?_; rintro e w7 ⟨rfl, hs7, cd7⟩))
          go_roundg (T - (i + 1))
          case measure => omega
          case rel => exact ⟨i + 1, by omega, rfl, by go_num, v6, by rw [HTS.out, HC.out]; exact hs7⟩
        | some z =>
          rw [show firV (some z) = .tuple #[.string z.1, .int .i64 z.2, .bool true] from rfl] at TP
          have HC := hid (HC0.out z rfl)
          clear HC0 HC1
          go_wp2_with (first
            | (go_at_call 20; refine TP.out.mono ?_; rintro e w7 ⟨rfl, hs7, cd7⟩)
            | (go_at_call 13; refine (sti_set hs7.out z.1 (-1) (room_of (Nat.add_le_add_left (by decide) _) HR2.out)).mono ?_; rintro e w8 ⟨u8, v8, rfl, hs8, ho8⟩))
          go_roundg (T - (i + 1))
          case measure => omega
          case rel => exact ⟨i + 1, by omega, rfl, by go_num, v8, by rw [HTS.out, HC.out]; exact hs8⟩
      · obtain rfl : T = i := by omega
        clear hlt hi HS0
        obtain ⟨wd, rfl⟩ : ∃ wd, wd = wr := ⟨_, rfl⟩
        rw [show E.take T = E from by rw [← HT.out]; exact List.take_length] at HS
        have HXc : Hid (Xi wc x (ixL (E.foldl stirC log))) := by show Xi _ _ _; rw [stirC_ix_all]; exact HX.out
        have FIN := hid (folded_end HLT.out HP.out HBB.out HBW.out HB3.out HW.out HXc.out HS.out)
        have HRE : Hid (RowE wd ea E) := own_row (HOE.out.keep HS.out.onl (fun g hg => own_ne_ri HOE.out HRI.out hg))
        have HRG : Hid (RowE wd ga ((firstT, op.v) :: E)) := own_row (HG.out.keep HS.out.onl (fun g hg => own_ne_ri HG.out HRI.out hg))
        have hen : EnAt wd (w.heap.size + 1) firstT op.v := (HS.out.onl.block _ HENc.out.lt HNM.out).trans HENc.out
        have n0 := hen.c0
        have n1 := hen.c1
        clear hen HENc HNM HNR HOE HRI HG HXc HW HX HB3 HBW HKS HLL HBB HP HLT HTE cdc HS
        obtain ⟨gb, goff, rfl, g0, g1⟩ := HRG.out 0 (by simp)
        rw [nthE_zero] at g0 g1
        simp only [Nat.zero_mul, Nat.add_zero] at g0 g1
        have hT2 : T + 1 ≤ 9223372036854775807 := by have := HT2.out; omega
        have hwT : IntKind.i64.wrap ((T : Int) + 1) = (T : Int) + 1 := by rw [IntKind.wrap_i64]; omega
        go_wp2_with fail
        go_quiet (fail)
        go_wp2_with fail
        go_loopg [113] T (fun g s113 wr => ∃ i : Nat, i ≤ T ∧ g = T - i ∧ s113 = .int .i64 i ∧ Hid (Below wd.heap.size wd wr))
        case atStart => exact ⟨0, by omega, by omega, rfl, Below.drewN (Below.refl _ _) _⟩
        case round =>
          obtain ⟨i, hi, rfl, rfl, HBt⟩ := hrel
          by_cases hlt : i < T
          · have hil : i < E.length := by have := HT.out; omega
            obtain ⟨eb, eoff, rfl, e0, e1⟩ := HRE.out i hil
            obtain ⟨gb', goff', hgg, f0, f1⟩ := HRG.out (i + 1) (by simpa using hil)
            cases hgg
            rw [nthE_succ] at f0 f1
            replace e0 := cell_later HBt.out e0
            replace e1 := cell_later HBt.out e1
            replace f0 := cell_later HBt.out f0
            replace f1 := cell_later HBt.out f1
            obtain ⟨y, hy⟩ : ∃ y, y = nthE E i := ⟨_, rfl⟩
            rw [← hy] at e0 e1 f0 f1
            clear hy hil
            have hwi : IntKind.i64.wrap ((i : Int) + 1) = (i : Int) + 1 := by rw [IntKind.wrap_i64]; omega
            go_wp2_with fail
            go_quiet (fail)
            go_wp2_with fail
            go_roundg (T - (i + 1))
            case measure => omega
            case rel => exact ⟨i + 1, by omega, rfl, by go_num, Below.drewN HBt.out _⟩
          · obtain rfl : i = T := by omega
            clear hlt hi
            go_wp2_with fail
            go_ret
            obtain ⟨y1, y2, y3⟩ := FIN.out
            exact ⟨vi, rfl, y1.later HBt.out, y2.later HBt.out, y3.later y1.lt HBt.out⟩

end Go.Proofs.Ytmhpakbkmddfeab
