import Derived.Test.YtfafkohghgliaaaTuPC
import Derived.Test.YtfafkohghgliaaaTuRefC
import Derived.Test.YtfafkohghgliaaaTuRoom
import Derived.Test.YtfafkohghgliaaaTuOwn
import Derived.Laws.OwnMore
import Derived.Test.YtfafkohghgliaaaTuOvr
/- The law: TupleCompares. -/
namespace Go.Proofs.Ytfafkohghgliaaa.Tu
open Go.RowKit Go.Sort Go.Proofs.Ytfafkohghgliaaa
set_option linter.unusedVariables false
set_option linter.unusedSectionVars false
variable [DecidableEq Vl]

theorem ok_nullC : vNull.ok := ⟨by simp [vNull, In64], B8.nil⟩
theorem okC_more {xs : List Vl} (h : OkT xs) : OkT (xs ++ [vNull]) := h.append (fun v hv => by simp at hv; subst hv; exact ok_nullC)
/-- append(l, e) where there is room -/
theorem append_VF {w : World} {ops : Array Oper} {rest : List Oper} {o : Oper} {a : Act} {Q : Exit → Act → World → Prop} (hg : o.guard = none) (s x : Operand)
    (hop : o.op = Op.call { callee := Callee.builtin Builtin.append, args := #[s, x], argTypes := #[22, 22] }) {B q n cap : Nat} {l : List Vl} (e : Vl) (hs : a.eval s = .slice (some ⟨q, 0, none⟩) n cap) (hown : OwnV w B (.slice (some ⟨q, 0, none⟩) n cap) l) (hn : n = l.length) (hcap : n + 1 ≤ cap)
    {g : Nat} (hx : a.eval x = .slice (some ⟨g, 0, none⟩) 1 1) (c : CellV w g e)
    (hK : ∀ w', OwnV w' B (.slice (some ⟨q, 0, none⟩) (n + 1) cap) (l ++ [e]) → w.grownBy w' (some q) → wpList Try.prog ops Q rest (a.put o.dst (.slice (some ⟨q, 0, none⟩) (n + 1) cap)) w') : wpList Try.prog ops Q (o :: rest) a w := by
  obtain ⟨i0, hi, hz0, hz1, hz2⟩ := info_ofT infoVl
  subst hn
  obtain ⟨w', hr, ho, hgr⟩ := run_append_fits (P := Try.prog) (w := w) B 22 o.type 29 i0 4 Try.underlying22 hi hz1 q l.length cap (flatV l) hown ⟨g, 0, none⟩ 1 1 e.cs rfl (fun j u hj => by
    obtain ⟨c0, c1, c2, c3⟩ := c
    match j, hj with
    | 0, hj => simp [Vl.cs] at hj; subst hj; exact c0
    | 1, hj => simp [Vl.cs] at hj; subst hj; exact c1
    | 2, hj => simp [Vl.cs] at hj; subst hj; exact c2
    | 3, hj => simp [Vl.cs] at hj; subst hj; exact c3
    | j + 4, hj => simp [Vl.cs] at hj) (by intro u hu; simp [Vl.cs] at hu; rcases hu with rfl | rfl | rfl | rfl <;> rfl) hcap
  refine wpList_plain hg fun _ hK' => ?_
  unfold Oper.wp execOp
  simp only [hop, resolve, invoke, builtin, Sem.run_bind, Sem.run_pure, Result.andThen_ok, List.map_toArray, List.map_cons, List.map_nil, hs, hx, hr]
  refine hK' _ _ (hK w' ?_ hgr)
  show w'.ownsRow B _ 4 _ (l ++ [e]).length (flatV (l ++ [e]))
  rw [flatV_snoc, List.length_append]
  exact ho
set_option maxHeartbeats 1000000 in
theorem law_compares {a b : Option Addr} {c d : Nat} {xs ys : List Vl} {w : World} (h : RowV w a xs) (h2 : RowV w b ys) (ht : OkT xs) (ht2 : OkT ys) (hl : xs.length ≤ 3518437208883) (hl2 : ys.length ≤ 3518437208883) :
    Calls Try.prog 3 #[.agg #[.slice a xs.length c, .slice b ys.length d]] w fun e w' => e = .returned (.bool true) ∧ Below w.heap.size w w' := by
  have le1 : xs.length + 1 ≤ 4611686018427387904 := by omega
  have le2 : ys.length + 1 ≤ 4611686018427387904 := by omega
  have HR := hid (show RowV w a xs ∧ RowV w b ys from ⟨h, h2⟩)
  have HT := hid (show (OkT xs ∧ OkT ys) ∧ xs.length ≤ 3518437208883 ∧ ys.length ≤ 3518437208883 from ⟨⟨ht, ht2⟩, hl, hl2⟩)
  have HO1 : ∀ w', Below w.heap.size w w' → Hid (Calls Try.prog 5 #[.slice a xs.length c] w' fun e w'' => ∃ g, e = .returned (.slice (some ⟨g, 0, none⟩) xs.length (xs.length + 1)) ∧ Rm w'' g (roomF xs) (xs.length + 1) ∧ OwnV w'' w'.heap.size (.slice (some ⟨g, 0, none⟩) xs.length (xs.length + 1)) xs ∧ w'.heap.size ≤ g ∧ Below w'.heap.size w' w'') := fun w' hb => hid (own_is (HR.out.1.later hb) (by omega))
  have HO2 : ∀ w', Below w.heap.size w w' → Hid (Calls Try.prog 5 #[.slice b ys.length d] w' fun e w'' => ∃ g, e = .returned (.slice (some ⟨g, 0, none⟩) ys.length (ys.length + 1)) ∧ Rm w'' g (roomF ys) (ys.length + 1) ∧ OwnV w'' w'.heap.size (.slice (some ⟨g, 0, none⟩) ys.length (ys.length + 1)) ys ∧ w'.heap.size ≤ g ∧ Below w'.heap.size w' w'') := fun w' hb => hid (own_is (HR.out.2.later hb) (by omega))
  have HRC : ∀ w', Below w.heap.size w w' → Hid (Calls Try.prog 7 #[.slice a xs.length c, .slice b ys.length d] w' fun e w'' => e = .returned (.int .i64 (cmpT xs ys)) ∧ Below w'.heap.size w' w'') := fun w' hb => hid (refcompare_is (HR.out.1.later hb) (HR.out.2.later hb) ht ht2 (by omega) (by omega))
  have HRD : ∀ w', Below w.heap.size w w' → Hid (Calls Try.prog 7 #[.slice b ys.length d, .slice a xs.length c] w' fun e w'' => e = .returned (.int .i64 (cmpT ys xs)) ∧ Below w'.heap.size w' w'') := fun w' hb => hid (refcompare_is (HR.out.2.later hb) (HR.out.1.later hb) ht2 ht (by omega) (by omega))
  have HC : ∀ w' g1 g2, RowV w' (some ⟨g1, 0, none⟩) xs → RowV w' (some ⟨g2, 0, none⟩) ys → Hid (Calls Try.prog 6 #[.slice (some ⟨g1, 0, none⟩) xs.length (xs.length + 1), .slice (some ⟨g2, 0, none⟩) ys.length (ys.length + 1)] w' fun e w'' => e = .returned (.int .i64 (cmpT xs ys)) ∧ Below w'.heap.size w' w'') := fun w' g1 g2 r1 r2 => hid (compareF_is r1 r2 ht ht2 (by omega) (by omega))
  have HCD : ∀ w' g1 g2, RowV w' (some ⟨g1, 0, none⟩) xs → RowV w' (some ⟨g2, 0, none⟩) ys → Hid (Calls Try.prog 6 #[.slice (some ⟨g2, 0, none⟩) ys.length (ys.length + 1), .slice (some ⟨g1, 0, none⟩) xs.length (xs.length + 1)] w' fun e w'' => e = .returned (.int .i64 (cmpT ys xs)) ∧ Below w'.heap.size w' w'') := fun w' g1 g2 r1 r2 => hid (compareF_is r2 r1 ht2 ht (by omega) (by omega))
  have HCS : ∀ w' g1, RowV w' (some ⟨g1, 0, none⟩) xs → Hid (Calls Try.prog 6 #[.slice (some ⟨g1, 0, none⟩) xs.length (xs.length + 1), .slice (some ⟨g1, 0, none⟩) xs.length (xs.length + 1)] w' fun e w'' => e = .returned (.int .i64 0) ∧ Below w'.heap.size w' w'') := fun w' g1 r1 => hid (by have := compareF_is (c := xs.length + 1) (d := xs.length + 1) r1 r1 ht ht (by omega) (by omega); rwa [cmp_refl] at this)
  have HCM : ∀ w' g1 p q, RowV w' (some ⟨g1, 0, none⟩) xs → RowV w' p (xs ++ [vNull]) → Hid (Calls Try.prog 6 #[.slice (some ⟨g1, 0, none⟩) xs.length (xs.length + 1), .slice p (xs.length + 1) q] w' fun e w'' => e = .returned (.int .i64 (-1)) ∧ Below w'.heap.size w' w'') := fun w' g1 p q r1 r2 => hid (by
    have := compareF_is (c := xs.length + 1) (d := q) r1 r2 ht (okC_more ht) (by omega) (by rw [List.length_append]; simp; omega)
    rw [cmp_more, List.length_append] at this
    exact this)
  have HL1 : ∀ w' g, Below w.heap.size w w' → Rm w' g (roomF xs) (xs.length + 1) → Hid (Calls Try.prog 8 #[.slice (some ⟨g, 0, none⟩) xs.length (xs.length + 1), .slice a xs.length c] w' fun e w'' => e = .returned (.bool true) ∧ Below w'.heap.size w' w'') := fun w' g hb r => hid (left_is r (HR.out.1.later hb) ht (by omega))
  have HL2 : ∀ w' g, Below w.heap.size w w' → Rm w' g (roomF ys) (ys.length + 1) → Hid (Calls Try.prog 8 #[.slice (some ⟨g, 0, none⟩) ys.length (ys.length + 1), .slice b ys.length d] w' fun e w'' => e = .returned (.bool true) ∧ Below w'.heap.size w' w'') := fun w' g hb r => hid (left_is r (HR.out.2.later hb) ht2 (by omega))
  have HLX := hid (show (∀ l : List Vl, l = xs → l.length = xs.length) from fun l e => by rw [e])
  obtain ⟨K, hK⟩ : ∃ K, K = cmpT xs ys := ⟨_, rfl⟩
  obtain ⟨K', hK'⟩ : ∃ K', K' = cmpT ys xs := ⟨_, rfl⟩
  rw [← hK] at HRC HC
  rw [← hK'] at HRD HCD
  clear hK hK'
  obtain ⟨n, hn⟩ : ∃ n, n = xs.length := ⟨_, rfl⟩
  obtain ⟨m, hm⟩ : ∃ m, m = ys.length := ⟨_, rfl⟩
  have HN := hid (show n = xs.length ∧ m = ys.length from ⟨hn, hm⟩)
  rw [← hn] at HO1 HRC HRD HC HCD HCS HCM HL1 hl ⊢
  rw [← hm] at HO2 HRC HRD HC HCD HL2 hl2 ⊢
  clear h h2 ht ht2 hn hm HLX le1 le2
  go_enter Try.func3, Try.ntmps3
  go_wp2_with fail
  refine (HO1 _ (by (repeat (first | with_reducible exact Below.refl _ _ | with_reducible assumption | with_reducible refine Below.drew ?_ | with_reducible refine Below.al ?_ _ | with_reducible refine Below.setCell ?_ (by first | exact Nat.le_refl _ | (simp; omega) | (simp; done)) _ | with_reducible refine Below.on ?_ (by assumption))))).out.mono ?_
  rintro e w1 ⟨g1, rfl, hrm1, -, hg1, hb1⟩
  have hW1 : Below w.heap.size w w1 := Below.on (Below.al (Below.refl _ _) _) hb1
  have hbx := World.alloc_heap_new w (.cells #[.slice a n c, .slice b m d] 24)
  have k0 : w1.cell? ⟨w.heap.size, 0, none⟩ = some (.slice a n c) := cell_later hb1 (by simp only [World.cell?, hbx]; rfl)
  have k1 : w1.cell? ⟨w.heap.size, 1, none⟩ = some (.slice b m d) := cell_later hb1 (by simp only [World.cell?, hbx]; rfl)
  have HG1 := hid hg1
  clear hbx hb1 hg1
  go_wp2_with fail
  refine (HO2 _ hW1).out.mono ?_
  rintro e w2 ⟨g2, rfl, hrm2, -, hg2, hb2⟩
  have hW2 : Below w.heap.size w w2 := Below.on hW1 hb2
  replace k0 := cell_later hb2 k0
  replace k1 := cell_later hb2 k1
  have r1 := hrm1.lt
  replace hrm1 := hrm1.later hb2
  have HNE : Hid (g1 < g2) := hid (by omega)
  have HG2 := hid hg2
  have q0 := cell_regrown k0
  have q1 := cell_regrown k1
  have HRM := hid (show Rm w2 g1 (roomF xs) (n + 1) ∧ Rm w2 g2 (roomF ys) (m + 1) from ⟨by rw [HN.out.1]; rw [HN.out.1] at hrm1; exact hrm1, hrm2⟩)
  have HRW : ∀ w', Below w2.heap.size w2 w' → RowV w' (some ⟨g1, 0, none⟩) xs ∧ RowV w' (some ⟨g2, 0, none⟩) ys := fun w' hb => by
    have h := HRM.out
    rw [HN.out.1, HN.out.2] at h
    exact ⟨(h.1.later hb).own, (h.2.later hb).own⟩
  have HRW' := hid HRW
  have HW2 := hid hW2
  clear hb2 hW1 r1 hrm1 hrm2 hg2 HRW
  have HA1 := fun w' hb => HRC w' (Below.on HW2.out hb)
  have HA2 := fun w' hb => HRD w' (Below.on HW2.out hb)
  have HA3 := fun w' (hb : Below w2.heap.size w2 w') => HC w' g1 g2 (HRW'.out w' hb).1 (HRW'.out w' hb).2
  have HA4 := fun w' (hb : Below w2.heap.size w2 w') => HCD w' g1 g2 (HRW'.out w' hb).1 (HRW'.out w' hb).2
  go_wp2_with fail
  refine wp_region_quiet_below (by kernel_rfl) (by kernel_rfl) ?_
  repeat (go_big_quiet_step (first
    | (go_at_call 7; first | with_reducible exact Calls.regrown_of (HA1 _ (below_regrown _ _ _)).out | with_reducible exact Calls.regrown_of (HA2 _ (below_regrown _ _ _)).out)
    | (go_at_call 6; first | with_reducible exact Calls.regrown_of (HA3 _ (below_regrown _ _ _)).out | with_reducible exact Calls.regrown_of (HA4 _ (below_regrown _ _ _)).out)))
  refine wpQuiet_nil ?_
  intro w3 hww3
  replace hww3 := below_of_regrown hww3
  have hW3 : Below w.heap.size w w3 := Below.on HW2.out hww3
  replace k0 := cell_later hww3 k0
  replace k1 := cell_later hww3 k1
  have HZ23 := hid hww3.size
  replace HRM := hid (show Rm w3 g1 (roomF xs) (n + 1) ∧ Rm w3 g2 (roomF ys) (m + 1) from ⟨HRM.out.1.later hww3, HRM.out.2.later hww3⟩)
  clear hww3 hW2 q0 q1 HA1 HA2 HA3 HA4 HRW' HW2
  go_wp2_with fail
  refine (HO1 _ hW3).out.mono ?_
  rintro e w4 ⟨g3, rfl, -, ho3, -, hb4⟩
  have HO3 := hid ho3
  have HB4 := hid hb4
  have HW3 := hid hW3
  have HK3 := hid (show _ ∧ _ from ⟨k0, k1⟩)
  replace k0 := cell_later hb4 k0
  replace k1 := cell_later hb4 k1
  clear ho3 hb4 hW3
  go_wp2_with (at_builtin; refine append_VF rfl _ _ rfl vNull rfl (HO3.out.later (Below.al (Below.refl _ _) _)) HN.out.1 (Nat.le_refl _) (g := w4.heap.size) rfl (newV _ vNull _) ?_; intro w5 ho5 hg5; have hb5 : Below w3.heap.size w3 w5 := OwnV.grown (HO3.out.later (Below.al (Below.refl _ _) _)) hg5 (Below.al HB4.out _) (Nat.le_refl _); clear hg5)
  obtain ⟨a5, ha5⟩ : ∃ a5 : Option Addr, a5 = some ⟨g3, 0, none⟩ := ⟨_, rfl⟩
  obtain ⟨c5, hc5⟩ : ∃ c5, c5 = n + 1 := ⟨_, rfl⟩
  rw [← ha5] at ho5 ⊢
  have e5 : (xs ++ [vNull]).length = n + 1 := by rw [List.length_append, ← HN.out.1]; rfl
  have ho5 : OwnV w5 w3.heap.size (.slice a5 (n + 1) c5) (xs ++ [vNull]) := by rw [hc5]; exact ho5
  rw [show (Value.slice a5 (n + 1) (n + 1)) = .slice a5 (n + 1) c5 by rw [hc5]]
  clear ha5 hc5
  have HW5 := hid (Below.on HW3.out hb5)
  have HRW : ∀ w', Below w5.heap.size w5 w' → (Rm w' g1 (roomF xs) (n + 1) ∧ Rm w' g2 (roomF ys) (m + 1)) ∧ RowV w' a5 (xs ++ [vNull]) := fun w' hb => by
    refine ⟨⟨(HRM.out.1.later hb5).later hb, (HRM.out.2.later hb5).later hb⟩, ?_⟩
    have := ho5.later hb
    rw [← e5] at this
    exact this.row
  have HRO : ∀ w', Below w5.heap.size w5 w' → RowV w' (some ⟨g1, 0, none⟩) xs ∧ RowV w' (some ⟨g2, 0, none⟩) ys := fun w' hb => by
    have h := (HRW w' hb).1
    rw [HN.out.1, HN.out.2] at h
    exact ⟨h.1.own, h.2.own⟩
  have HC1 := fun w' (hb : Below w5.heap.size w5 w') => HCS w' g1 (HRO w' hb).1
  have HC2 := fun w' (hb : Below w5.heap.size w5 w') => HCM w' g1 a5 c5 (HRO w' hb).1 (HRW w' hb).2
  have HC3 := fun w' (hb : Below w5.heap.size w5 w') => HL1 w' g1 (Below.on HW5.out hb) (HRW w' hb).1.1
  have HC4 := fun w' (hb : Below w5.heap.size w5 w') => HL2 w' g2 (Below.on HW5.out hb) (HRW w' hb).1.2
  have HOV := fun w' (hb : Below w5.heap.size w5 w') => hid (over_is (c := n + 1) (n := n) (HRW w' hb).1.1 (by omega) (by omega))
  have HLT := hid (HRM.out.1.lt)
  replace k0 := cell_later hb5 HK3.out.1
  replace k1 := cell_later hb5 HK3.out.2
  have HRO' := hid HRO
  clear ho5 hb5 HRW HRO e5 HO3
  go_wp2_with (first
    | (go_at_call 6; first
        | ((with_reducible refine (HC1 _ (by (repeat (first | with_reducible exact Below.refl _ _ | with_reducible assumption | with_reducible refine Below.drew ?_ | with_reducible refine Below.al ?_ _ | with_reducible refine Below.setCell ?_ (by first | exact Nat.le_refl _ | (simp; omega) | (simp; done)) _ | with_reducible refine Below.on ?_ (by assumption))))).out.mono ?_); rintro e w6 ⟨rfl, hb6⟩; have k0 := cell_later hb6 k0; have k1 := cell_later hb6 k1)
        | ((with_reducible refine (HC2 _ (by (repeat (first | with_reducible exact Below.refl _ _ | with_reducible assumption | with_reducible refine Below.drew ?_ | with_reducible refine Below.al ?_ _ | with_reducible refine Below.setCell ?_ (by first | exact Nat.le_refl _ | (simp; omega) | (simp; done)) _ | with_reducible refine Below.on ?_ (by assumption))))).out.mono ?_); rintro e w7 ⟨rfl, hb7⟩; have k0 := cell_later hb7 k0; have k1 := cell_later hb7 k1))
    | (go_at_call 8; first
        | ((with_reducible refine (HC3 _ (by (repeat (first | with_reducible exact Below.refl _ _ | with_reducible assumption | with_reducible refine Below.drew ?_ | with_reducible refine Below.al ?_ _ | with_reducible refine Below.setCell ?_ (by first | exact Nat.le_refl _ | (simp; omega) | (simp; done)) _ | with_reducible refine Below.on ?_ (by assumption))))).out.mono ?_); rintro e w8 ⟨rfl, hb8⟩; have k0 := cell_later hb8 k0; have k1 := cell_later hb8 k1)
        | ((with_reducible refine (HC4 _ (by (repeat (first | with_reducible exact Below.refl _ _ | with_reducible assumption | with_reducible refine Below.drew ?_ | with_reducible refine Below.al ?_ _ | with_reducible refine Below.setCell ?_ (by first | exact Nat.le_refl _ | (simp; omega) | (simp; done)) _ | with_reducible refine Below.on ?_ (by assumption))))).out.mono ?_); rintro e w9 ⟨rfl, hb9⟩)))
  have hb9' : Below w5.heap.size w5 w9 := by (repeat (first | with_reducible exact Below.refl _ _ | with_reducible assumption | with_reducible refine Below.drew ?_ | with_reducible refine Below.al ?_ _ | with_reducible refine Below.setCell ?_ (by first | exact Nat.le_refl _ | (simp; omega) | (simp; done)) _ | with_reducible refine Below.on ?_ (by assumption)))
  refine (HOV _ hb9').out.mono ?_
  rintro e w10 ⟨rfl, hrow, honl, _⟩
  have HB10 : Hid (Below w.heap.size w w10) := hid (onl_below (Below.on HW5.out hb9') honl (by have := HG1.out; simp at this; omega))
  have hry : RowV w10 (some ⟨g2, 0, none⟩) ys := (HRO'.out w9 hb9').2.onl honl (by have := HNE.out; omega)
  have hko : OkT (overL n) := (overL_ok (by omega)).1
  have hln : (overL n).length = n := overL_len n
  obtain ⟨A, hA⟩ : ∃ A, A = cmpT (overL n) ys := ⟨_, rfl⟩
  obtain ⟨A', hA'⟩ : ∃ A', A' = cmpT ys (overL n) := ⟨_, rfl⟩
  have HX1 : ∀ w', Below w10.heap.size w10 w' → Hid (Calls Try.prog 6 #[.slice (some ⟨g1, 0, none⟩) n (n + 1), .slice (some ⟨g2, 0, none⟩) m (m + 1)] w' fun e w'' => e = .returned (.int .i64 A) ∧ Below w'.heap.size w' w'') := fun w' hb => by
    have := compareF_is (c := n + 1) (d := m + 1) (hrow.later hb) (hry.later hb) hko HT.out.1.2 (by rw [hln]; omega) (by have := HT.out.2.2; omega)
    rw [hln, ← hA, ← HN.out.2] at this; exact hid this
  have HX2 : ∀ w', Below w10.heap.size w10 w' → Hid (Calls Try.prog 7 #[.slice (some ⟨g1, 0, none⟩) n (n + 1), .slice (some ⟨g2, 0, none⟩) m (m + 1)] w' fun e w'' => e = .returned (.int .i64 A) ∧ Below w'.heap.size w' w'') := fun w' hb => by
    have := refcompare_is (c := n + 1) (d := m + 1) (hrow.later hb) (hry.later hb) hko HT.out.1.2 (by rw [hln]; omega) (by have := HT.out.2.2; omega)
    rw [hln, ← hA, ← HN.out.2] at this; exact hid this
  have HX3 : ∀ w', Below w10.heap.size w10 w' → Hid (Calls Try.prog 6 #[.slice (some ⟨g2, 0, none⟩) m (m + 1), .slice (some ⟨g1, 0, none⟩) n (n + 1)] w' fun e w'' => e = .returned (.int .i64 A') ∧ Below w'.heap.size w' w'') := fun w' hb => by
    have := compareF_is (c := m + 1) (d := n + 1) (hry.later hb) (hrow.later hb) HT.out.1.2 hko (by have := HT.out.2.2; omega) (by rw [hln]; omega)
    rw [hln, ← hA', ← HN.out.2] at this; exact hid this
  have HX4 : ∀ w', Below w10.heap.size w10 w' → Hid (Calls Try.prog 7 #[.slice (some ⟨g2, 0, none⟩) m (m + 1), .slice (some ⟨g1, 0, none⟩) n (n + 1)] w' fun e w'' => e = .returned (.int .i64 A') ∧ Below w'.heap.size w' w'') := fun w' hb => by
    have := refcompare_is (c := m + 1) (d := n + 1) (hry.later hb) (hrow.later hb) HT.out.1.2 hko (by have := HT.out.2.2; omega) (by rw [hln]; omega)
    rw [hln, ← hA', ← HN.out.2] at this; exact hid this
  clear hrow honl hry hko hln hA hA' hb9' hb6 hb7 hb8 hb9 HC1 HC2 HC3 HC4 HOV
  go_wp2_with (first
    | (go_at_call 6; first
        | ((with_reducible refine (HX1 _ (by (repeat (first | with_reducible exact Below.refl _ _ | with_reducible assumption | with_reducible refine Below.drew ?_ | with_reducible refine Below.al ?_ _ | with_reducible refine Below.setCell ?_ (by first | exact Nat.le_refl _ | (simp; omega) | (simp; done)) _ | with_reducible refine Below.on ?_ (by assumption))))).out.mono ?_); rintro e w11 ⟨rfl, hb11⟩)
        | ((with_reducible refine (HX3 _ (by (repeat (first | with_reducible exact Below.refl _ _ | with_reducible assumption | with_reducible refine Below.drew ?_ | with_reducible refine Below.al ?_ _ | with_reducible refine Below.setCell ?_ (by first | exact Nat.le_refl _ | (simp; omega) | (simp; done)) _ | with_reducible refine Below.on ?_ (by assumption))))).out.mono ?_); rintro e w13 ⟨rfl, hb13⟩))
    | (go_at_call 7; first
        | ((with_reducible refine (HX2 _ (by (repeat (first | with_reducible exact Below.refl _ _ | with_reducible assumption | with_reducible refine Below.drew ?_ | with_reducible refine Below.al ?_ _ | with_reducible refine Below.setCell ?_ (by first | exact Nat.le_refl _ | (simp; omega) | (simp; done)) _ | with_reducible refine Below.on ?_ (by assumption))))).out.mono ?_); rintro e w12 ⟨rfl, hb12⟩)
        | ((with_reducible refine (HX4 _ (by (repeat (first | with_reducible exact Below.refl _ _ | with_reducible assumption | with_reducible refine Below.drew ?_ | with_reducible refine Below.al ?_ _ | with_reducible refine Below.setCell ?_ (by first | exact Nat.le_refl _ | (simp; omega) | (simp; done)) _ | with_reducible refine Below.on ?_ (by assumption))))).out.mono ?_); rintro e w14 ⟨rfl, hb14⟩)))
  go_ret
  exact ⟨rfl, Below.on (Below.on (Below.on (Below.on HB10.out hb11) hb12) hb13) hb14⟩
end Go.Proofs.Ytfafkohghgliaaa.Tu
