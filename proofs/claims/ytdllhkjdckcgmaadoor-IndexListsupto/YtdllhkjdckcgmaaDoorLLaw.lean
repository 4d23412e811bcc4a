import Derived.Test.YtdllhkjdckcgmaaDoorLLawP
namespace Go.Proofs.YtdllhkjdckcgmaaDoor
open Go.RowKit Go.Sort
set_option linter.unusedVariables false

theorem OpAt.loose {w : World} {q : Nat} {x : Ao} (h : OpAt w q x) (o : Nat) : w.frozen? ⟨q, o, none⟩ = false := by
  have h1 : w.heap[q]? = some (.cells (opC x) 33 (0, 0)) := h
  simp [World.frozen?, h1]
/-- a step is laid over another -/
abbrev putO (w : World) (q : Nat) (x : Ao) : World := (((((w.setCell ⟨q, 0, none⟩ (.int .i64 x.k)).setCell ⟨q, 1, none⟩ (.int .i64 x.pl)).setCell ⟨q, 2, none⟩ (.string x.key)).setCell ⟨q, 3, none⟩ (.string x.hi)).setCell ⟨q, 4, none⟩ (.int .i64 x.v)).setCell ⟨q, 5, none⟩ (.int .i64 x.st)
theorem op_put {w : World} {q : Nat} {y : Ao} (h : OpAt w q y) (x : Ao) : OpAt (putO w q x) q x := by
  have h0 := heap_setCell_same w q 0 _ _ (.int .i64 x.k) h
  have h1 := heap_setCell_same _ q 1 _ _ (.int .i64 x.pl) h0
  have h2 := heap_setCell_same _ q 2 _ _ (.string x.key) h1
  have h3 := heap_setCell_same _ q 3 _ _ (.string x.hi) h2
  have h4 := heap_setCell_same _ q 4 _ _ (.int .i64 x.v) h3
  exact heap_setCell_same _ q 5 _ _ (.int .i64 x.st) h4
theorem op_put_below {w0 w : World} {q : Nat} (h : Below w0.heap.size w0 w) (hq : w0.heap.size ≤ q) (x : Ao) : Below w0.heap.size w0 (putO w q x) :=
  Below.setCell (p := ⟨q, 5, none⟩) (Below.setCell (p := ⟨q, 4, none⟩) (Below.setCell (p := ⟨q, 3, none⟩) (Below.setCell (p := ⟨q, 2, none⟩) (Below.setCell (p := ⟨q, 1, none⟩) (Below.setCell (p := ⟨q, 0, none⟩) h hq _) hq _) hq _) hq _) hq _) hq _
/-- the law's state -/
structure StL (W wr : World) (L k : Nat) (v : Value) (l : List En2) : Prop where
  two : Twos W wr L k
  book : Bk W.heap.size wr v l
  many : l.length ≤ 4 * k
  some : 0 < k → 0 < l.length
  below : Below W.heap.size W wr
theorem StL.later {W w w' : World} {L k : Nat} {v : Value} {l : List En2} (h : StL W w L k v l) (hb : Below w.heap.size w w') : StL W w' L k v l := by
  obtain ⟨a, b, ht, ha, hb'⟩ := h.two
  exact ⟨⟨a, b, ht.later hb, ha, hb'⟩, h.book.later hb, h.many, h.some, Below.on h.below hb⟩
theorem StL.up {W w : World} {L k : Nat} {v : Value} {l : List En2} (h : StL W w L k v l) (h0 : 0 < k) : StL W w L (k + 1) v l := by
  obtain ⟨a, b, ht, ha, hb'⟩ := h.two
  have := h.many
  exact ⟨⟨a, b, ht, by omega, by omega⟩, h.book, by omega, fun _ => h.some h0, h.below⟩

set_option maxRecDepth 100000 in
set_option maxHeartbeats 8000000 in
theorem lists_law {W : World} {a : Option Addr} {c : Nat} {l : List Ao} (hP : PowTab W) (hR : RowO W a l) (hn : l.length ≤ 149797) (hc : l.length ≤ c) (hsz : ∀ x ∈ l, x.key.size ≤ 1048576) :
    Calls Tryd.prog 3 #[.slice a l.length c] W fun e w' => e = .returned (.bool true) ∧ Below W.heap.size W w' := by
  have HP := hid hP
  have HR := hid hR
  have FR := hid (fresh_is W)
  have HZ := hid hsz
  clear hsz hR hP
  go_enter Tryd.func3, Tryd.ntmps3
  go_upto_region 2 with (go_at_call 4; refine FR.out.mono ?_; rintro e w1 ⟨x0, d0, x1, d1, rfl, hf0, hf1, hx, hb1⟩; have hf0 := hid hf0; have hf1 := hid hf1; have hx := hid hx; have hb1 := hid hb1)
  obtain ⟨L, hL⟩ : ∃ L, L = w1.heap.size := ⟨_, rfl⟩
  obtain ⟨w2, hw2⟩ : ∃ w2, w2 = w1.alloc (.cells #[pt x0, pt d0, pt x1, pt d1] 27) := ⟨_, rfl⟩
  have HB2 : Hid (Below W.heap.size W w2) := by show Below _ _ _; rw [hw2]; exact Below.al hb1.out _
  have HT2 : Two w2 W.heap.size L [] [] := by
    have hb0 : Below w1.heap.size w1 (w1.alloc (.cells #[pt x0, pt d0, pt x1, pt d1] 27)) := Below.al (Below.refl _ _) _
    rw [hL, hw2]
    exact Two.fresh (hf0.out.later hb0) (hf1.out.later hb0) hx.out (World.alloc_heap_new w1 _) hb1.out.size
  rw [← hL, ← hw2]
  clear FR hf0 hf1 hx hb1
  clear hf0 hf1 hx hb1 hL hw2
  obtain ⟨x, d, cx, FS⟩ := lists_first HT2 HB2.out.size ⟨#[102, 105, 114, 115, 116]⟩ 1
  clear HT2
  go_wp2_with (first
    | (go_at_call 5; refine FS.out.mono ?_; rintro e w3 ⟨rfl, cd, RS⟩)
    | (go_at_call 6; refine RS.out.mono ?_; rintro e w4 ⟨rfl, HT4, HB4⟩))
  have HS0 : Hid (StL W w4 L 0 (.slice none 0 0) []) := by
    obtain ⟨a', hl', ht'⟩ := HT4.out
    exact ⟨⟨a', [], ht', hl', by simp⟩, ⟨World.ownsRow_nil _ _ _ _, fun e he => by cases he⟩, by simp, fun h => by omega, HB2.out.trans HB4.out⟩
  clear HT4 HB4 FS HB2 cx
  go_loopg [5, 6] (l.length + 1) (fun g s5 s6 wr => ∃ (k : Nat) (bk : List En2), k ≤ l.length + 1 ∧ g = l.length + 1 - k ∧ s6 = .int .i64 ((k : Int) - 1) ∧ Hid (StL W wr L k s5 bk))
  case atStart => exact ⟨0, [], by omega, by omega, by simp, HS0⟩
  case round =>
    obtain ⟨k, bk, hk, rfl, rfl, HS⟩ := hrel
    clear HS0
    obtain ⟨v5, hv5⟩ : ∃ v5, v5 = u5 := ⟨_, rfl⟩
    rw [← hv5] at HS ⊢
    clear hv5
    by_cases hlt : k < l.length + 1
    · have p0 : decide ((k : Int) - 1 < (l.length : Int)) = true := decide_eq_true (by omega)
      go_upto_if 41 with fail
      obtain ⟨wA, hwA⟩ : ∃ wA, wA = wr.alloc (.cells #[.int .i64 8, .int .i64 0, .string ⟨#[]⟩, .string ⟨#[]⟩, .int .i64 0, .int .i64 0] 33) := ⟨_, rfl⟩
      obtain ⟨q, hq⟩ : ∃ q, q = wr.heap.size := ⟨_, rfl⟩
      have HA : Hid (Below wr.heap.size wr wA) := by show Below _ _ _; rw [hwA]; exact Below.al (Below.refl _ _) _
      have HO : Hid (OpAt wA q ⟨8, 0, ⟨#[]⟩, ⟨#[]⟩, 0, 0⟩) := by show OpAt _ _ _; rw [hwA, hq]; exact op_new wr ⟨8, 0, ⟨#[]⟩, ⟨#[]⟩, 0, 0⟩
      have HQ : Hid (wr.heap.size ≤ q) := by show _ ≤ _; rw [hq]; exact Nat.le_refl _
      rw [← hwA, ← hq]
      clear hwA hq
      go_cut [6] (fun s6 wx => s6 = .int .i64 ((k : Int) - 1) ∧ ∃ x : Ao, Hid (OpAt wx q x) ∧ Hid (k = 0 → x.k = 8 ∧ x.pl = 0) ∧ Hid (x.key.size ≤ 1048576) ∧ Hid (Below wr.heap.size wr wx))
      case first =>
        by_cases hk0 : k = 0
        · subst hk0
          have p1 : decide ((1 : Int) ≤ ((0 : Nat) : Int)) = false := rfl
          go_wp2_with fail
          go_meet
          exact ⟨rfl, ⟨8, 0, ⟨#[]⟩, ⟨#[]⟩, 0, 0⟩, HO, fun _ => ⟨rfl, rfl⟩, hid (by decide), HA⟩
        · obtain ⟨j, rfl⟩ : ∃ j, k = j + 1 := ⟨k - 1, by omega⟩
          have p1 : decide ((1 : Int) ≤ ((j + 1 : Nat) : Int)) = true := decide_eq_true (by omega)
          have e1 : (((j + 1 : Nat) : Int) - 1) = (j : Int) := by omega
          have hj : j < l.length := by omega
          obtain ⟨b, off, rfl, d0, d1, d2, d3, d4, d5⟩ := HR.out j hj
          have HM := hid (HZ.out _ (nthO_mem hj))
          obtain ⟨x, hx⟩ : ∃ x, x = nthO l j := ⟨_, rfl⟩
          rw [← hx] at d0 d1 d2 d3 d4 d5 HM
          clear hx
          rw [e1]
          have e0 := cell_later (Below.on HS.out.below HA.out) d0
          have e2 := cell_later (Below.on HS.out.below HA.out) d1
          have e3 := cell_later (Below.on HS.out.below HA.out) d2
          have e4 := cell_later (Below.on HS.out.below HA.out) d3
          have e5 := cell_later (Below.on HS.out.below HA.out) d4
          have e6 := cell_later (Below.on HS.out.below HA.out) d5
          have q0 := HO.out.c0
          have q1 := HO.out.c1
          have q2 := HO.out.c2
          have q3 := HO.out.c3
          have q4 := HO.out.c4
          have q5 := HO.out.c5
          have f0 : ∀ o, wA.frozen? ⟨q, o, none⟩ = false := HO.out.loose
          have E1 := hid e1
          clear d0 d1 d2 d3 d4 d5 e1 p0
          go_wp2_with fail
          go_meet
          exact ⟨by rw [E1.out], x, hid (op_put HO.out x), hid (fun h => by omega), HM, hid (op_put_below HA.out HQ.out x)⟩
      case rest =>
        obtain ⟨rfl, x, HOP, HX0, HXS, HBX⟩ := hcut
        have HSc := hid (HS.out.later HBX.out)
        clear HS HO HA HQ
        have c0 := HOP.out.c0
        have c1 := HOP.out.c1
        have c2 := HOP.out.c2
        have c3 := HOP.out.c3
        have c4 := HOP.out.c4
        have c5 := HOP.out.c5
        obtain ⟨xk, xp, xa, xb, xv, xs⟩ := x
        dsimp only at c0 c1 c2 c3 c4 c5 HX0 HXS
        by_cases hm : xp < 0
        · have p1 : decide (xp < 0) = true := decide_eq_true hm
          have HU := hid (HSc.out.up (by have h1 := HX0.out; omega))
          clear hm c0 c2 c3 c4 c5
          go_wp2_with fail
          go_roundg (l.length + 1 - (k + 1))
          case measure => omega
          case rel => exact ⟨k + 1, bk, by omega, rfl, by congr 1; omega, HU⟩
        by_cases hg : 1 < xp
        · have p1 : decide (xp < 0) = false := decide_eq_false hm
          have p2 : decide (1 < xp) = true := decide_eq_true hg
          have HU := hid (HSc.out.up (by have h1 := HX0.out; omega))
          clear hm hg c0 c2 c3 c4 c5
          go_wp2_with fail
          go_roundg (l.length + 1 - (k + 1))
          case measure => omega
          case rel => exact ⟨k + 1, bk, by omega, rfl, by congr 1; omega, HU⟩
        have p1 : decide (xp < 0) = false := decide_eq_false hm
        have p2 : decide (1 < xp) = false := decide_eq_false hg
        obtain ⟨pl, rfl⟩ : ∃ pl : Nat, xp = pl := ⟨xp.toNat, by omega⟩
        have hpl : pl < 2 := by omega
        obtain ⟨la, lb, HT, ga, gb⟩ := HSc.out.two
        have CH := hid (lists_chain (o := pl * 2) HT ga gb (by omega) HOP.out HSc.out.below.size (by omega) HXS.out)
        clear hm hg HT ga gb la lb
        go_upto_region 15 with (first
          | (go_at_call 7; refine CH.out.mono ?_; rintro e w5 ⟨rfl, o5, AS⟩; have z0 := o5.c0; have z1 := o5.c1; have z2 := o5.c2; have z3 := o5.c3; have z4 := o5.c4; have z5 := o5.c5; dsimp only at z0 z1 z2 z3 z4 z5; have o5 := hid o5)
          | (go_at_call 8; refine AS.out.mono ?_; rintro e w6 ⟨rfl, ST⟩))
        have HB6 := hid (HSc.out.book.kpl ST.out.keep)
        have H26 : Hid (Twos W w6 L (k + 1)) := ST.out.two
        have HW6 := hid (HSc.out.below.trans ST.out.below)
        have HMA := hid HSc.out.many
        have HSO := hid HSc.out.some
        have y0 := ST.out.box.c0
        have y1 := ST.out.box.c1
        have y2 := ST.out.box.c2
        have y3 := ST.out.box.c3
        have y4 := ST.out.box.c4
        have y5 := ST.out.box.c5
        dsimp only at y0 y1 y2 y3 y4 y5
        clear c0 c1 c2 c3 c4 c5 z0 z1 z2 z3 z4 z5 o5 AS CH ST HSc HOP HBX p1 p2
        by_cases h8 : xk = 8
        · subst h8
          obtain ⟨la, lb, HT, ga, gb⟩ := H26.out
          obtain ⟨x', d', m, T, gx, gd, HM, hm, KX, KD⟩ := lists_keys (o := pl * 2) HT ga gb (by omega) ⟨8, pl, xa, xb, xv, xs⟩ (by omega)
          clear HT ga gb la lb
          dsimp only at KX KD
          have SP : Hid (∀ W' : World, Calls Tryd.prog 10 #[.agg #[.int .i64 8, .int .i64 (pl : Int), .string xa, .string xb, .int .i64 xv, .int .i64 xs]] W' fun e w' => e = .returned (.agg #[.string xa, .string xb]) ∧ Below W'.heap.size W' w') := fun W' => (span_is W' ⟨8, pl, xa, xb, xv, xs⟩).mono fun e w' hh => ⟨hh.1, hh.2⟩
          go_wp2_with fail
          go_region_held3 (fun w' => w'.cell? ⟨L, pl * 2, none⟩ = some (pt x') ∧ w'.cell? ⟨q, 0, none⟩ = some (.int .i64 8) ∧ w'.cell? ⟨q, 1, none⟩ = some (.int .i64 (pl : Int)) ∧ w'.cell? ⟨q, 2, none⟩ = some (.string xa) ∧ w'.cell? ⟨q, 3, none⟩ = some (.string xb) ∧ w'.cell? ⟨q, 4, none⟩ = some (.int .i64 xv) ∧ w'.cell? ⟨q, 5, none⟩ = some (.int .i64 xs) ∧ Below w6.heap.size w6 w')
            ((refine (fun (hB : Below w6.heap.size w6 _) => ⟨cell_later hB gx, cell_later hB y0, cell_later hB y1, cell_later hB y2, cell_later hB y3, cell_later hB y4, cell_later hB y5, hB⟩) ?_; (repeat (first | exact Below.refl _ _ | assumption | refine Below.drew ?_ | refine Below.al ?_ _ | refine Below.setCell ?_ (by first | exact Nat.le_refl _ | (simp; omega) | (simp; done)) _ | refine Below.on ?_ (by assumption)))))
            (first
              | (go_at_call 10; refine (SP.out _).mono ?_; rintro e w7s ⟨rfl, hb7s⟩)
              | (go_at_call 9; refine (KX.out _ ?_).mono ?_; ((repeat (first | exact Below.refl _ _ | assumption | refine Below.drew ?_ | refine Below.al ?_ _ | refine Below.setCell ?_ (by first | exact Nat.le_refl _ | (simp; omega) | (simp; done)) _ | refine Below.on ?_ (by assumption)))); rintro e w7 ⟨ka, kc, rfl, ho7, hb7⟩))
          have HB7 : Hid (Below w6.heap.size w6 w7) := Below.on (Below.on (Below.drew (Below.refl _ _)) hb7s) hb7
          have g7 := cell_later HB7.out gx
          have g8 := cell_later HB7.out gd
          have t0 := cell_later HB7.out y0
          have t1 := cell_later HB7.out y1
          have t2 := cell_later HB7.out y2
          have t3 := cell_later HB7.out y3
          have t4 := cell_later HB7.out y4
          have t5 := cell_later HB7.out y5
          have KX7 : Hid (∀ W', Below w7.heap.size w7 W' → Calls Tryd.prog 9 #[pt x', .agg #[.string xa, .string xb]] W' fun e w' => ∃ ka kc, e = .returned (.slice ka m kc) ∧ Hid (OwnT w' W'.heap.size (.slice ka m kc) T ∧ w7.heap.size ≤ W'.heap.size) ∧ Below W'.heap.size W' w') := fun W' hb => (KX.out W' (Below.on HB7.out hb)).mono fun e w' ⟨ka, kc, he, ho, hb'⟩ => ⟨ka, kc, he, ⟨ho.out, hb.size⟩, hb'⟩
          clear hb7 hb7s gx gd y0 y1 y2 y3 y4 y5 KX
          go_wp2_with fail
          go_region_held3 (fun w' => w'.cell? ⟨L, pl * 2, none⟩ = some (pt x') ∧ w'.cell? ⟨q, 0, none⟩ = some (.int .i64 8) ∧ w'.cell? ⟨q, 1, none⟩ = some (.int .i64 (pl : Int)) ∧ w'.cell? ⟨q, 2, none⟩ = some (.string xa) ∧ w'.cell? ⟨q, 3, none⟩ = some (.string xb) ∧ w'.cell? ⟨q, 4, none⟩ = some (.int .i64 xv) ∧ w'.cell? ⟨q, 5, none⟩ = some (.int .i64 xs) ∧ Below w7.heap.size w7 w')
            ((refine (fun (hB : Below w7.heap.size w7 _) => ⟨cell_later hB g7, cell_later hB t0, cell_later hB t1, cell_later hB t2, cell_later hB t3, cell_later hB t4, cell_later hB t5, hB⟩) ?_; (repeat (first | exact Below.refl _ _ | assumption | refine Below.drew ?_ | refine Below.al ?_ _ | refine Below.setCell ?_ (by first | exact Nat.le_refl _ | (simp; omega) | (simp; done)) _ | refine Below.on ?_ (by assumption)))))
            (first
              | (go_at_call 10; refine (SP.out _).mono ?_; rintro e w8s ⟨rfl, hb8s⟩)
              | (go_at_call 9; refine (KX7.out _ ?_).mono ?_; ((repeat (first | exact Below.refl _ _ | assumption | refine Below.drew ?_ | refine Below.al ?_ _ | refine Below.setCell ?_ (by first | exact Nat.le_refl _ | (simp; omega) | (simp; done)) _ | refine Below.on ?_ (by assumption)))); rintro e w8 ⟨kb, kd, rfl, ho8, hb8⟩))
          have HB8 : Hid (Below w7.heap.size w7 w8) := Below.on (Below.on (Below.drew (Below.refl _ _)) hb8s) hb8
          have g9 := cell_later HB8.out g8
          have s0 := cell_later HB8.out t0
          have s1 := cell_later HB8.out t1
          have s2 := cell_later HB8.out t2
          have s3 := cell_later HB8.out t3
          have s4 := cell_later HB8.out t4
          have s5 := cell_later HB8.out t5
          clear hb8 hb8s g7 g8 t0 t1 t2 t3 t4 t5 KX7
          have KD8 : Hid (∀ W', Below w8.heap.size w8 W' → Calls Tryd.prog 12 #[pt d', .agg #[.string xa, .string xb]] W' fun e w' => ∃ ka kc, e = .returned (.slice ka m kc) ∧ Hid (RowT w' ka T) ∧ Below W'.heap.size W' w') := fun W' hb => KD.out W' (Below.on (Below.on HB7.out HB8.out) hb)
          have SM : Hid (∀ W' ka kc kb kd, RowT W' ka T → RowT W' kb T → Below w8.heap.size w8 W' → Calls Tryd.prog 11 #[.slice ka m kc, .slice kb m kd] W' fun e w' => e = .returned (.bool true) ∧ Below W'.heap.size W' w') := fun W' ka kc kb kd h1 h2 hb => by
            rw [HM.out]
            exact (same_is (decide_eq_true rfl) h1 h2 (by have := HM.out; omega)).mono fun e w' ⟨he, hb'⟩ => ⟨he, hb'⟩
          have RA : Hid (RowT w8 ka T) := by
            obtain ⟨a1, c1, e1, r1⟩ := rowT_of_owns (ho7.out.later HB8.out)
            injection e1 with e1 _ _
            rw [e1]; exact r1
          have RB : Hid (RowT w8 kb T) := by
            obtain ⟨a1, c1, e1, r1⟩ := rowT_of_owns ho8.out.1
            injection e1 with e1 _ _
            rw [e1]; exact r1
          go_wp2_with fail
          go_region_held3 (fun w' => w'.cell? ⟨L, pl * 2 + 1, none⟩ = some (pt d') ∧ w'.cell? ⟨q, 0, none⟩ = some (.int .i64 8) ∧ w'.cell? ⟨q, 1, none⟩ = some (.int .i64 (pl : Int)) ∧ w'.cell? ⟨q, 2, none⟩ = some (.string xa) ∧ w'.cell? ⟨q, 3, none⟩ = some (.string xb) ∧ w'.cell? ⟨q, 4, none⟩ = some (.int .i64 xv) ∧ w'.cell? ⟨q, 5, none⟩ = some (.int .i64 xs) ∧ Below w8.heap.size w8 w')
            ((refine (fun (hB : Below w8.heap.size w8 _) => ⟨cell_later hB g9, cell_later hB s0, cell_later hB s1, cell_later hB s2, cell_later hB s3, cell_later hB s4, cell_later hB s5, hB⟩) ?_; (repeat (first | exact Below.refl _ _ | assumption | refine Below.drew ?_ | refine Below.al ?_ _ | refine Below.setCell ?_ (by first | exact Nat.le_refl _ | (simp; omega) | (simp; done)) _ | refine Below.on ?_ (by assumption)))))
            (first
              | (go_at_call 10; refine (SP.out _).mono ?_; rintro e w9s ⟨rfl, hb9s⟩)
              | (go_at_call 12; refine (KD8.out _ ?_).mono ?_; ((repeat (first | exact Below.refl _ _ | assumption | refine Below.drew ?_ | refine Below.al ?_ _ | refine Below.setCell ?_ (by first | exact Nat.le_refl _ | (simp; omega) | (simp; done)) _ | refine Below.on ?_ (by assumption)))); rintro e w9k ⟨ke, kf, rfl, hr9, hb9k⟩)
              | (go_at_call 11; refine (SM.out _ _ _ _ _ (RowT.later RA.out (by (repeat (first | exact Below.refl _ _ | assumption | refine Below.drew ?_ | refine Below.al ?_ _ | refine Below.setCell ?_ (by first | exact Nat.le_refl _ | (simp; omega) | (simp; done)) _ | refine Below.on ?_ (by assumption))))) ?_ (by (repeat (first | exact Below.refl _ _ | assumption | refine Below.drew ?_ | refine Below.al ?_ _ | refine Below.setCell ?_ (by first | exact Nat.le_refl _ | (simp; omega) | (simp; done)) _ | refine Below.on ?_ (by assumption))))).mono ?_; (first | exact RowT.later hr9.out (by (repeat (first | exact Below.refl _ _ | assumption | refine Below.drew ?_ | refine Below.al ?_ _ | refine Below.setCell ?_ (by first | exact Nat.le_refl _ | (simp; omega) | (simp; done)) _ | refine Below.on ?_ (by assumption)))) | exact RowT.later RB.out (by (repeat (first | exact Below.refl _ _ | assumption | refine Below.drew ?_ | refine Below.al ?_ _ | refine Below.setCell ?_ (by first | exact Nat.le_refl _ | (simp; omega) | (simp; done)) _ | refine Below.on ?_ (by assumption))))); rintro e w9 ⟨rfl, hb9⟩))
          rename_i hHeldX
          have HB9 : Hid (Below w8.heap.size w8 w9) := hHeldX.2.2.2.2.2.2.2
          have HTL : Hid (T.length ≤ 900000) := by show _ ≤ _; have h1 := HM.out; omega
          have KE := hid (kept_at (kc := kc) HM.out (ho7.out.later (Below.on HB8.out HB9.out)) (by have h1 := HTL.out; omega))
          have H96 := hid (Below.on (Below.on HB7.out HB8.out) HB9.out)
          clear hHeldX hb9 hb9s hb9k hr9 g9 s0 s1 s2 s3 s4 s5 KD KD8 SM RA RB SP hm
          go_wp2_with fail
          refine KE.out.mono ?_
          rintro e w10 ⟨a5, c5, rfl, ho10, hb10⟩
          have HB10 := hid hb10
          have HOA : Hid (OwnW2 (w10.alloc (.cells #[.slice ka m kc, .slice a5 m c5] 44)) W.heap.size v5 bk) := HB6.out.own.later (Below.al (Below.on H96.out hb10) _)
          have HL1 : Hid ((bk.length + 1) * 64 ≤ 140737488355328) := by show _ ≤ _; have h1 := HMA.out; omega
          have HL2 : Hid (W.heap.size ≤ (w10.alloc (.cells #[.slice ka m kc, .slice a5 m c5] 44)).heap.size) := by show _ ≤ _; have h1 := HW6.out.size; have h2 := (Below.on H96.out hb10).size; rw [World.size_alloc]; omega
          clear hb10 KE
          go_upto_region 21 with (at_builtin; refine append_W2 rfl _ _ rfl (.slice ka m kc, .slice a5 m c5) rfl HOA.out rfl (new2v _ _ _ _).1 (new2v _ _ _ _).2 rfl rfl HL1.out HL2.out ?_; intro v11 w11 ho11 hg11 hn11)
          have AF := hid (aft_of H26.out HB6.out HW6.out HB7.out ho7.out HB8.out ho8.out.1 ho8.out.2 (Below.on HB9.out HB10.out) ho10.out HB9.out.size HTL.out hg11 ho11)
          clear ho11 hg11 hn11 HOA HL1 HL2 ho10 ho7 ho8 HB7 HB8 HB9 HB10 H96 HB6 H26 HW6
          have MK := hid (marked_is HP.out AF.out.below AF.out.own ((k : Int) - 1) (by omega) (by omega) HTL.out)
          go_wp2_with fail
          refine MK.out.mono ?_
          rintro e w12 ⟨va, e1, e2, e3, rfl, ho12, he12, hg12⟩
          obtain ⟨g9, c9, rfl⟩ : ∃ g9 c9, va = .slice (some ⟨g9, 0, none⟩) 3 c9 := by
            rcases ho12.2 with ⟨_, h0⟩ | ⟨g, cap, _, h1, _⟩
            · simp at h0
            · exact ⟨g, cap, h1⟩
          obtain ⟨es, hes⟩ : ∃ es, es = [e1, e2, e3] := ⟨_, rfl⟩
          have HEL : Hid (es.length = 3) := by show _ = _; rw [hes]; rfl
          have LP : Hid (Lp W w12 L (k + 1) v11 (bk ++ [(.slice ka m kc, .slice a5 m c5)]) es g9 c9) := by rw [hes]; exact lp_of AF.out hg12 ho12 he12
          obtain ⟨b1, hb1⟩ : ∃ b1, b1 = bk ++ [(Value.slice ka m kc, Value.slice a5 m c5)] := ⟨_, rfl⟩
          have HBL : Hid (b1.length = bk.length + 1) := by show _ = _; rw [hb1, List.length_append]; rfl
          rw [← hb1] at LP
          clear hb1 hes ho12 he12 hg12 AF MK HTL
          go_wp2_with fail
          go_loopg [5, 112] 3 (fun g s5 s112 wr => ∃ j : Nat, j ≤ 3 ∧ g = 3 - j ∧ s112 = .int .i64 j ∧ Hid (Lp W wr L (k + 1) s5 (b1 ++ es.take j) es g9 c9))
          case atStart => exact ⟨0, by omega, rfl, rfl, by show Lp _ _ _ _ _ _ _ _ _; rw [List.take_zero, List.append_nil]; exact LP.out⟩
          case round =>
            obtain ⟨j, hj, rfl, rfl, HLP⟩ := hrel
            clear LP
            obtain ⟨v6, hv6⟩ : ∃ v6, v6 = u5 := ⟨_, rfl⟩
            rw [← hv6] at HLP ⊢
            clear hv6
            by_cases hj3 : j < 3
            · have hjl : j < es.length := by have h1 := HEL.out; omega
              obtain ⟨ra, rc, er, hrow⟩ := HLP.out.row.row
              obtain ⟨rb, eb, d0, d1⟩ := hrow j hjl
              rw [eb] at er
              injection er with er hz1 hz2
              injection er with er
              injection er with er hz3 hz4
              subst er
              clear hz1 hz2 hz3 hz4
              have HEM := hid (nthW2_mem hjl)
              have HTK : Hid (b1 ++ es.take (j + 1) = b1 ++ es.take j ++ [nthW2 es j]) := by show _ = _; rw [nthW2_take hjl, List.append_assoc]
              have HEN := HLP.out.ents _ (nthW2_mem hjl)
              obtain ⟨x, hx⟩ : ∃ x, x = nthW2 es j := ⟨_, rfl⟩
              rw [← hx] at d0 d1 HEM HTK HEN
              clear hx hrow eb
              obtain ⟨x1, x2⟩ := x
              obtain ⟨U, hU, o1, o2⟩ := HEN
              obtain ⟨m1, m2, rfl, _⟩ := OwnT.slice o1
              obtain ⟨m3, m4, rfl, _⟩ := OwnT.slice o2
              dsimp only at d0 d1
              have HOA : Hid (OwnW2 (wr.alloc (.cells #[.slice m1 U.length m2, .slice m3 U.length m4] 44)) W.heap.size v6 (b1 ++ es.take j)) := HLP.out.book.own.later (Below.al (Below.refl _ _) _)
              have HL1 : Hid (((b1 ++ es.take j).length + 1) * 64 ≤ 140737488355328) := by show _ ≤ _; rw [List.length_append, List.length_take]; have h1 := HMA.out; have h2 := HBL.out; omega
              have HL2 : Hid (W.heap.size ≤ (wr.alloc (.cells #[.slice m1 U.length m2, .slice m3 U.length m4] 44)).heap.size) := by show _ ≤ _; have h1 := HLP.out.below.size; rw [World.size_alloc]; omega
              clear o1 o2 hU hjl
              go_wp2_with (at_builtin; refine append_W2 rfl _ _ rfl (.slice m1 U.length m2, .slice m3 U.length m4) rfl HOA.out rfl (new2v _ _ _ _).1 (new2v _ _ _ _).2 rfl rfl HL1.out HL2.out ?_; intro v7 w7 ho7 hg7 hn7)
              have HN := hid (HLP.out.step hg7 ho7 HEM.out hn7)
              go_roundg (3 - (j + 1))
              case measure => omega
              case rel => exact ⟨j + 1, by omega, rfl, by go_num, by rw [HTK.out]; exact HN.out⟩
            · obtain rfl : j = 3 := by omega
              have HLQ : Hid (Lp W wr L (k + 1) v6 (b1 ++ es) es g9 c9) := by
                have h1 := HLP.out
                rw [List.take_of_length_le (by rw [HEL.out]; omega)] at h1
                exact h1
              have HLN : Hid ((b1 ++ es).length ≤ 4 * (k + 1) ∧ 0 < (b1 ++ es).length) := by show _ ∧ _; rw [List.length_append, HEL.out, HBL.out]; have h1 := HMA.out; omega
              clear HLP hj3 hj
              obtain ⟨b2, hb2⟩ : ∃ b2, b2 = b1 ++ es := ⟨_, rfl⟩
              rw [← hb2] at HLQ HLN
              clear hb2
              obtain ⟨ba, bc, rfl, hrow⟩ := HLQ.out.book.own.row
              have SI := hid (still_is (c := bc) hrow HLQ.out.book.ent (by have h1 := HLN.out.1; omega))
              clear hrow
              go_wp2_with (go_at_call 15; refine SI.out.mono ?_; rintro e w13 ⟨rfl, hb13⟩)
              go_roundg (l.length + 1 - (k + 1))
              case measure => omega
              case rel => exact ⟨k + 1, b2, by omega, rfl, by congr 1; omega, ⟨HLQ.out.two.later hb13, HLQ.out.book.later hb13, HLN.out.1, fun _ => HLN.out.2, Below.on HLQ.out.below hb13⟩⟩
        · have q8 : (xk == 8) = false := by simpa using h8
          have HK0 : Hid (0 < k) := by show 0 < k; have h1 := HX0.out; omega
          obtain ⟨ba, bc, rfl, hrow⟩ := HB6.out.own.row
          have SI := hid (still_is (c := bc) hrow HB6.out.ent (by have h1 := HMA.out; omega))
          clear hrow h8 y1 y2 y3 y4 y5 HX0
          go_wp2_with (go_at_call 15; refine SI.out.mono ?_; rintro e w7 ⟨rfl, hb7⟩)
          go_roundg (l.length + 1 - (k + 1))
          case measure => omega
          case rel => exact ⟨k + 1, bk, by omega, rfl, by congr 1; omega, ⟨H26.out.later hb7, HB6.out.later hb7, by have h1 := HMA.out; omega, fun _ => HSO.out HK0.out, Below.on HW6.out hb7⟩⟩
    · obtain rfl : k = l.length + 1 := by omega
      have p0 : decide (((l.length + 1 : Nat) : Int) - 1 < (l.length : Int)) = false := decide_eq_false (by omega)
      obtain ⟨ba, bc, rfl, hrow⟩ := HS.out.book.own.row
      have hp3 : Hid (0 < bk.length) := HS.out.some (by omega)
      clear hrow
      go_wp2_with fail
      go_ret
      exact ⟨by simp; exact hp3.out, HS.out.below⟩

end Go.Proofs.YtdllhkjdckcgmaaDoor
