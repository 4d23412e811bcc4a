import Derived.Test.YtiheilkjlapoiaaFeAlive
import Derived.Laws.AppendOwnNone
/- The law. -/
namespace Go.Proofs.Ytiheilkjlapoiaa.Lg
open Go.RowKit Go.Sort Go.Shelf Go.Lib Lk
set_option linter.unusedVariables false

/-- a step -/
structure Sp where
  kd : Int
  fd : Int
  at' : Int
  fr : Sm
  tt : Sm
abbrev Sp.cs (s : Sp) : List Value := [.int .i64 s.kd, .int .i64 s.fd, .int .i64 s.at', .int .u64 s.fr.w, .int .u32 s.fr.l, .int .u32 s.fr.n, .int .u64 s.tt.w, .int .u32 s.tt.l, .int .u32 s.tt.n]
abbrev Sp.zero : Sp := ⟨0, 0, 0, ⟨0, 0, 0⟩, ⟨0, 0, 0⟩⟩
abbrev topS : Sm := ⟨18446744073709551615, 4294967295, 4294967295⟩
def nthS (xs : List Sp) (i : Nat) : Sp := (xs[i]?).getD Sp.zero
def RowSp (w : World) (a : Option Addr) (xs : List Sp) : Prop :=
  ∀ i, i < xs.length → ∃ b off, a = some ⟨b, off, none⟩ ∧ (∀ j v, (nthS xs i).cs[j]? = some v → w.cell? ⟨b, off + i * 9 + j, none⟩ = some v) ∧ lesS topS (nthS xs i).tt = false
theorem RowSp.later {w w' : World} {a : Option Addr} {xs : List Sp} (h : RowSp w a xs) (hb : Below w.heap.size w w') : RowSp w' a xs := fun i hi => by
  obtain ⟨b, off, e, hc, hr⟩ := h i hi
  exact ⟨b, off, e, fun j v hj => cell_later hb (hc j v hj), hr⟩
set_option maxRecDepth 100000 in
set_option maxHeartbeats 4000000 in
theorem law_splits {ra sa : Option Addr} {rn rc sn sc : Nat} {Xs : List Rs} {Ss : List Sp} {w : World} (hX : RowR w ra Xs) (hxn : Xs.length = rn) (hxl : rn ≤ 1048576) (hS : RowSp w sa Ss) (hsn : Ss.length = sn) (hsl : sn ≤ 1048576) :
    Calls Try.prog 3 #[.agg #[.slice ra rn rc, .slice sa sn sc]] w fun e w' => e = .returned (.bool true) ∧ Below w.heap.size w w' := by
  have HX := hid hX
  have HXN := hid hxn
  have HS := hid hS
  have HSN := hid hsn
  clear hX hxn hS hsn
  obtain ⟨w0, hw0⟩ : ∃ w0, w0 = w.alloc (.cells #[.slice ra rn rc, .slice sa sn sc] 25) := ⟨_, rfl⟩
  have hb0 : Below w.heap.size w w0 := by rw [hw0]; exact Below.al (Below.refl _ _) _
  have c0 : w0.cell? ⟨w.heap.size, 0, none⟩ = some (.slice ra rn rc) := by rw [hw0]; simp [go_sem]
  have c1 : w0.cell? ⟨w.heap.size, 1, none⟩ = some (.slice sa sn sc) := by rw [hw0]; simp [go_sem]
  have AL := hid (alive_is w0)
  have HB0 := hid hb0
  clear hb0
  go_enter Try.func3, Try.ntmps3
  go_upto_region 1 with fail
  rw [← hw0]
  clear hw0
  go_wp2_with (go_at_call 4; refine AL.out.mono ?_; rintro e w1 ⟨rfl, hb1⟩)
  have HB1 := hid (Below.on HB0.out hb1)
  replace c0 := cell_later hb1 c0
  replace c1 := cell_later hb1 c1
  clear AL hb1
  go_loopg [4] sn (fun g s4 wr => ∃ i : Nat, i ≤ sn ∧ g = sn - i ∧ s4 = .int .i64 i ∧ Hid (Below w1.heap.size w1 wr))
  case atStart => exact ⟨0, by omega, by omega, rfl, Below.refl _ _⟩
  case round =>
    obtain ⟨i, hi, rfl, rfl, HB⟩ := hrel
    have d0 := cell_later HB.out c0
    have d1 := cell_later HB.out c1
    by_cases hlt : i < sn
    · obtain ⟨b, off, ea, hcs, htop⟩ := (HS.out.later (Below.on HB1.out HB.out)) i (by have := HSN.out; omega)
      obtain ⟨s, hs⟩ : ∃ s, s = nthS Ss i := ⟨_, rfl⟩
      rw [← hs] at hcs htop
      have HTOP := hid htop
      subst ea
      have x0 : wr.cell? ⟨b, off + i * 9, none⟩ = some (.int .i64 s.kd) := hcs 0 _ rfl
      have x1 : wr.cell? ⟨b, off + i * 9 + 1, none⟩ = some (.int .i64 s.fd) := hcs 1 _ rfl
      have x2 : wr.cell? ⟨b, off + i * 9 + 2, none⟩ = some (.int .i64 s.at') := hcs 2 _ rfl
      have x3 : wr.cell? ⟨b, off + i * 9 + 3, none⟩ = some (.int .u64 s.fr.w) := hcs 3 _ rfl
      have x4 : wr.cell? ⟨b, off + i * 9 + 4, none⟩ = some (.int .u32 s.fr.l) := hcs 4 _ rfl
      have x5 : wr.cell? ⟨b, off + i * 9 + 5, none⟩ = some (.int .u32 s.fr.n) := hcs 5 _ rfl
      have x6 : wr.cell? ⟨b, off + i * 9 + 6, none⟩ = some (.int .u64 s.tt.w) := hcs 6 _ rfl
      have x7 : wr.cell? ⟨b, off + i * 9 + 7, none⟩ = some (.int .u32 s.tt.l) := hcs 7 _ rfl
      have x8 : wr.cell? ⟨b, off + i * 9 + 8, none⟩ = some (.int .u32 s.tt.n) := hcs 8 _ rfl
      clear hcs hs htop
      obtain ⟨w2, hw2⟩ : ∃ w2, w2 = wr.alloc (.cells #[.int .i64 s.kd, .int .i64 s.fd, .int .i64 s.at', .int .u64 s.fr.w, .int .u32 s.fr.l, .int .u32 s.fr.n, .int .u64 s.tt.w, .int .u32 s.tt.l, .int .u32 s.tt.n] 32) := ⟨_, rfl⟩
      have hb2 : Below wr.heap.size wr w2 := by rw [hw2]; exact Below.al (Below.refl _ _) _
      have hk2 : w2.heap[wr.heap.size]? = some (.cells #[.int .i64 s.kd, .int .i64 s.fd, .int .i64 s.at', .int .u64 s.fr.w, .int .u32 s.fr.l, .int .u32 s.fr.n, .int .u64 s.tt.w, .int .u32 s.tt.l, .int .u32 s.tt.n] 32) := by rw [hw2]; exact (MapKept.heap_alloc _ _).1
      have y2 : w2.cell? ⟨wr.heap.size, 2, none⟩ = some (.int .i64 s.at') := cell_of_obj hk2 rfl
      have y3 : w2.cell? ⟨wr.heap.size, 3, none⟩ = some (.int .u64 s.fr.w) := cell_of_obj hk2 rfl
      have y4 : w2.cell? ⟨wr.heap.size, 4, none⟩ = some (.int .u32 s.fr.l) := cell_of_obj hk2 rfl
      have y5 : w2.cell? ⟨wr.heap.size, 5, none⟩ = some (.int .u32 s.fr.n) := cell_of_obj hk2 rfl
      have y6 : w2.cell? ⟨wr.heap.size, 6, none⟩ = some (.int .u64 s.tt.w) := cell_of_obj hk2 rfl
      have y7 : w2.cell? ⟨wr.heap.size, 7, none⟩ = some (.int .u32 s.tt.l) := cell_of_obj hk2 rfl
      have y8 : w2.cell? ⟨wr.heap.size, 8, none⟩ = some (.int .u32 s.tt.n) := cell_of_obj hk2 rfl
      have e0 := cell_later hb2 d0
      have e1 := cell_later hb2 d1
      go_upto_region 8 with fail
      rw [← hw2]
      clear hw2 x0 x1 x2 x3 x4 x5 x6 x7 x8 hk2
      have PK := hid (pick_is (sa := some ⟨b, off, none⟩) (sn := sn) (sc := sc) (rc := rc) (i := s.at') (HX.out.later (Below.on (Below.on HB1.out HB.out) hb2)) HXN.out hxl)
      have HBQ : Hid (Below wr.heap.size wr w2) := hid hb2
      clear hb2
      go_upto_region 9 with (first | (go_at_call 5; refine PK.out.mono ?_; rintro e w3 ⟨x, rfl, HRES, hb3⟩) | (refine wpList_store_new (by rfl) 41 _ _ (by rfl) #[.int .i64 x.r.st, .int .i64 x.r.sh, .int .i64 x.r.cl, .slice x.r.pa x.r.pn x.r.pc, .int .i64 x.r.cap, .int .i64 x.r.park, .int .u64 x.r.win, .slice x.r.ea x.r.en x.r.ec, .slice x.r.wa x.r.wn x.r.wc, .slice x.r.ca x.r.cn x.r.cc, .slice x.r.ha x.r.hn x.r.hc, .int .i64 x.r.fl, .int .i64 x.r.ss] _ 41 (by rfl) (by rfl) szRe (by rfl) (re_all x.r) ?_))
      obtain ⟨w4, hw4⟩ : ∃ w4, w4 = w3.alloc (.cells #[.int .i64 x.r.st, .int .i64 x.r.sh, .int .i64 x.r.cl, .slice x.r.pa x.r.pn x.r.pc, .int .i64 x.r.cap, .int .i64 x.r.park, .int .u64 x.r.win, .slice x.r.ea x.r.en x.r.ec, .slice x.r.wa x.r.wn x.r.wc, .slice x.r.ca x.r.cn x.r.cc, .slice x.r.ha x.r.hn x.r.hc, .int .i64 x.r.fl, .int .i64 x.r.ss] 41) := ⟨_, rfl⟩
      have hb4 : Below w3.heap.size w3 w4 := by rw [hw4]; exact Below.al (Below.refl _ _) _
      have hk4 : w4.heap[w3.heap.size]? = some (.cells #[.int .i64 x.r.st, .int .i64 x.r.sh, .int .i64 x.r.cl, .slice x.r.pa x.r.pn x.r.pc, .int .i64 x.r.cap, .int .i64 x.r.park, .int .u64 x.r.win, .slice x.r.ea x.r.en x.r.ec, .slice x.r.wa x.r.wn x.r.wc, .slice x.r.ca x.r.cn x.r.cc, .slice x.r.ha x.r.hn x.r.hc, .int .i64 x.r.fl, .int .i64 x.r.ss] 41) := by rw [hw4]; exact (MapKept.heap_alloc _ _).1
      rw [← hw4]
      clear hw4 PK e0 e1
      have hb24 : Below w2.heap.size w2 w4 := Below.on hb3 hb4
      replace y3 := cell_later hb24 y3
      replace y4 := cell_later hb24 y4
      replace y5 := cell_later hb24 y5
      replace y6 := cell_later hb24 y6
      replace y7 := cell_later hb24 y7
      replace y8 := cell_later hb24 y8
      have HRES4 := hid (HRES.out.later hb24)
      have HB4 : Hid (Below wr.heap.size wr w4) := hid (Below.on HBQ.out hb24)
      obtain ⟨w6, hw6⟩ : ∃ w6, w6 = (w4.alloc (.cells #[.int .u64 s.tt.w, .int .u32 s.tt.l, .int .u32 s.tt.n] 30)).alloc (.cells #[.int .u64 18446744073709551615, .int .u32 4294967295, .int .u32 4294967295] 30) := ⟨_, rfl⟩
      have hb6 : Below w4.heap.size w4 w6 := by rw [hw6]; exact Below.al (Below.al (Below.refl _ _) _) _
      have hk6 : w6.heap[w4.heap.size]? = some (.cells #[.int .u64 s.tt.w, .int .u32 s.tt.l, .int .u32 s.tt.n] 30) := by rw [hw6, (MapKept.heap_alloc _ _).2 _ (by simp)]; exact (MapKept.heap_alloc _ _).1
      have hp6 : w6.heap[w4.heap.size + 1]? = some (.cells #[.int .u64 18446744073709551615, .int .u32 4294967295, .int .u32 4294967295] 30) := by
        rw [hw6]
        have := (MapKept.heap_alloc (w4.alloc (.cells #[.int .u64 s.tt.w, .int .u32 s.tt.l, .int .u32 s.tt.n] 30)) (.cells #[.int .u64 18446744073709551615, .int .u32 4294967295, .int .u32 4294967295] 30)).1
        simpa using this
      simp only [Act.put]
      go_upto_region 11 with fail
      rw [← hw6]
      clear hw6 hb24 hb3 hb4
      replace y3 := cell_later hb6 y3
      replace y4 := cell_later hb6 y4
      replace y5 := cell_later hb6 y5
      have m0 : w6.cell? ⟨w4.heap.size, 0, none⟩ = some (.int .u64 s.tt.w) := cell_of_obj hk6 rfl
      have m1 : w6.cell? ⟨w4.heap.size, 1, none⟩ = some (.int .u32 s.tt.l) := cell_of_obj hk6 rfl
      have m2 : w6.cell? ⟨w4.heap.size, 2, none⟩ = some (.int .u32 s.tt.n) := cell_of_obj hk6 rfl
      have p0 : w6.cell? ⟨w4.heap.size + 1, 0, none⟩ = some (.int .u64 18446744073709551615) := cell_of_obj hp6 rfl
      have p1 : w6.cell? ⟨w4.heap.size + 1, 1, none⟩ = some (.int .u32 4294967295) := cell_of_obj hp6 rfl
      have p2 : w6.cell? ⟨w4.heap.size + 1, 2, none⟩ = some (.int .u32 4294967295) := cell_of_obj hp6 rfl
      have hkr := (hb6.block _ (Array.getElem?_eq_some_iff.1 hk4).1).trans hk4
      have HRES6 := hid (HRES4.out.later hb6)
      have HB6 : Hid (Below wr.heap.size wr w6) := hid (Below.on HB4.out hb6)
      clear hb6 hk6 hp6 hk4 y6 y7 y8 HRES HRES4 HB4 HBQ
      cases hmf : lesS s.tt s.fr with
      | true =>
        have BE := hid (fun W => lbelow_is (show lessB s.tt.w s.tt.l s.tt.n s.fr.w s.fr.l s.fr.n = true from hmf) W)
        clear hmf
        go_wp2_with (go_at_call 6; refine (BE.out _).mono ?_; rintro e w7 ⟨rfl, hg7⟩)
        have HB7 : Hid (Below w1.heap.size w1 w7) := hid (Below.on (Below.on HB.out HB6.out) hg7.below)
        go_roundg (sn - (i + 1))
        case measure => omega
        case rel => exact ⟨i + 1, by omega, rfl, by go_num, HB7⟩
      | false =>
        have BE := hid (fun W => lbelow_is (show lessB s.tt.w s.tt.l s.tt.n s.fr.w s.fr.l s.fr.n = false from hmf) W)
        have HMF := hid hmf
        clear hmf
        go_upto_region 12 with (go_at_call 6; refine (BE.out _).mono ?_; rintro e w7 ⟨rfl, hg7⟩)
        have hb7 := hg7.below
        replace y3 := cell_later hb7 y3
        replace y4 := cell_later hb7 y4
        replace y5 := cell_later hb7 y5
        replace m0 := cell_later hb7 m0
        replace m1 := cell_later hb7 m1
        replace m2 := cell_later hb7 m2
        replace p0 := cell_later hb7 p0
        replace p1 := cell_later hb7 p1
        replace p2 := cell_later hb7 p2
        replace hkr := (hb7.block _ (Array.getElem?_eq_some_iff.1 hkr).1).trans hkr
        have HRES7 := hid (HRES6.out.later hb7)
        have HB7 : Hid (Below wr.heap.size wr w7) := hid (Below.on HB6.out hb7)
        clear BE hg7 hb7 HRES6 HB6
        have hr7 : ∀ j v, ([.int .i64 x.r.st, .int .i64 x.r.sh, .int .i64 x.r.cl, .slice x.r.pa x.r.pn x.r.pc, .int .i64 x.r.cap, .int .i64 x.r.park, .int .u64 x.r.win, .slice x.r.ea x.r.en x.r.ec, .slice x.r.wa x.r.wn x.r.wc, .slice x.r.ca x.r.cn x.r.cc, .slice x.r.ha x.r.hn x.r.hc, .int .i64 x.r.fl, .int .i64 x.r.ss] : List Value)[j]? = some v → w7.cell? ((⟨w3.heap.size, 0, none⟩ : Addr).add j) = some v := fun j v hj => by
          rw [Addr.add_lit, Nat.zero_add]
          exact cell_of_obj hkr (by simpa using hj)
        have C1 := hid (changes_is (fr := s.fr) (tt := s.tt) HRES7.out.ev HRES7.out.el HRES7.out.co HRES7.out.cl HRES7.out.eb HRES7.out.cb)
        go_upto_region 13 with (first | (refine wpList_load_at (by rfl) 41 _ (by rfl) ⟨w3.heap.size, 0, none⟩ (by rfl) [.int .i64 x.r.st, .int .i64 x.r.sh, .int .i64 x.r.cl, .slice x.r.pa x.r.pn x.r.pc, .int .i64 x.r.cap, .int .i64 x.r.park, .int .u64 x.r.win, .slice x.r.ea x.r.en x.r.ec, .slice x.r.wa x.r.wn x.r.wc, .slice x.r.ca x.r.cn x.r.cc, .slice x.r.ha x.r.hn x.r.hc, .int .i64 x.r.fl, .int .i64 x.r.ss] _ hr7 Try.underlying41 rfl szRe ?_) | (go_at_call 7; refine C1.out.mono ?_; rintro e w8 ⟨a1, n1, k1, U1, rfl, HU1, HN1, HO1, HB8⟩))
        have hb8 := HB8.out
        replace y3 := cell_later hb8 y3
        replace y4 := cell_later hb8 y4
        replace y5 := cell_later hb8 y5
        replace m0 := cell_later hb8 m0
        replace m1 := cell_later hb8 m1
        replace m2 := cell_later hb8 m2
        replace p0 := cell_later hb8 p0
        replace p1 := cell_later hb8 p1
        replace p2 := cell_later hb8 p2
        replace hkr := (hb8.block _ (Array.getElem?_eq_some_iff.1 hkr).1).trans hkr
        have HRES8 := hid (HRES7.out.later hb8)
        clear C1 hr7 hb8 HRES7
        have hr8 : ∀ j v, ([.int .i64 x.r.st, .int .i64 x.r.sh, .int .i64 x.r.cl, .slice x.r.pa x.r.pn x.r.pc, .int .i64 x.r.cap, .int .i64 x.r.park, .int .u64 x.r.win, .slice x.r.ea x.r.en x.r.ec, .slice x.r.wa x.r.wn x.r.wc, .slice x.r.ca x.r.cn x.r.cc, .slice x.r.ha x.r.hn x.r.hc, .int .i64 x.r.fl, .int .i64 x.r.ss] : List Value)[j]? = some v → w8.cell? ((⟨w3.heap.size, 0, none⟩ : Addr).add j) = some v := fun j v hj => by
          rw [Addr.add_lit, Nat.zero_add]
          exact cell_of_obj hkr (by simpa using hj)
        have C2 := hid (changes_is (fr := s.tt) (tt := topS) HRES8.out.ev HRES8.out.el HRES8.out.co HRES8.out.cl HRES8.out.eb HRES8.out.cb)
        go_upto_region 14 with (first | (refine wpList_load_at (by rfl) 41 _ (by rfl) ⟨w3.heap.size, 0, none⟩ (by rfl) [.int .i64 x.r.st, .int .i64 x.r.sh, .int .i64 x.r.cl, .slice x.r.pa x.r.pn x.r.pc, .int .i64 x.r.cap, .int .i64 x.r.park, .int .u64 x.r.win, .slice x.r.ea x.r.en x.r.ec, .slice x.r.wa x.r.wn x.r.wc, .slice x.r.ca x.r.cn x.r.cc, .slice x.r.ha x.r.hn x.r.hc, .int .i64 x.r.fl, .int .i64 x.r.ss] _ hr8 Try.underlying41 rfl szRe ?_) | (go_at_call 7; refine C2.out.mono ?_; rintro e w9 ⟨a2, n2, k2, U2, rfl, HU2, HN2, HO2, HB9⟩))
        have hb9 := HB9.out
        replace y3 := cell_later hb9 y3
        replace y4 := cell_later hb9 y4
        replace y5 := cell_later hb9 y5
        replace m0 := cell_later hb9 m0
        replace m1 := cell_later hb9 m1
        replace m2 := cell_later hb9 m2
        replace p0 := cell_later hb9 p0
        replace p1 := cell_later hb9 p1
        replace p2 := cell_later hb9 p2
        replace hkr := (hb9.block _ (Array.getElem?_eq_some_iff.1 hkr).1).trans hkr
        have HRES9 := hid (HRES8.out.later hb9)
        clear C2 hr8 hb9
        have hr9 : ∀ j v, ([.int .i64 x.r.st, .int .i64 x.r.sh, .int .i64 x.r.cl, .slice x.r.pa x.r.pn x.r.pc, .int .i64 x.r.cap, .int .i64 x.r.park, .int .u64 x.r.win, .slice x.r.ea x.r.en x.r.ec, .slice x.r.wa x.r.wn x.r.wc, .slice x.r.ca x.r.cn x.r.cc, .slice x.r.ha x.r.hn x.r.hc, .int .i64 x.r.fl, .int .i64 x.r.ss] : List Value)[j]? = some v → w9.cell? ((⟨w3.heap.size, 0, none⟩ : Addr).add j) = some v := fun j v hj => by
          rw [Addr.add_lit, Nat.zero_add]
          exact cell_of_obj hkr (by simpa using hj)
        have C3 := hid (changes_is (fr := s.fr) (tt := topS) HRES9.out.ev HRES9.out.el HRES9.out.co HRES9.out.cl HRES9.out.eb HRES9.out.cb)
        go_upto_region 15 with (first | (refine wpList_load_at (by rfl) 41 _ (by rfl) ⟨w3.heap.size, 0, none⟩ (by rfl) [.int .i64 x.r.st, .int .i64 x.r.sh, .int .i64 x.r.cl, .slice x.r.pa x.r.pn x.r.pc, .int .i64 x.r.cap, .int .i64 x.r.park, .int .u64 x.r.win, .slice x.r.ea x.r.en x.r.ec, .slice x.r.wa x.r.wn x.r.wc, .slice x.r.ca x.r.cn x.r.cc, .slice x.r.ha x.r.hn x.r.hc, .int .i64 x.r.fl, .int .i64 x.r.ss] _ hr9 Try.underlying41 rfl szRe ?_) | (go_at_call 7; refine C3.out.mono ?_; rintro e wA ⟨a3, n3, k3, U3, rfl, HU3, HN3, HO3, HBA⟩))
        have hbA := HBA.out
        replace y3 := cell_later hbA y3
        replace y4 := cell_later hbA y4
        replace y5 := cell_later hbA y5
        replace m0 := cell_later hbA m0
        replace m1 := cell_later hbA m1
        replace m2 := cell_later hbA m2
        clear C3 hr9 hbA p0 p1 p2 hkr
        -- what the three lists hold
        obtain ⟨L1, hL1⟩ : ∃ L1, L1 = chg x.E (U1.filter com) s.fr s.tt := ⟨_, rfl⟩
        obtain ⟨L2, hL2⟩ : ∃ L2, L2 = chg x.E (U2.filter com) s.tt topS := ⟨_, rfl⟩
        have HN1' : Hid (L1.length = n1) := hid (by rw [hL1]; exact HN1.out)
        have HN2' : Hid (L2.length = n2) := hid (by rw [hL2]; exact HN2.out)
        have HO1' : Hid (w8.ownsRow w7.heap.size 47 6 (.slice a1 n1 k1) n1 (L1.flatMap vcs)) := hid (by rw [hL1]; exact HO1.out)
        have HO2' : Hid (w9.ownsRow w8.heap.size 47 6 (.slice a2 n2 k2) n2 (L2.flatMap vcs)) := hid (by rw [hL2]; exact HO2.out)
        have HSUM : Hid (chg x.E (U3.filter com) s.fr topS = L1 ++ L2) := hid (by
          rw [hL1, hL2, chg_same HU2.out.1 HU1.out.1 HU2.out.2 HU1.out.2, chg_same HU3.out.1 HU1.out.1 HU3.out.2 HU1.out.2]
          exact (chg_split HMF.out HTOP.out (srt_filter HU1.out.2)).symm)
        have HN3' : Hid ((L1 ++ L2).length = n3) := hid (by rw [← HSUM.out]; exact HN3.out)
        have HO3' : Hid (wA.ownsRow w9.heap.size 47 6 (.slice a3 n3 k3) n3 ((L1 ++ L2).flatMap vcs)) := hid (by rw [← HSUM.out]; exact HO3.out)
        have HBT : Hid (∀ v ∈ L1, lessB v.w v.l v.n s.fr.w s.fr.l s.fr.n = false ∧ lessB v.w v.l v.n s.tt.w s.tt.l s.tt.n = true) := hid fun v hv => chg_between (by rw [← hL1]; exact hv)
        have hn1 : n1 ≤ 1099511627776 := by
          rw [← HN1'.out, hL1]
          refine Nat.le_trans (told_len _ _ _) (Nat.le_trans (Nat.mul_le_mul (show _ ≤ 1048576 from ?_) (show _ ≤ 1048576 from ?_)) (by decide))
          · refine Nat.le_trans ((List.takeWhile_sublist _).length_le) (Nat.le_trans (List.length_filter_le _ _) ?_)
            have h1 := HU1.out.1.length_eq
            have h2 := HRES9.out.cl
            have h3 := HRES9.out.cb
            omega
          · have h2 := HRES9.out.el
            have h3 := HRES9.out.eb
            omega
        have hn2 : n2 ≤ 1099511627776 := by
          rw [← HN2'.out, hL2]
          refine Nat.le_trans (told_len _ _ _) (Nat.le_trans (Nat.mul_le_mul (show _ ≤ 1048576 from ?_) (show _ ≤ 1048576 from ?_)) (by decide))
          · refine Nat.le_trans ((List.takeWhile_sublist _).length_le) (Nat.le_trans (List.length_filter_le _ _) ?_)
            have h1 := HU2.out.1.length_eq
            have h2 := HRES9.out.cl
            have h3 := HRES9.out.cb
            omega
          · have h2 := HRES9.out.el
            have h3 := HRES9.out.eb
            omega
        have HA8 : Hid (∀ g, (Value.slice a1 n1 k1).ownBlock = some g → g < w8.heap.size) := hid fun g hg => (HO1'.out.lt g hg).2
        have HR7 : Hid (wr.heap.size ≤ w7.heap.size) := hid HB7.out.size
        have HOA : Hid (wA.ownsRow w7.heap.size 47 6 (.slice a1 n1 k1) n1 (L1.flatMap vcs)) := hid (owns_same HO1'.out fun g cs _ hg => (Below.on HB9.out HBA.out).block g (Array.getElem?_eq_some_iff.1 hg).1)
        have HOB : Hid (wA.ownsRow w8.heap.size 47 6 (.slice a2 n2 k2) n2 (L2.flatMap vcs)) := hid (owns_same HO2'.out fun g cs _ hg => HBA.out.block g (Array.getElem?_eq_some_iff.1 hg).1)
        have HB7A : Hid (Below wr.heap.size wr wA) := hid (Below.on (Below.on (Below.on HB7.out HB8.out) HB9.out) HBA.out)
        have HSZ : Hid (w7.heap.size ≤ w8.heap.size ∧ w8.heap.size ≤ w9.heap.size ∧ w9.heap.size ≤ wA.heap.size ∧ w7.heap.size ≤ wA.heap.size) := hid ⟨HB8.out.size, HB9.out.size, HBA.out.size, Nat.le_trans HB8.out.size (Nat.le_trans HB9.out.size HBA.out.size)⟩
        clear HRES8 HRES9 HU1 HU2 HU3 HN1 HN2 HN3 HO1 HO2 HO3 hL1 hL2 HO1' HO2' HB8 HB9 HBA HB7 HSUM
        have HSC : Hid (∀ W, Below wA.heap.size wA W → W.cell? ⟨wr.heap.size, 3, none⟩ = some (.int .u64 s.fr.w) ∧ W.cell? ⟨wr.heap.size, 4, none⟩ = some (.int .u32 s.fr.l) ∧ W.cell? ⟨wr.heap.size, 5, none⟩ = some (.int .u32 s.fr.n) ∧ W.cell? ⟨w4.heap.size, 0, none⟩ = some (.int .u64 s.tt.w) ∧ W.cell? ⟨w4.heap.size, 1, none⟩ = some (.int .u32 s.tt.l) ∧ W.cell? ⟨w4.heap.size, 2, none⟩ = some (.int .u32 s.tt.n)) := hid fun W hW => ⟨cell_later hW y3, cell_later hW y4, cell_later hW y5, cell_later hW m0, cell_later hW m1, cell_later hW m2⟩
        clear y2 y3 y4 y5 m0 m1 m2
        go_wp2_with fail
        go_loopg [12] n1 (fun g s12 wk => ∃ k : Nat, k ≤ n1 ∧ g = n1 - k ∧ s12 = .int .i64 k ∧ Hid (Below wA.heap.size wA wk))
        case atStart => exact ⟨0, by omega, by omega, rfl, Below.refl _ _⟩
        case round =>
          obtain ⟨k, hk, rfl, rfl, HBK⟩ := hrel
          rename World => wk
          by_cases hkl : k < n1
          · obtain ⟨ba, oa, ea, va⟩ := ((rowVr_of_owns HOA.out HN1'.out).later HBK.out) k (by have := HN1'.out; omega)
            obtain ⟨v, hv⟩ : ∃ v, v = nthR L1 k := ⟨_, rfl⟩
            rw [← hv] at va
            have hmem : v ∈ L1 := by
              have hl : k < L1.length := by have := HN1'.out; omega
              rw [hv, nthR, List.getElem?_eq_getElem hl]
              exact List.getElem_mem hl
            obtain ⟨hq1, hq2⟩ := HBT.out v hmem
            have v1 : wk.cell? ⟨ba, oa + k * 6 + 1, none⟩ = some (.int .u64 v.w) := va 1 _ rfl
            have v2 : wk.cell? ⟨ba, oa + k * 6 + 2, none⟩ = some (.int .u32 v.l) := va 2 _ rfl
            have v3 : wk.cell? ⟨ba, oa + k * 6 + 3, none⟩ = some (.int .u32 v.n) := va 3 _ rfl
            obtain ⟨y3, y4, y5, m0, m1, m2⟩ := HSC.out wk HBK.out
            have hbb : Below wk.heap.size wk wk := Below.refl _ _
            subst ea
            clear va hv hmem
            go_wp2_with fail
            go_region_held3 (fun w' => w'.cell? ⟨ba, oa + k * 6 + 1, none⟩ = some (.int .u64 v.w) ∧ w'.cell? ⟨ba, oa + k * 6 + 2, none⟩ = some (.int .u32 v.l) ∧ w'.cell? ⟨ba, oa + k * 6 + 3, none⟩ = some (.int .u32 v.n) ∧ w'.cell? ⟨wr.heap.size, 3, none⟩ = some (.int .u64 s.fr.w) ∧ w'.cell? ⟨wr.heap.size, 4, none⟩ = some (.int .u32 s.fr.l) ∧ w'.cell? ⟨wr.heap.size, 5, none⟩ = some (.int .u32 s.fr.n) ∧ w'.cell? ⟨w4.heap.size, 0, none⟩ = some (.int .u64 s.tt.w) ∧ w'.cell? ⟨w4.heap.size, 1, none⟩ = some (.int .u32 s.tt.l) ∧ w'.cell? ⟨w4.heap.size, 2, none⟩ = some (.int .u32 s.tt.n) ∧ Below wk.heap.size wk w')
              ((refine (fun (hB : Below wk.heap.size wk _) => ⟨cell_later hB v1, cell_later hB v2, cell_later hB v3, cell_later hB y3, cell_later hB y4, cell_later hB y5, cell_later hB m0, cell_later hB m1, cell_later hB m2, hB⟩) ?_; (repeat (first | with_reducible exact Below.refl _ _ | with_reducible assumption | with_reducible refine Below.drew ?_ | with_reducible refine Below.al ?_ _ | with_reducible refine Below.setCell ?_ (by first | exact Nat.le_refl _ | (simp; omega) | (simp; done)) _ | with_reducible refine Below.on ?_ (by assumption)))))
              ((go_at_call 6; refine (lbelow_is rfl _).mono ?_; rintro e wB ⟨rfl, hgB⟩; have hbB := hgB.below; clear hgB; (first | rw [hq1] | rw [hq2])))
            all_goals (try go_wp2_with fail)
            have HBK' : Hid (Below wA.heap.size wA wB) := hid (Below.on HBK.out (by (repeat (first | with_reducible exact Below.refl _ _ | with_reducible assumption | with_reducible refine Below.drew ?_ | with_reducible refine Below.al ?_ _ | with_reducible refine Below.setCell ?_ (by first | exact Nat.le_refl _ | (simp; omega) | (simp; done)) _ | with_reducible refine Below.on ?_ (by assumption)))))
            go_roundg (n1 - (k + 1))
            case measure => omega
            case rel => exact ⟨k + 1, by omega, rfl, by go_num, HBK'⟩
          · have HBW : Hid (Below wr.heap.size wr wk) := hid (Below.on HB7A.out HBK.out)
            have hoa := owns_same HOA.out (w' := wk) fun g cs _ hg => HBK.out.block g (Array.getElem?_eq_some_iff.1 hg).1
            have hob := owns_same HOB.out (w' := wk) fun g cs _ hg => HBK.out.block g (Array.getElem?_eq_some_iff.1 hg).1
            have hoc := owns_same HO3'.out (w' := wk) fun g cs _ hg => HBK.out.block g (Array.getElem?_eq_some_iff.1 hg).1
            have hszk : w7.heap.size ≤ wk.heap.size := Nat.le_trans HSZ.out.2.2.2 HBK.out.size
            obtain ⟨r1, hr1⟩ : ∃ r1, r1 = L1.flatMap vcs := ⟨_, rfl⟩
            obtain ⟨r2, hr2⟩ : ∃ r2, r2 = L2.flatMap vcs := ⟨_, rfl⟩
            have HR1 := hid hr1
            have HR2 := hid hr2
            rw [← hr1] at hoa
            rw [← hr2] at hob
            obtain ⟨i0, hi0, hz0, hz1, hz2⟩ := info_of infoVr
            have HOC := hid hoc
            rcases hob.2 with ⟨eb, _⟩ | ⟨g2, cap2, cur2, eb, _⟩
            · injection eb with e1 e2 e3
              subst e1 e2 e3
              have hl0 : L2 = [] := List.eq_nil_of_length_eq_zero HN2'.out
              have RA : Hid (RowVr wk a1 (L1 ++ L2)) := hid (by rw [hl0, List.append_nil]; exact rowVr_of_owns (by rw [← HR1.out]; exact hoa) HN1'.out)
              have RC : Hid (RowVr wk a3 (L1 ++ L2)) := hid (rowVr_of_owns HOC.out HN3'.out)
              have hnn : n3 = n1 := by have := HN3'.out; rw [List.length_append, HN1'.out, HN2'.out] at this; omega
              subst hnn
              have SA := hid (lsame_is (c := k1) (d := k3) RA.out RC.out HN3'.out (by omega))
              clear hr1 hr2 hoc HOC HO3' HOA HOB RA RC
              go_wp2_with (first | (at_builtin; refine wpList_append_own_none (by rfl) _ _ 44 (by rfl) w7.heap.size 47 i0 6 Try.underlying44 hi0 (.slice a1 n3 k1) n3 r1 (by rfl) hoa (by rfl) ?_) | (go_at_call 8; refine SA.out.mono ?_; rintro e wD ⟨rfl, hbD⟩))
              have HBD : Hid (Below w1.heap.size w1 wD) := hid (Below.on (Below.on HB.out HBW.out) hbD)
              go_roundg (sn - (i + 1))
              case measure => omega
              case rel => exact ⟨i + 1, by omega, rfl, by go_num, HBD⟩
            · injection eb with e1 e2 e3
              subst e1
              have hnews : ∀ j u, r2[j]? = some u → wk.cell? ((⟨g2, 0, none⟩ : Addr).add j) = some u := fun j u hj => by
                rw [Addr.add_lit, Nat.zero_add]
                by_cases h0 : 0 < n2
                · obtain ⟨g', eg, _, hcs2⟩ := own_cells hob h0
                  have e4 : g2 = g' := by simpa using eg
                  rw [e4]
                  exact hcs2 j u hj
                · have hl : r2.length = 0 := by rw [hr2, fm_len vcs_len, HN2'.out]; omega
                  rw [List.eq_nil_of_length_eq_zero hl] at hj
                  simp at hj
              have hone : ∀ u ∈ r2, u.oneCell' = true := by rw [hr2]; exact fm_one vcs_one L2
              have hl2 : r2.length = n2 * 6 := by rw [hr2, fm_len vcs_len, HN2'.out]
              clear hr1 hr2 hoc hob
              go_wp2_with (at_builtin; refine wpList_append_own _ rfl _ _ 44 rfl w7.heap.size 47 i0 (.agg (vcs Vr.zero).toArray) 6 56 Try.underlying44 hi0 hz0 hz1 hz2 rfl (by decide) _ _ _ rfl hoa ⟨g2, 0, none⟩ n2 k2 r2 rfl hl2 hnews hone (by unfold maxLen; omega) (by omega) hszk ?_)
              intro v' wC hown hgrow _
              obtain ⟨aC, cC, rfl⟩ := owns_slice hown
              have RA : Hid (RowVr wC aC (L1 ++ L2)) := hid (rowVr_of_owns (by rw [List.flatMap_append, ← HR1.out, ← HR2.out]; exact hown) (by rw [List.length_append, HN1'.out, HN2'.out]))
              have RC : Hid (RowVr wC a3 (L1 ++ L2)) := hid (rowVr_of_owns (owns_same HOC.out fun g cs hg hgc => hgrow.block g (Array.getElem?_eq_some_iff.1 hgc).1 (fun e => by
                have h1 := HA8.out g e.symm
                have h2 := (HOC.out.lt g hg).1
                have h3 := HSZ.out.2.1
                omega)) HN3'.out)
              have HBWC : Hid (Below wr.heap.size wr wC) := hid (HBW.out.trans (Below.grown (Below.refl _ wk) hgrow HBW.out.size (fun g e => Nat.le_trans HR7.out (hoa.lt g e).1)))
              have hnn : n3 = n1 + n2 := by have := HN3'.out; rw [List.length_append, HN1'.out, HN2'.out] at this; omega
              subst hnn
              have SA := hid (lsame_is (c := cC) (d := k3) RA.out RC.out HN3'.out (by omega))
              clear hown hgrow hnews hone hl2 hoa HOC HO3' HOA HOB RA RC
              go_wp2_with (go_at_call 8; refine SA.out.mono ?_; rintro e wD ⟨rfl, hbD⟩)
              have HBD : Hid (Below w1.heap.size w1 wD) := hid (Below.on (Below.on HB.out HBWC.out) hbD)
              go_roundg (sn - (i + 1))
              case measure => omega
              case rel => exact ⟨i + 1, by omega, rfl, by go_num, HBD⟩
    · go_wp2_with fail
      go_ret
      exact ⟨rfl, Below.on HB1.out HB.out⟩
end Go.Proofs.Ytiheilkjlapoiaa.Lg
