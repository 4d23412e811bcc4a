import Derived.Test.YtneojeidpfjpbaaGreatDoorB46
set_option linter.unusedVariables false
set_option maxHeartbeats 1000000
namespace Go.Proofs.YtneojeidpfjpbaaGreatDoor.Ig
open Go.RowKit Go.Sort Ys
section
variable {F : Nat → Prop} {w : World} {p : Nat} {m1 m2 m : Option Nat} {V : List Lk.Hv} {I : Lk.It} {s : Ps}
theorem heldF_is (T : Ys.St F w p m1 m2 m V I s) (hlen : V.length ≤ 1759218604441) :
  Calls Tryz.prog 10 #[sp p] w fun e w' => ∃ (U : List Lk.Hv) (a : Option Addr) (c : Nat), e = .returned (.slice a U.length c) ∧ Hid (Lk.Gv w.heap.size w' a U.length c U) ∧ Hid (∀ u ∈ U, u.ok w') ∧ Hid (U.map Lk.Hv.h = srt Lk.Hd.id s.H) ∧ Hid (Below w.heap.size w w') := by
 have C := hid (Lk.allF_is T.tb hlen); have HN : Hid ((s.H.map Lk.Hd.id).Nodup) := by show List.Nodup _; rw [← T.h]; exact T.tb.ok.ids
 have HV : Hid (V.map Lk.Hv.h = s.H) := T.h; clear T; go_enter Tryz.func10, Tryz.ntmps10
 go_wp2_with fail
 refine C.out.mono ?_; rintro e w1 ⟨a, n, c, U, rfl, rfl, h3, h4, h8, h5, h6, h7⟩; have HU : Hid (U.map Lk.Hv.h = srt Lk.Hd.id s.H) := srt_eq HN.out (by rw [← HV.out]; exact h5) h6; have H3 : Hid (Lk.Gv w.heap.size w1 a U.length c U) := hid ⟨h3, rfl, fun u hu => (h4 u hu).1, h8⟩; have H4 : Hid (∀ u ∈ U, u.ok w1) := hid fun u hu => (h4 u hu).2
 have H7 := hid h7; clear h3 h4 h5 h6 h7 h8; go_wp2_with fail
 go_ret
 exact ⟨U, a, c, rfl, H3, H4, HU, H7⟩
def bids (s : Ps) (lo hi : ByteArray) (t : Vs.Sp) : List Lk.Ix := ((srt Lk.Hd.id s.H).filter (Lk.blkB (lo, hi) t.a t.b t.c)).map Lk.Hd.id
theorem blocksI_is (T : Ys.St F w p m1 m2 m V I s) (hI : I.length ≤ 33554432) (lo hi : ByteArray) (t : Vs.Sp) :
  Calls Tryz.prog 45 #[sp p, .agg #[.string lo, .string hi], .agg #[.int .u64 t.a, .int .u32 t.b, .int .u32 t.c]] w fun e w' => ∃ (a : Option Addr) (c : Nat), e = .returned (.slice a (bids s lo hi t).length c) ∧ Hid (Lk.OwnI w.heap.size w' (.slice a (bids s lo hi t).length c) (bids s lo hi t).length (bids s lo hi t)) ∧ Hid (Below w.heap.size w w') := by
 obtain ⟨wx, hwx⟩ : ∃ wx, wx = (w.alloc (.cells #[.string lo, .string hi] 25)).alloc (.cells #[.int .u64 t.a, .int .u32 t.b, .int .u32 t.c] 28) := ⟨_, rfl⟩; have hbx : Below w.heap.size w wx := by rw [hwx]; exact Below.al (Below.al (Below.refl _ _) _) _
 have x0 : wx.cell? ⟨w.heap.size, 0, none⟩ = some (.string lo) := by rw [hwx]; simp [go_sem]
 have x1 : wx.cell? ⟨w.heap.size, 1, none⟩ = some (.string hi) := by rw [hwx]; simp [go_sem]
 have c0 : wx.cell? ⟨w.heap.size + 1, 0, none⟩ = some (.int .u64 t.a) := by rw [hwx]; simp [go_sem]
 have c1 : wx.cell? ⟨w.heap.size + 1, 1, none⟩ = some (.int .u32 t.b) := by rw [hwx]; simp [go_sem]
 have c2 : wx.cell? ⟨w.heap.size + 1, 2, none⟩ = some (.int .u32 t.c) := by rw [hwx]; simp [go_sem]
 obtain ⟨D0, hD0⟩ : ∃ D0, bids s lo hi t = D0 := ⟨_, rfl⟩; have BL : Hid (∀ W, Below wx.heap.size wx W → Calls Tryz.prog 82 #[.pointer (some ⟨p, 2, none⟩), .agg #[.string lo, .string hi], .agg #[.int .u64 t.a, .int .u32 t.b, .int .u32 t.c]] W fun e w' => ∃ (a : Option Addr) (c : Nat), e = .returned (.slice a D0.length c) ∧ Hid (Lk.OwnI w.heap.size w' (.slice a D0.length c) D0.length D0) ∧ Below W.heap.size W w') := hid fun W hb => by
  have hWs := (Below.on hbx hb).size; refine (Lk.blocksF_is (s := (lo, hi)) (T.later (Below.on hbx hb)).tb hI).mono ?_; rintro e w' ⟨a, n, c, D, he, h1, _, h3, h4, h5, h6⟩; have hnd : (s.H.map Lk.Hd.id).Nodup := by rw [← T.h]; exact T.tb.ok.ids
  have hm := h4.out; rw [T.h] at hm; have hD : D = D0 := by
   rw [← hD0]; refine Lk.rise_uniq h3.out ?_ fun i => ?_
   ·unfold bids; rw [List.pairwise_map]; exact (srt_up hnd).filter _
   ·rw [hm i]; unfold bids; rw [List.mem_map]; constructor
    ·rintro ⟨h, hh, e1, e2⟩; exact ⟨h, List.mem_filter.2 ⟨srt_mem.2 hh, e2⟩, e1⟩
    ·rintro ⟨h, hh, e1⟩; obtain ⟨h8, h9⟩ := List.mem_filter.1 hh; exact ⟨h, srt_mem.1 h8, e1, h9⟩
  subst hD; have hl := h1.out; subst hl; exact ⟨a, c, he, hid (Lk.owns_base h6.out hWs), h5.out⟩
 rw [hD0]; have HBX := hid hbx; clear T hI hbx hD0; go_enter Tryz.func45, Tryz.ntmps45
 go_wp2_with fail
 rw [← hwx]; clear hwx; go_region_held3 (fun w' => w'.cell? ⟨w.heap.size, 0, none⟩ = some (.string lo) ∧ w'.cell? ⟨w.heap.size, 1, none⟩ = some (.string hi) ∧ w'.cell? ⟨w.heap.size + 1, 0, none⟩ = some (.int .u64 t.a) ∧ w'.cell? ⟨w.heap.size + 1, 1, none⟩ = some (.int .u32 t.b) ∧ w'.cell? ⟨w.heap.size + 1, 2, none⟩ = some (.int .u32 t.c) ∧ Below wx.heap.size wx w')
  ((refine (fun (hB : Below wx.heap.size wx _) => ⟨cell_later hB x0, cell_later hB x1, cell_later hB c0, cell_later hB c1, cell_later hB c2, hB⟩) ?_; (repeat (first | with_reducible exact Below.refl _ _ | with_reducible assumption | with_reducible refine Below.drew ?_ | with_reducible refine Below.al ?_ _ | with_reducible refine Below.setCell ?_ (by first | exact Nat.le_refl _ | (simp; omega) | (simp; done)) _ | with_reducible refine Below.on ?_ (by assumption)))))
  (first | (go_at_call 82; refine (BL.out _ (by (repeat (first | with_reducible exact Below.refl _ _ | with_reducible assumption | with_reducible refine Below.drew ?_ | with_reducible refine Below.al ?_ _ | with_reducible refine Below.setCell ?_ (by first | exact Nat.le_refl _ | (simp; omega) | (simp; done)) _ | with_reducible refine Below.on ?_ (by assumption))))).mono ?_; rintro e w2 ⟨a, c, rfl, HG, hb2⟩; have hB2 : Below wx.heap.size wx w2 := (by refine Below.on ?_ hb2; (repeat (first | with_reducible exact Below.refl _ _ | with_reducible assumption | with_reducible refine Below.drew ?_ | with_reducible refine Below.al ?_ _ | with_reducible refine Below.setCell ?_ (by first | exact Nat.le_refl _ | (simp; omega) | (simp; done)) _ | with_reducible refine Below.on ?_ (by assumption))))))
 all_goals (try go_wp2_with fail)
 all_goals go_ret
 all_goals exact ⟨a, c, rfl, HG, hid (Below.on HBX.out (by (repeat (first | with_reducible exact Below.refl _ _ | with_reducible assumption | with_reducible refine Below.drew ?_ | with_reducible refine Below.al ?_ _ | with_reducible refine Below.setCell ?_ (by first | exact Nat.le_refl _ | (simp; omega) | (simp; done)) _ | with_reducible refine Below.on ?_ (by assumption)))))⟩
end
end Go.Proofs.YtneojeidpfjpbaaGreatDoor.Ig
namespace Go.Proofs.YtneojeidpfjpbaaGreatDoor.Ys
open Go.RowKit Go.Sort
theorem Head_is (w : World) : Calls Tryz.prog 17 #[] w fun e w' => ∃ g h : Nat, e = .returned (.slice (some ⟨g, 0, none⟩) 3 3) ∧ Hid (HeadAt w' g h ∧ w.heap.size ≤ h) ∧ Below w.heap.size w w' := by
 obtain ⟨w1, hw1⟩ : ∃ w1, w1 = w.alloc (.cells #[.int .u32 4294967295, .int .u32 1] 38) := ⟨_, rfl⟩; obtain ⟨w2, hw2⟩ : ∃ w2, w2 = w1.alloc (.cells #[.string ⟨#[107]⟩, .bool false, .string ⟨#[118]⟩] 103) := ⟨_, rfl⟩; have s1 : w1.heap.size = w.heap.size + 1 := by rw [hw1]; simp
 have s2 : w2.heap.size = w.heap.size + 1 + 1 := by rw [hw2]; simp [s1]
 obtain ⟨w3, hw3⟩ : ∃ w3, w3 = w2.alloc (.cells #[.int .i64 1, .int .u64 8, .int .u32 0, .int .u32 0, .int .u32 0, .int .i64 0, .int .u64 0, .int .u32 0, .int .u32 0, .slice none 0 0, .slice none 0 0, .string ⟨#[]⟩, .int .i64 2, .int .u64 0, .int .u32 4294967295, .int .u32 1, .int .u32 0, .int .i64 0, .int .u64 1, .int .u32 0, .int .u32 0, .slice none 0 0, .slice (some ⟨w.heap.size + 1, 0, none⟩) 1 1, .string ⟨#[]⟩, .int .i64 3, .int .u64 0, .int .u32 4294967295, .int .u32 1, .int .u32 0, .int .i64 1, .int .u64 2, .int .u32 0, .int .u32 0, .slice none 0 0, .slice none 0 0, .string ⟨#[]⟩] 43) := ⟨_, rfl⟩; have hb2 : Below w2.heap.size w2 w3 := by rw [hw3]; exact Below.al (Below.refl _ _) _
 have k2 : w2.heap[w.heap.size + 1]? = some (.cells #[.string ⟨#[107]⟩, .bool false, .string ⟨#[118]⟩] 103 (0, 0)) := by rw [← s1, hw2]; exact World.alloc_heap_new _ _
 have HA : Hid (HeadAt w3 (w.heap.size + 1 + 1) (w.heap.size + 1) ∧ w.heap.size ≤ w.heap.size + 1) := by
  refine hid ⟨head_at ?_ ((hb2.block _ (by omega)).trans k2), by omega⟩; rw [← s2, hw3]; exact World.alloc_heap_new _ _
 have hb : Below w.heap.size w w3 := by rw [hw3, hw2, hw1]; exact Below.al (Below.al (Below.al (Below.refl _ _) _) _) _
 subst hw1; subst hw2; have HB := hid hb; clear hb hb2 k2 s1 s2; go_enter Tryz.func17, Tryz.ntmps17
 go_wp2_with fail
 go_ret
 rw [← hw3]; exact ⟨_, rfl, ⟨_, HA⟩, HB.out⟩
theorem begun_is (w : World) (n : Int) : Calls Tryz.prog 4 #[.int .u32 n] w fun e w' => ∃ p, e = .returned (sp p) ∧ Hid (Sta w.heap.size w' p (hdS n 3)) ∧ Below w.heap.size w w' := by
 have NW := hid (new_is w n); have HD := hid Head_is; go_enter Tryz.func4, Tryz.ntmps4
 go_wp2_with fail
 refine NW.out.mono ?_; rintro e w1 ⟨rfl, T, hb1⟩; have T1 : Sta w.heap.size w1 w.heap.size (hdS n 0) := ⟨_, none, none, none, [], [], T, fun b hb => by
  rcases hb with hb | hb | hb | hb | hb
  ·exact Nat.le_of_eq hb.symm
  ·exact Nat.le_of_eq hb.symm
  ·cases hb
  ·cases hb
  ·cases hb⟩
 have HT1 := hid T1; have HB1 := hid hb1; clear T T1 hb1 NW; go_wp2_with fail
 refine (HD.out _).mono ?_; rintro e w2 ⟨g, h, rfl, HA, hb2⟩; have HT2 := hid (HT1.out.later hb2); have HB2 := hid (Below.on HB1.out hb2); have HH := hid HA.out.1; clear hb2 HA HT1 HB1 HD; go_wp2_with fail
 go_loopg [5] 3 (fun gg s5 wr => ∃ k : Nat, k ≤ 3 ∧ gg = 3 - k ∧ s5 = .int .i64 k ∧ Hid (Sta w.heap.size wr w.heap.size (hdS n k)) ∧ Hid (HeadAt wr g h) ∧ Hid (Below w.heap.size w wr))
 case atStart => exact ⟨0, by omega, by omega, rfl, HT2, HH, HB2⟩
 case round =>
  obtain ⟨k, hk, rfl, rfl, HT, HA, HB⟩ := hrel; clear HT2 HH HB2; by_cases hlt : k < 3
  ·have bx := HA.out.box k hlt; have b0 := bx.c0; have b1 := bx.c1; have b2 := bx.c2; have b3 := bx.c3; have b4 := bx.c4; have b5 := bx.c5; have b6 := bx.c6; have b7 := bx.c7; have b8 := bx.c8; have b9 := bx.c9; have b10 := bx.c10; have b11 := bx.c11
   have hs := hd_step n h k hlt; have AP : Hid (Calls Tryz.prog 6 #[sp w.heap.size, (hdR h k).val] wr fun e w' => e = .returned (.int .i64 0) ∧ Hid (Sta w.heap.size w' w.heap.size (hdS n (k + 1)) ∧ Chg w.heap.size wr w')) := by
    have := HT.out.apply HB.out.size (hdR h k) (hd_ok HA.out k) (hd_rgr h k) (hd_k h k) (hd_cnt n k) (hd_jb n h k); rw [hs.1, hs.2] at this; exact hid this
   clear bx hs; go_wp2_with fail
   refine AP.out.mono ?_; rintro e w3 ⟨rfl, HP⟩; have HA3 := hid (HA.out.chg HP.out.2); have HB3 := hid (HB.out.trans (HP.out.2.below HB.out.size)); clear b0 b1 b2 b3 b4 b5 b6 b7 b8 b9 b10 b11 AP; go_wp2_with fail
   go_roundg (3 - (k + 1))
   case measure => omega
   case rel => exact ⟨k + 1, by omega, rfl, by go_num, hid HP.out.1, HA3, HB3⟩
  ·obtain rfl : k = 3 := by omega
   go_wp2_with fail
   go_ret
   exact ⟨_, rfl, HT, HB.out⟩
end Go.Proofs.YtneojeidpfjpbaaGreatDoor.Ys
namespace Go.Proofs.YtneojeidpfjpbaaGreatDoor.Ig
open Go.RowKit Go.Sort Ys
theorem rdF_512 (M : Vs.Mst) (mk : Vs.Sp) (lo hi : ByteArray) (t : Vs.Sp) : (Vs.rdL M mk lo hi t).length ≤ 512 := by
 unfold Vs.rdL; split
 ·rename_i h; unfold Vs.rdE at h; split at h
  ·cases h
  ·split at h
   ·cases h
   ·omega
 ·simp
theorem sta_read {B : Nat} {w : World} {p : Nat} {s : Ps} (T : Sta B w p s) (hn : Vs.countM s.M ≤ 268435456) (lo hi : ByteArray) (t : Vs.Sp) :
  Calls Tryz.prog 44 #[sp p, .agg #[.string lo, .string hi], .agg #[.int .u64 t.a, .int .u32 t.b, .int .u32 t.c]] w fun e w' => ∃ (a : Option Addr) (n c : Nat), e = .returned (.tuple #[.slice a n c, .int .i64 (Vs.rdE s.M s.wm lo hi t)]) ∧ Hid (RdO w.heap.size w' a n c (Vs.rdL s.M s.wm lo hi t)) ∧ Below w.heap.size w w' := by
 obtain ⟨F, m1, m2, m, V, I, T, hl⟩ := T; exact sread_is T hn lo hi t
theorem Run.raise {n : Int} {i : Nat} {s : Ps} (h : Run n i s) (L : Nat) : Run n i { s with lo := L } := by
 obtain ⟨t, nd, ⟨C, R, H, h1, h2⟩, el⟩ := h; exact ⟨⟨t.ceil, t.node, t.wm, t.vr, t.en, t.hd, t.nd, t.lc⟩, nd, ⟨C, R, ⟨H.cm, H.ord, H.last, H.low, H.wmu, H.clt, H.cok, H.ver, H.held, H.hok, H.rdy, H.read, H.cnt, H.hln⟩, h1, h2⟩, el⟩
def axL (s : Ps) (rs : List Rg) : Ps := rs.foldl axS s
theorem axL_snoc (s : Ps) (rs : List Rg) (r : Rg) : axL s (rs ++ [r]) = axS (axL s rs) r := by simp [axL]
theorem axL_take {s : Ps} {rs : List Rg} {k : Nat} {r : Rg} (h : rs[k]? = some r) : axL s (rs.take (k + 1)) = axS (axL s (rs.take k)) r := by
 rw [List.take_add_one, h]; exact axL_snoc _ _ _
theorem Eqv.axl : ∀ {rs : List Rg} {s t : Ps}, Eqv s t → Eqv (axL s rs) (axL t rs)
 | [], _, _, h => h
 | r :: rs, _, _, h => Eqv.axl (rs := rs) (h.ax r).2
theorem eqv_lo {n : Int} {i : Nat} {s : Ps} (h : Run n i s) (hn : (s.H.map Lk.Hd.id).Nodup) (L : Nat) : Eqv { s with lo := L } s := ⟨rfl, rfl, rfl, rfl, rfl, rfl, List.Perm.refl _, List.Perm.refl _, hn, h.tw.nd⟩
structure Mt (B : Nat) (w : World) (p q : Nat) (n : Int) (rs : List Rg) (s0 S : Ps) (k : Nat) : Prop where
 tw : Two B w p S q (axL s0 (rs.take k))
 run : Run n k (axL s0 (rs.take k))
section
variable {B : Nat} {w w' : World} {p q : Nat} {n : Int} {rs : List Rg} {s0 S : Ps} {k : Nat}
theorem Mt.later (h : Mt B w p q n rs s0 S k) (hb : Below w.heap.size w w') : Mt B w' p q n rs s0 S k := ⟨h.tw.later hb, h.run⟩
theorem Mt.apply (h : Mt B w p q n rs s0 S k) (hB : B ≤ w.heap.size) (hk : k ≤ 93000) {r : Rg} (hr0 : rs[k]? = some r) {g1 g2 : Nat} (hr : (r.own g1 g2).ok w) (hR : RgR r) (hx : RgX r) :
  Calls Tryz.prog 6 #[sp q, (r.own g1 g2).val] w fun e w' => ∃ E, e = .returned (.int .i64 E) ∧ Hid (Mt B w' p q n rs s0 S (k + 1) ∧ Below B w w') := by
 refine (h.tw.swap.applyOwn hB hr hR h.run.ceil (run_cnt h.run hk) (fun _ => h.run.jb)).mono ?_; rintro e w' ⟨rfl, H⟩; obtain ⟨I, hI⟩ := h.tw.two.okI; have e1 := axL_take (s := s0) hr0; refine ⟨_, rfl, hid ⟨⟨?_, ?_⟩, H.out.2⟩⟩
 ·rw [e1]; exact H.out.1.swap
 ·rw [e1]; exact h.run.step h.tw.two.good hI hR hx
end
structure Q2 (B : Nat) (w : World) (p q : Nat) (n : Int) (k : Nat) (s t : Ps) : Prop where
 tw : Two B w p s q t
 run : Run n k s
 eq : Eqv s t
 hk : k ≤ 93000
section
variable {B : Nat} {w w' : World} {p q : Nat} {n : Int} {k : Nat} {s t : Ps}
theorem Q2.later (h : Q2 B w p q n k s t) (hb : Below w.heap.size w w') : Q2 B w' p q n k s t := ⟨h.tw.later hb, h.run, h.eq, h.hk⟩
theorem Q2.image1 (h : Q2 B w p q n k s t) : Calls Tryz.prog 9 #[sp p] w fun e w' => e = .returned (.string (ofNats (imgB s))) ∧ Below w.heap.size w w' := sta_image h.tw.one (h.run.imOk h.hk) (h.run.len h.hk)
theorem Q2.image2 (h : Q2 B w p q n k s t) : Calls Tryz.prog 9 #[sp q] w fun e w' => e = .returned (.string (ofNats (imgB s))) ∧ Below w.heap.size w w' := by
 rw [← h.eq.img]; exact sta_image h.tw.two (h.eq.imOk (h.run.imOk h.hk)) (by rw [h.eq.img]; exact h.run.len h.hk)
theorem Q2.sH (h : Q2 B w p q n k s t) : srt Lk.Hd.id t.H = srt Lk.Hd.id s.H := (srt_same h.eq.hn h.eq.H.symm).symm
theorem Q2.sE (h : Q2 B w p q n k s t) : srt Lg.En.id t.E = srt Lg.En.id s.E := (srt_same h.eq.en h.eq.E.symm).symm
theorem Q2.hl (h : Q2 B w p q n k s t) : s.H.length ≤ 93000 := Nat.le_trans h.run.hl h.hk
theorem Q2.cnt (h : Q2 B w p q n k s t) : Vs.countM s.M ≤ 1500000 := by have := h.run.cnt; have := h.hk; omega
theorem sta_held (h : Sta B w p s) (hl : s.H.length ≤ 93000) :
  Calls Tryz.prog 10 #[sp p] w fun e w' => ∃ (U : List Lk.Hv) (a : Option Addr) (c : Nat), e = .returned (.slice a U.length c) ∧ Hid (Lk.Gv w.heap.size w' a U.length c U) ∧ Hid (∀ u ∈ U, u.ok w') ∧ Hid (U.map Lk.Hv.h = srt Lk.Hd.id s.H) ∧ Hid (Below w.heap.size w w') := by
 obtain ⟨F, m1, m2, m, V, I, T, _⟩ := h; exact heldF_is T (by have := congrArg List.length T.h; rw [List.length_map] at this; omega)
theorem Q2.held1 (h : Q2 B w p q n k s t) : Calls Tryz.prog 10 #[sp p] w fun e w' => ∃ (U : List Lk.Hv) (a : Option Addr) (c : Nat), e = .returned (.slice a U.length c) ∧ Hid (Lk.Gv w.heap.size w' a U.length c U) ∧ Hid (∀ u ∈ U, u.ok w') ∧ Hid (U.map Lk.Hv.h = srt Lk.Hd.id s.H) ∧ Hid (Below w.heap.size w w') := sta_held h.tw.one h.hl
theorem Q2.held2 (h : Q2 B w p q n k s t) : Calls Tryz.prog 10 #[sp q] w fun e w' => ∃ (U : List Lk.Hv) (a : Option Addr) (c : Nat), e = .returned (.slice a U.length c) ∧ Hid (Lk.Gv w.heap.size w' a U.length c U) ∧ Hid (∀ u ∈ U, u.ok w') ∧ Hid (U.map Lk.Hv.h = srt Lk.Hd.id s.H) ∧ Hid (Below w.heap.size w w') := by
 rw [← h.sH]; exact sta_held h.tw.two (by rw [h.eq.H.length_eq]; exact h.hl)
theorem sta_entries (h : Sta B w p s) (hl : s.E.length ≤ 3518437208882) :
  Calls Tryz.prog 33 #[sp p] w fun e w' => ∃ (a : Option Addr) (c : Nat), e = .returned (.slice a (srt Lg.En.id s.E).length c) ∧ Hid (Lg.OwnL w.heap.size w' (.slice a (srt Lg.En.id s.E).length c) (srt Lg.En.id s.E).length (srt Lg.En.id s.E)) ∧ Hid (Below w.heap.size w w') := by
 obtain ⟨F, m1, m2, m, V, I, T, _⟩ := h; refine (Entries_is T hl).mono ?_; rintro e w' ⟨U, a, c, he, h1, h2, h3⟩; have hU := h2.out; subst hU; exact ⟨a, c, he, h1, h3⟩
theorem Q2.entries1 (h : Q2 B w p q n k s t) : Calls Tryz.prog 33 #[sp p] w fun e w' => ∃ (a : Option Addr) (c : Nat), e = .returned (.slice a (srt Lg.En.id s.E).length c) ∧ Hid (Lg.OwnL w.heap.size w' (.slice a (srt Lg.En.id s.E).length c) (srt Lg.En.id s.E).length (srt Lg.En.id s.E)) ∧ Hid (Below w.heap.size w w') :=
 sta_entries h.tw.one (by have := h.run.el; have := h.hk; omega)
theorem Q2.entries2 (h : Q2 B w p q n k s t) : Calls Tryz.prog 33 #[sp q] w fun e w' => ∃ (a : Option Addr) (c : Nat), e = .returned (.slice a (srt Lg.En.id s.E).length c) ∧ Hid (Lg.OwnL w.heap.size w' (.slice a (srt Lg.En.id s.E).length c) (srt Lg.En.id s.E).length (srt Lg.En.id s.E)) ∧ Hid (Below w.heap.size w w') := by
 rw [← h.sE]; exact sta_entries h.tw.two (by rw [h.eq.E.length_eq]; have := h.run.el; have := h.hk; omega)
theorem sta_versions (h : Sta B w p s) (hl : Vs.countM s.M ≤ 1500000) :
  Calls Tryz.prog 36 #[sp p] w fun e w' => ∃ (a : Option Addr) (c : Nat), e = .returned (.slice a (Vs.dumpM s.M).length c) ∧ Hid (Vs.OwnV w' w.heap.size (.slice a (Vs.dumpM s.M).length c) (Vs.dumpM s.M)) ∧ Hid (Below w.heap.size w w') := by
 obtain ⟨F, m1, m2, m, V, I, T, _⟩ := h; exact Versions_is T hl
theorem Q2.versions1 (h : Q2 B w p q n k s t) : Calls Tryz.prog 36 #[sp p] w fun e w' => ∃ (a : Option Addr) (c : Nat), e = .returned (.slice a (Vs.dumpM s.M).length c) ∧ Hid (Vs.OwnV w' w.heap.size (.slice a (Vs.dumpM s.M).length c) (Vs.dumpM s.M)) ∧ Hid (Below w.heap.size w w') := sta_versions h.tw.one h.cnt
theorem Q2.versions2 (h : Q2 B w p q n k s t) : Calls Tryz.prog 36 #[sp q] w fun e w' => ∃ (a : Option Addr) (c : Nat), e = .returned (.slice a (Vs.dumpM s.M).length c) ∧ Hid (Vs.OwnV w' w.heap.size (.slice a (Vs.dumpM s.M).length c) (Vs.dumpM s.M)) ∧ Hid (Below w.heap.size w w') := by
 rw [← h.eq.M]; exact sta_versions h.tw.two (by rw [h.eq.M]; exact h.cnt)
theorem Q2.read1 (h : Q2 B w p q n k s t) (lo hi : ByteArray) (x : Vs.Sp) : Calls Tryz.prog 44 #[sp p, .agg #[.string lo, .string hi], .agg #[.int .u64 x.a, .int .u32 x.b, .int .u32 x.c]] w fun e w' => ∃ (a : Option Addr) (c : Nat), e = .returned (.tuple #[.slice a (Vs.rdL s.M s.wm lo hi x).length c, .int .i64 (Vs.rdE s.M s.wm lo hi x)]) ∧ Hid (Vs.OwnP w' w.heap.size (.slice a (Vs.rdL s.M s.wm lo hi x).length c) (Vs.rdL s.M s.wm lo hi x)) ∧ Hid (Below w.heap.size w w') := by
 refine (sta_read h.tw.one (by have := h.cnt; omega) lo hi x).mono ?_; rintro e w' ⟨a, m, c, he, h1, h2⟩; have := h1.out; obtain ⟨e1, h3⟩ := this; subst e1; exact ⟨a, c, he, hid h3, hid h2⟩
theorem Q2.read2 (h : Q2 B w p q n k s t) (lo hi : ByteArray) (x : Vs.Sp) : Calls Tryz.prog 44 #[sp q, .agg #[.string lo, .string hi], .agg #[.int .u64 x.a, .int .u32 x.b, .int .u32 x.c]] w fun e w' => ∃ (a : Option Addr) (c : Nat), e = .returned (.tuple #[.slice a (Vs.rdL s.M s.wm lo hi x).length c, .int .i64 (Vs.rdE s.M s.wm lo hi x)]) ∧ Hid (Vs.OwnP w' w.heap.size (.slice a (Vs.rdL s.M s.wm lo hi x).length c) (Vs.rdL s.M s.wm lo hi x)) ∧ Hid (Below w.heap.size w w') := by
 have h0 := sta_read h.tw.two (by rw [h.eq.M]; have := h.cnt; omega) lo hi x; rw [h.eq.M, h.eq.wm] at h0; refine h0.mono ?_; rintro e w' ⟨a, m, c, he, h1, h2⟩; have := h1.out; obtain ⟨e1, h3⟩ := this; subst e1; exact ⟨a, c, he, hid h3, hid h2⟩
theorem sta_blocks (h : Sta B w p s) (hl : s.H.length ≤ 93000) (h16 : ∀ x ∈ s.H, x.ws.length ≤ 16) (lo hi : ByteArray) (x : Vs.Sp) :
  Calls Tryz.prog 45 #[sp p, .agg #[.string lo, .string hi], .agg #[.int .u64 x.a, .int .u32 x.b, .int .u32 x.c]] w fun e w' => ∃ (a : Option Addr) (c : Nat), e = .returned (.slice a (bids s lo hi x).length c) ∧ Hid (Lk.OwnI w.heap.size w' (.slice a (bids s lo hi x).length c) (bids s lo hi x).length (bids s lo hi x)) ∧ Hid (Below w.heap.size w w') := by
 obtain ⟨F, m1, m2, m, V, I, T, _⟩ := h; refine blocksI_is T ?_ lo hi x; have := ints_len (T.h ▸ T.tb.ok) h16; omega
theorem Q2.h16 (h : Q2 B w p q n k s t) : ∀ x ∈ s.H, x.rs.length ≤ 16 ∧ x.ws.length ≤ 16 := fun x hx => held_short (h.run.tw.hd x hx).2.1
theorem Q2.blocks1 (h : Q2 B w p q n k s t) (lo hi : ByteArray) (x : Vs.Sp) : Calls Tryz.prog 45 #[sp p, .agg #[.string lo, .string hi], .agg #[.int .u64 x.a, .int .u32 x.b, .int .u32 x.c]] w fun e w' => ∃ (a : Option Addr) (c : Nat), e = .returned (.slice a (bids s lo hi x).length c) ∧ Hid (Lk.OwnI w.heap.size w' (.slice a (bids s lo hi x).length c) (bids s lo hi x).length (bids s lo hi x)) ∧ Hid (Below w.heap.size w w') :=
 sta_blocks h.tw.one h.hl (fun x hx => (h.h16 x hx).2) lo hi x
theorem Q2.blocks2 (h : Q2 B w p q n k s t) (lo hi : ByteArray) (x : Vs.Sp) : Calls Tryz.prog 45 #[sp q, .agg #[.string lo, .string hi], .agg #[.int .u64 x.a, .int .u32 x.b, .int .u32 x.c]] w fun e w' => ∃ (a : Option Addr) (c : Nat), e = .returned (.slice a (bids s lo hi x).length c) ∧ Hid (Lk.OwnI w.heap.size w' (.slice a (bids s lo hi x).length c) (bids s lo hi x).length (bids s lo hi x)) ∧ Hid (Below w.heap.size w w') := by
 have e : bids t lo hi x = bids s lo hi x := by unfold bids; rw [h.sH]
 rw [← e]; exact sta_blocks h.tw.two (by rw [h.eq.H.length_eq]; exact h.hl) (fun y hy => (h.h16 y (h.eq.H.mem_iff.1 hy)).2) lo hi x
theorem bids_len (s : Ps) (lo hi : ByteArray) (x : Vs.Sp) : (bids s lo hi x).length ≤ s.H.length := by
 unfold bids; rw [List.length_map]; exact Nat.le_trans (List.length_filter_le _ _) (Nat.le_of_eq (srt_len _))
end
end Go.Proofs.YtneojeidpfjpbaaGreatDoor.Ig
