import Derived.Test.YtogjhpknlopajaaXBkNew
/- told: is the call's answer the document's? -/
namespace Go.Proofs.Ytogjhpknlopajaa.Lg
open Go.RowKit Go.Sort Go.Shelf Go.Lib Lk
set_option linter.unusedVariables false

/-- the book at bk, all of it at B and behind -/
structure Bk (B : Nat) (w : World) (bk : Nat) (P : Nat → Ld) (R : Nat → Rd) : Prop where
  S : St w bk P R
  le : B ≤ w.heap.size
  lo : B ≤ bk
  loL : ∀ i, i < 3 → ∀ b, ItsL (P i).p (P i).m b → B ≤ b
  loR : ∀ i, i < 3 → ∀ b, RItL (R i).q (R i).a (R i).n (R i).c b → B ≤ b
def lenP (P : Nat → Ld) : Nat := (P 0).M.length + (P 1).M.length + (P 2).M.length
theorem Bk.later {B bk : Nat} {w w' : World} {P : Nat → Ld} {R : Nat → Rd} (H : Bk B w bk P R) (hb : Below w.heap.size w w') : Bk B w' bk P R :=
  ⟨H.S.later hb, Nat.le_trans H.le hb.size, H.lo, H.loL, H.loR⟩
/-- what told leaves behind -/
def After (B : Nat) (w : World) (bk : Nat) (P : Nat → Ld) (w' : World) : Prop := ∃ P' R', Hid (Bk B w' bk P' R') ∧ Hid (lenP P' ≤ lenP P + 1) ∧ Hid (Below B w w')
theorem Bk.read {B bk : Nat} {w w' : World} {P : Nat → Ld} {R : Nat → Rd} (H : Bk B w bk P R) (hb : Below w.heap.size w w') : After B w bk P w' :=
  ⟨P, R, H.later hb, hid (by omega), hb.mono H.le⟩
theorem lenP_upd {P : Nat → Ld} {j : Nat} {x : Ld} (hj : j < 3) (h : x.M.length ≤ (P j).M.length + 1) : lenP (upd P j x) ≤ lenP P + 1 := by
  match j, hj with
  | 0, _ => simp [lenP, upd]; omega
  | 1, _ => simp [lenP, upd]; omega
  | 2, _ => simp [lenP, upd]; omega
/-- behind a Decide on both -/
theorem Bk.dec {B bk j : Nat} {w wm w1 w2 w3 w4 : World} {P : Nat → Ld} {R : Nat → Rd} {m' : Option Nat} {a' : Option Addr} {n' c' : Nat} {M' : List En} (H : Bk B w bk P R) (hm : Below w.heap.size w wm) (hj : j < 3) (L1 : Lg w1 (P j).p m' M') (i1 : m' = (P j).m ∨ ∃ b, m' = some b ∧ wm.heap.size ≤ b) (o1 : Onl (ItsL (P j).p (P j).m) wm w1) (b2 : Below w1.heap.size w1 w2)
    (D3 : Rl w3 (R j).q a' n' c' M') (i3 : ∀ b, RItL (R j).q a' n' c' b → RItL (R j).q (R j).a (R j).n (R j).c b ∨ w2.heap.size ≤ b) (o3 : Onl (RItL (R j).q (R j).a (R j).n (R j).c) w2 w3) (b4 : Below w3.heap.size w3 w4) (hM : M'.length ≤ (P j).M.length + 1) : After B w bk P w4 := by
  have S3 := (H.S.later hm).dec hj L1 i1 o1 b2 D3 i3 o3
  have hs1 := hm.size
  have hs2 := o1.size
  have hs3 := b2.size
  have hs4 := o3.size
  have hs5 := b4.size
  have hle := H.le
  have k1 : Below B w wm := hm.mono H.le
  have k2 : Below B wm w1 := o1.below (fun b hb => H.loL j hj b hb) (by omega)
  have k3 : Below B w1 w2 := b2.mono (by omega)
  have k4 : Below B w2 w3 := o3.below (fun b hb => H.loR j hj b hb) (by omega)
  have k5 : Below B w3 w4 := b4.mono (by omega)
  refine ⟨_, _, ⟨S3.later b4, by omega, H.lo, fun i hi b hb => ?_, fun i hi b hb => ?_⟩, lenP_upd hj hM, (((k1.trans k2).trans k3).trans k4).trans k5⟩
  · by_cases h : i = j
    · subst h
      rw [upd_same] at hb
      rcases hb with e | e
      · exact H.loL i hi b (.inl e)
      · rcases i1 with h | ⟨b2, h, hb⟩
        · exact H.loL i hi b (.inr (by rw [← h]; exact e))
        · have e : m' = some b := e
          rw [e] at h; injection h with h; omega
    · rw [upd_ne h] at hb; exact H.loL i hi b hb
  · by_cases h : i = j
    · subst h
      rw [upd_same] at hb
      rcases i3 b hb with h | h
      · exact H.loR i hi b h
      · omega
    · rw [upd_ne h] at hb; exact H.loR i hi b hb
/-- behind a New on both -/
theorem Bk.new {B bk j sp sq : Nat} {w w1 w2 w3 w4 w5 : World} {P : Nat → Ld} {R : Nat → Rd} (H : Bk B w bk P R) (hm : Below w.heap.size w w1) (hj : j < 3) (L1 : Lg w1 sp none []) (hsp : w.heap.size ≤ sp) (h2 : w2 = w1.setCell ⟨bk, j, none⟩ (.pointer (some ⟨sp, 0, none⟩))) (b3 : Below w2.heap.size w2 w3)
    (D3 : Rl w3 sq none 0 0 []) (hsq : w2.heap.size ≤ sq) (h4 : w4 = w3.setCell ⟨bk, 3 + j, none⟩ (.pointer (some ⟨sq, 0, none⟩))) (b5 : Below w4.heap.size w4 w5) : After B w bk P w5 := by
  have S4 := H.S.new hm hj L1 hsp h2 b3 D3 hsq h4
  have o2 : Onl (fun b => b = bk) w1 w2 := by rw [h2]; exact (Onl.refl (fun b => b = bk) _).set (p := bk) rfl _ _
  have o4 : Onl (fun b => b = bk) w3 w4 := by rw [h4]; exact (Onl.refl (fun b => b = bk) _).set (p := bk) rfl _ _
  have hs1 := hm.size
  have hs2 := o2.size
  have hs3 := b3.size
  have hs4 := o4.size
  have hs5 := b5.size
  have hle := H.le
  have hlo := H.lo
  have k1 : Below B w w1 := hm.mono H.le
  have k2 : Below B w1 w2 := o2.below (fun b hb => by omega) (by omega)
  have k3 : Below B w2 w3 := b3.mono (by omega)
  have k4 : Below B w3 w4 := o4.below (fun b hb => by omega) (by omega)
  have k5 : Below B w4 w5 := b5.mono (by omega)
  refine ⟨_, _, ⟨S4.later b5, by omega, H.lo, fun i hi b hb => ?_, fun i hi b hb => ?_⟩, lenP_upd hj (by simp), (((k1.trans k2).trans k3).trans k4).trans k5⟩
  · by_cases h : i = j
    · subst h
      rw [upd_same] at hb
      rcases hb with e | e
      · have e : b = sp := e
        omega
      · cases e
    · rw [upd_ne h] at hb; exact H.loL i hi b hb
  · by_cases h : i = j
    · subst h
      rw [upd_same] at hb
      rcases hb with e | e
      · have e : b = sq := e
        omega
      · cases e
    · rw [upd_ne h] at hb; exact H.loR i hi b hb
theorem BoxE.onl {F : Nat → Prop} {w w' : World} {q : Nat} {f : En} (h : BoxE w q f) (ho : Onl F w w') (hq : ¬ F q) : BoxE w' q f :=
  ⟨ho.cell hq h.1, ho.cell hq h.2.1, ho.cell hq h.2.2.1, ho.cell hq h.2.2.2.1, ho.cell hq h.2.2.2.2.1, ho.cell hq h.2.2.2.2.2.1, ho.cell hq h.2.2.2.2.2.2⟩
theorem decM_len (M : List En) (e : En) : (decM M e).length ≤ M.length + 1 := by
  unfold decM
  repeat' split
  all_goals simp
theorem boxO (w : World) (κ ι : Int) (e : En) (ap : Option Addr) (n c : Nat) : ∀ i v, ([.int .i64 κ, .int .i64 ι, .int .u32 e.id.1, .int .u32 e.id.2, .int .u32 e.home, .int .i64 e.oc, .int .u64 e.w, .int .u32 e.l, .int .u32 e.n, .slice ap n c] : List Value)[i]? = some v → (w.alloc (.cells #[.int .i64 κ, .int .i64 ι, .int .u32 e.id.1, .int .u32 e.id.2, .int .u32 e.home, .int .i64 e.oc, .int .u64 e.w, .int .u32 e.l, .int .u32 e.n, .slice ap n c] 95)).cell? ⟨w.heap.size, i, none⟩ = some v := fun i v hi => by
  refine cell_of_obj (MapKept.heap_alloc _ _).1 ?_
  rw [← hi]
  simp
set_option maxRecDepth 100000 in
set_option maxHeartbeats 8000000 in
theorem told_is {w : World} {B bk : Nat} {P : Nat → Ld} {R : Nat → Rd} {κ ι : Int} {e : En} {ap : Option Addr} {n c : Nat} {ns : List Int} (H : Bk B w bk P R) (hrow : RowI w ap ns) (hn : ns.length = n) (hl : n + 1 ≤ 17592186044416) (hlen : lenP P ≤ 3518437208881) :
    Calls Try.prog 46 #[.pointer (some ⟨bk, 0, none⟩), .agg #[.int .i64 κ, .int .i64 ι, .int .u32 e.id.1, .int .u32 e.id.2, .int .u32 e.home, .int .i64 e.oc, .int .u64 e.w, .int .u32 e.l, .int .u32 e.n, .slice ap n c]] w fun r w' => r = .returned (.bool true) ∧ After B w bk P w' := by
  have HH := hid H
  have HR := hid hrow
  have HLN := hid hn
  have HLEN := hid hlen
  obtain ⟨wx, hwx⟩ : ∃ wx, wx = w.alloc (.cells #[.int .i64 κ, .int .i64 ι, .int .u32 e.id.1, .int .u32 e.id.2, .int .u32 e.home, .int .i64 e.oc, .int .u64 e.w, .int .u32 e.l, .int .u32 e.n, .slice ap n c] 95) := ⟨_, rfl⟩
  have HX : Hid (Below w.heap.size w wx) := by rw [hwx]; exact Below.al (Below.refl _ _) _
  have HBX : Hid (∀ i v, ([.int .i64 κ, .int .i64 ι, .int .u32 e.id.1, .int .u32 e.id.2, .int .u32 e.home, .int .i64 e.oc, .int .u64 e.w, .int .u32 e.l, .int .u32 e.n, .slice ap n c] : List Value)[i]? = some v → wx.cell? ⟨w.heap.size, i, none⟩ = some v) := by rw [hwx]; exact boxO w κ ι e ap n c
  have HXS : Hid (w.heap.size < wx.heap.size) := hid (by rw [hwx]; exact (Array.getElem?_eq_some_iff.1 (MapKept.heap_alloc _ _).1).1)
  have HSX : Hid (St wx bk P R) := H.S.later HX.out
  clear H hrow hn hlen
  have q0 := HBX.out 0 _ rfl
  have q1 := HBX.out 1 _ rfl
  have DIF := hid (bookdiffer_is (c := c) HSX.out (RowC.later HR.out HX.out) HLN.out hl (Nat.le_trans HLEN.out (by decide)))
  rw [hwx] at q0 q1
  by_cases h7 : κ = 7
  · subst h7
    have q9 := HBX.out 9 _ rfl
    rw [hwx] at q9
    clear q1
    go_enter Try.func46, Try.ntmps46
    go_wp2_with fail
    rw [← hwx]
    refine DIF.out.mono ?_
    rintro r w1 ⟨rfl, hb1⟩
    have HA : Hid (After B w bk P w1) := HH.out.read (Below.on HX.out hb1)
    clear hb1
    go_wp2_with fail
    go_ret
    exact ⟨by simp, HA.out⟩
  have e7 : (κ == 7) = false := by simpa using h7
  clear h7 DIF
  by_cases hin : 0 ≤ ι ∧ ι ≤ 2
  · obtain ⟨j, rfl⟩ : ∃ j : Nat, ι = (j : Int) := ⟨ι.toNat, by omega⟩
    have hj : j < 3 := by omega
    have d1 : decide ((j : Int) < 0) = false := decide_eq_false (by omega)
    have d2 : decide ((2 : Int) < (j : Int)) = false := decide_eq_false (by omega)
    have hj1 : (j : Int) < 3 := by omega
    have hj0 : (0 : Int) ≤ (j : Int) := by omega
    clear hin
    go_enter Try.func46, Try.ntmps46
    go_wp2_with fail
    rw [← hwx]
    rw [← hwx] at q0 q1
    clear hwx d1 d2 e7
    have c1 := cell_regrown (HSX.out.c1 hj)
    have s1 := cell_regrown q1
    refine wp_region_quiet_below (by kernel_rfl) (by kernel_rfl) ?_
    repeat (go_big_quiet_step (fail))
    refine wpQuiet_nil ?_
    intro wn hwn
    replace hwn := below_of_regrown hwn
    have HXN : Hid (Below wx.heap.size wx wn) := hwn
    have c1 := cell_regrown ((HSX.out.later HXN.out).c2 hj)
    have s1 := cell_regrown (cell_later HXN.out q1)
    clear hwn
    go_wp2_with fail
    refine wp_region_quiet_below (by kernel_rfl) (by kernel_rfl) ?_
    repeat (go_big_quiet_step (fail))
    refine wpQuiet_nil ?_
    intro wm hwn
    replace hwn := below_of_regrown hwn
    have HXM : Hid (Below wx.heap.size wx wm) := Below.on HXN.out hwn
    have HWM : Hid (Below w.heap.size w wm) := Below.on HX.out HXM.out
    have HSM : Hid (St wm bk P R) := HSX.out.later HXM.out
    have HBM : Hid (∀ i v, ([.int .i64 κ, .int .i64 (j : Int), .int .u32 e.id.1, .int .u32 e.id.2, .int .u32 e.home, .int .i64 e.oc, .int .u64 e.w, .int .u32 e.l, .int .u32 e.n, .slice ap n c] : List Value)[i]? = some v → wm.cell? ⟨w.heap.size, i, none⟩ = some v) := fun i v hi => cell_later HXM.out (HBX.out i v hi)
    have OK := hid (HSM.out.ok hj)
    have HLJ : Hid ((P j).M.length ≤ 3518437208881) := by
      refine hid ?_
      have h := HLEN.out
      unfold lenP at h
      match j, hj with
      | 0, _ => show (P 0).M.length ≤ _; omega
      | 1, _ => show (P 1).M.length ≤ _; omega
      | 2, _ => show (P 2).M.length ≤ _; omega
    have HWMS : Hid (w.heap.size < wm.heap.size) := hid (Nat.lt_of_lt_of_le HXS.out HXM.out.size)
    have q0 := cell_later HXM.out q0
    have q1 := cell_later HXM.out q1
    clear hwn c1 s1 HXN HXM HBX HSX HX
    by_cases h6 : κ = 6
    · subst h6
      obtain ⟨L, hL⟩ : ∃ L, L = (P j).M.length := ⟨_, rfl⟩
      have LEN : Hid (Calls Try.prog 23 #[.pointer (some ⟨(P j).p, 0, none⟩)] wm fun r w' => r = .returned (.int .i64 L) ∧ w' = wm) := by rw [hL]; exact len_is OK.out.L
      have RLEN : Hid (Calls Try.prog 63 #[.pointer (some ⟨(R j).q, 0, none⟩)] wm fun r w' => r = .returned (.int .i64 L) ∧ w' = wm) := by
        have e : (R j).n = L := by rw [hL, ← OK.out.D.len]; exact congrArg _ OK.out.same.symm
        rw [← e]; exact rlen_is OK.out.D
      have HA : Hid (After B w bk P wm) := HH.out.read HWM.out
      clear hL
      go_wp2_with fail
      refine LEN.out.mono ?_
      rintro r w1 ⟨rfl, rfl⟩
      go_wp2_with fail
      refine RLEN.out.mono ?_
      rintro r w2 ⟨rfl, rfl⟩
      go_wp2_with fail
      go_ret
      exact ⟨by simp, HA.out⟩
    by_cases h4 : κ = 4
    · subst h4
      have EB := hid (ent_both OK.out (Nat.le_trans HLJ.out (by decide)))
      obtain ⟨X, hX⟩ : ∃ X, X = srtL false (P j).M := ⟨_, rfl⟩
      obtain ⟨m, hm⟩ : ∃ m, m = (P j).M.length := ⟨_, rfl⟩
      have hXl : X.length = m := by rw [hX, hm, (srt_perm false _).length_eq]
      have EN : Hid (Calls Try.prog 19 #[.pointer (some ⟨(P j).p, 0, none⟩)] wm fun r w' => ∃ (a : Option Addr) (c : Nat), r = .returned (.slice a m c) ∧ Hid (RowC En.zero ecs 7 w' a X) ∧ Below wm.heap.size wm w') := by rw [hX, hm]; exact EB.out.1
      have RE : Hid (∀ W, Below wm.heap.size wm W → Calls Try.prog 61 #[.pointer (some ⟨(R j).q, 0, none⟩)] W fun r w' => ∃ (a : Option Addr) (c : Nat), r = .returned (.slice a m c) ∧ Hid (RowC En.zero ecs 7 w' a X) ∧ Below W.heap.size W w') := fun W hb => by rw [hX, hm]; exact (ent_both (OK.out.later hb) (Nat.le_trans HLJ.out (by decide))).2
      have SE : Hid (∀ (W : World) (a1 : Option Addr) (c1 : Nat) (a2 : Option Addr) (c2 : Nat), RowC En.zero ecs 7 W a1 X → RowC En.zero ecs 7 W a2 X → Calls Try.prog 42 #[.slice a1 m c1, .slice a2 m c2] W fun r w' => r = .returned (.bool true) ∧ Below W.heap.size W w') := fun W a1 c1 a2 c2 k1 k2 => sameEntries_is k1 k2 hXl (by have := HLJ.out; omega)
      clear hX hm hXl EB
      go_wp2_with fail
      refine EN.out.mono ?_
      rintro r w1 ⟨a1, c1, rfl, K1, hb1⟩
      have HB1 := hid hb1
      clear hb1 EN
      go_wp2_with fail
      refine (RE.out _ HB1.out).mono ?_
      rintro r w2 ⟨a2, c2, rfl, K2, hb2⟩
      have S2 := hid (SE.out w2 a1 c1 a2 c2 (RowC.later K1.out hb2) K2.out)
      have HB2 : Hid (Below wm.heap.size wm w2) := Below.on HB1.out hb2
      clear hb2 RE SE
      go_wp2_with fail
      refine S2.out.mono ?_
      rintro r w3 ⟨rfl, hb3⟩
      have HA : Hid (After B w bk P w3) := HH.out.read (Below.on HWM.out (Below.on HB2.out hb3))
      clear hb3 S2
      go_wp2_with fail
      go_ret
      exact ⟨by simp, HA.out⟩
    by_cases h3 : κ = 3
    · skip
      subst h3
      clear h4 h6
      obtain ⟨f, hf⟩ : ∃ f, f = (outM (P j).M e.id).getD En.zero := ⟨_, rfl⟩
      obtain ⟨ok, hok⟩ : ∃ ok, ok = (outM (P j).M e.id).isSome := ⟨_, rfl⟩
      have OUT : Hid (Calls Try.prog 12 #[.pointer (some ⟨(P j).p, 0, none⟩), .agg #[.int .u32 e.id.1, .int .u32 e.id.2]] wm fun r w' => r = .returned (.tuple #[.agg #[.int .u32 f.id.1, .int .u32 f.id.2, .int .u32 f.home, .int .i64 f.oc, .int .u64 f.w, .int .u32 f.l, .int .u32 f.n], .bool ok]) ∧ Below wm.heap.size wm w') := (outcome_is OK.out.L e.id).mono fun r w' ⟨g, o, h1, h2, h3, h4⟩ => by
        have e1 : g = f := by rw [hf]; exact h3.out
        have e2 : o = ok := by rw [hok]; exact h2.out
        subst e1 e2
        exact ⟨h1, h4.out⟩
      have ROUT : Hid (∀ W, Below wm.heap.size wm W → Calls Try.prog 60 #[.pointer (some ⟨(R j).q, 0, none⟩), .agg #[.int .u32 e.id.1, .int .u32 e.id.2]] W fun r w' => r = .returned (.tuple #[.agg #[.int .u32 f.id.1, .int .u32 f.id.2, .int .u32 f.home, .int .i64 f.oc, .int .u64 f.w, .int .u32 f.l, .int .u32 f.n], .bool ok]) ∧ Below W.heap.size W w') := fun W hb => (routcome_is (OK.out.D.later hb) e.id).mono fun r w' ⟨g, o, h1, h2, h3, h4⟩ => by
        have hs : (R j).M = (P j).M := OK.out.same.symm
        have e1 : g = f := by rw [hf, ← hs]; exact h3.out
        have e2 : o = ok := by rw [hok, ← hs]; exact h2.out
        subst e1 e2
        exact ⟨h1, h4.out⟩
      have t0 := HBM.out 2 _ rfl
      have t1 := HBM.out 3 _ rfl
      clear hf hok
      go_wp2_with fail
      refine OUT.out.mono ?_
      rintro r w1 ⟨rfl, hb1⟩
      obtain ⟨wE, hwE⟩ : ∃ wE, wE = w1.alloc (.cells #[.int .u32 f.id.1, .int .u32 f.id.2, .int .u32 f.home, .int .i64 f.oc, .int .u64 f.w, .int .u32 f.l, .int .u32 f.n] 33) := ⟨_, rfl⟩
      have HEE : Hid (Below wm.heap.size wm wE) := by rw [hwE]; exact Below.al hb1 _
      have HBE : Hid (BoxE wE w1.heap.size f) := by rw [hwE]; exact box_new _ _
      have y0 : (w1.alloc (.cells #[.int .u32 f.id.1, .int .u32 f.id.2, .int .u32 f.home, .int .i64 f.oc, .int .u64 f.w, .int .u32 f.l, .int .u32 f.n] 33)).cell? ⟨w.heap.size, 2, none⟩ = some (.int .u32 e.id.1) := by rw [← hwE]; exact cell_later HEE.out t0
      have y1 : (w1.alloc (.cells #[.int .u32 f.id.1, .int .u32 f.id.2, .int .u32 f.home, .int .i64 f.oc, .int .u64 f.w, .int .u32 f.l, .int .u32 f.n] 33)).cell? ⟨w.heap.size, 3, none⟩ = some (.int .u32 e.id.2) := by rw [← hwE]; exact cell_later HEE.out t1
      have RO := hid (ROUT.out _ HEE.out)
      clear hb1 OUT ROUT t0 t1
      go_wp2_with fail
      rw [← hwE]
      clear hwE y0 y1
      refine RO.out.mono ?_
      rintro r w2 ⟨rfl, hb2⟩
      have HB2 : Hid (Below wE.heap.size wE (w2.alloc (.cells #[.int .u32 f.id.1, .int .u32 f.id.2, .int .u32 f.home, .int .i64 f.oc, .int .u64 f.w, .int .u32 f.l, .int .u32 f.n] 33))) := Below.al hb2 _
      have HBE2 : Hid (BoxE (w2.alloc (.cells #[.int .u32 f.id.1, .int .u32 f.id.2, .int .u32 f.home, .int .i64 f.oc, .int .u64 f.w, .int .u32 f.l, .int .u32 f.n] 33)) w1.heap.size f) := HBE.out.later HB2.out
      have HBF2 : Hid (BoxE (w2.alloc (.cells #[.int .u32 f.id.1, .int .u32 f.id.2, .int .u32 f.home, .int .i64 f.oc, .int .u64 f.w, .int .u32 f.l, .int .u32 f.n] 33)) w2.heap.size f) := box_new _ _
      have HA : Hid (After B w bk P (w2.alloc (.cells #[.int .u32 f.id.1, .int .u32 f.id.2, .int .u32 f.home, .int .i64 f.oc, .int .u64 f.w, .int .u32 f.l, .int .u32 f.n] 33))) := HH.out.read (Below.on HWM.out (Below.on HEE.out HB2.out))
      have x0 : (w2.alloc (.cells #[.int .u32 f.id.1, .int .u32 f.id.2, .int .u32 f.home, .int .i64 f.oc, .int .u64 f.w, .int .u32 f.l, .int .u32 f.n] 33)).cell? ⟨w1.heap.size, 0, none⟩ = some (.int .u32 f.id.1) := HBE2.out.1
      have x1 : (w2.alloc (.cells #[.int .u32 f.id.1, .int .u32 f.id.2, .int .u32 f.home, .int .i64 f.oc, .int .u64 f.w, .int .u32 f.l, .int .u32 f.n] 33)).cell? ⟨w1.heap.size, 1, none⟩ = some (.int .u32 f.id.2) := HBE2.out.2.1
      have x2 : (w2.alloc (.cells #[.int .u32 f.id.1, .int .u32 f.id.2, .int .u32 f.home, .int .i64 f.oc, .int .u64 f.w, .int .u32 f.l, .int .u32 f.n] 33)).cell? ⟨w1.heap.size, 2, none⟩ = some (.int .u32 f.home) := HBE2.out.2.2.1
      have x3 : (w2.alloc (.cells #[.int .u32 f.id.1, .int .u32 f.id.2, .int .u32 f.home, .int .i64 f.oc, .int .u64 f.w, .int .u32 f.l, .int .u32 f.n] 33)).cell? ⟨w1.heap.size, 3, none⟩ = some (.int .i64 f.oc) := HBE2.out.2.2.2.1
      have x4 : (w2.alloc (.cells #[.int .u32 f.id.1, .int .u32 f.id.2, .int .u32 f.home, .int .i64 f.oc, .int .u64 f.w, .int .u32 f.l, .int .u32 f.n] 33)).cell? ⟨w1.heap.size, 4, none⟩ = some (.int .u64 f.w) := HBE2.out.2.2.2.2.1
      have x5 : (w2.alloc (.cells #[.int .u32 f.id.1, .int .u32 f.id.2, .int .u32 f.home, .int .i64 f.oc, .int .u64 f.w, .int .u32 f.l, .int .u32 f.n] 33)).cell? ⟨w1.heap.size, 5, none⟩ = some (.int .u32 f.l) := HBE2.out.2.2.2.2.2.1
      have x6 : (w2.alloc (.cells #[.int .u32 f.id.1, .int .u32 f.id.2, .int .u32 f.home, .int .i64 f.oc, .int .u64 f.w, .int .u32 f.l, .int .u32 f.n] 33)).cell? ⟨w1.heap.size, 6, none⟩ = some (.int .u32 f.n) := HBE2.out.2.2.2.2.2.2
      have qe : ∀ W', (binOp .eql 33 (.agg #[.int .u32 f.id.1, .int .u32 f.id.2, .int .u32 f.home, .int .i64 f.oc, .int .u64 f.w, .int .u32 f.l, .int .u32 f.n]) (.agg #[.int .u32 f.id.1, .int .u32 f.id.2, .int .u32 f.home, .int .i64 f.oc, .int .u64 f.w, .int .u32 f.l, .int .u32 f.n])).run Try.prog W' = .ok (.bool true) W' := fun W' => by
        have := run_eqE f f W'
        rw [sameE_self] at this
        exact this
      clear hb2 RO
      go_wp2_with fail
      go_ret
      exact ⟨by simp, HA.out⟩
    by_cases h5 : κ = 5
    · skip
      subst h5
      clear h3 h4 h6
      obtain ⟨X, hX⟩ : ∃ X, X = srtL true ((P j).M.filter (comB e.home)) := ⟨_, rfl⟩
      obtain ⟨m, hm⟩ : ∃ m, X.length = m := ⟨_, rfl⟩
      have hfl : m ≤ 3518437208881 := by
        have h1 := (srt_perm true ((P j).M.filter (comB e.home))).length_eq
        have h2 := List.length_filter_le (comB e.home) (P j).M
        have h3 := HLJ.out
        rw [← hX, hm] at h1
        omega
      have EN : Hid (∀ W, Below wm.heap.size wm W → Calls Try.prog 20 #[.pointer (some ⟨(P j).p, 0, none⟩), .int .u32 e.home] W fun r w' => ∃ (a : Option Addr) (c : Nat), r = .returned (.slice a m c) ∧ Hid (RowC En.zero ecs 7 w' a X) ∧ Below W.heap.size W w') := fun W hb => (commits_is (OK.out.L.later hb) (Nat.le_trans HLJ.out (by decide)) e.home).mono fun r w' ⟨a, n', c', U, h1, h2, h3, h4, h5, h6⟩ => by
        have e1 : U = X := by rw [hX]; exact coms_eq h4.out ((List.filter_sublist.map En.id).nodup OK.out.L.nodup) h5.out
        subst e1
        have e2 : n' = m := by rw [← h2.out, hm]
        subst e2
        exact ⟨a, c', h1, own_row h3.out h2.out, h6.out⟩
      have RE : Hid (∀ W, Below wm.heap.size wm W → Calls Try.prog 62 #[.pointer (some ⟨(R j).q, 0, none⟩), .int .u32 e.home] W fun r w' => ∃ (a : Option Addr) (c : Nat), r = .returned (.slice a m c) ∧ Hid (RowC En.zero ecs 7 w' a X) ∧ Below W.heap.size W w') := fun W hb => by
        have hs : (R j).M = (P j).M := OK.out.same.symm
        have hn : (R j).n ≤ 3518437208882 := by rw [← OK.out.D.len, hs]; exact Nat.le_trans HLJ.out (by decide)
        refine (rcommits_is (OK.out.D.later hb) hn e.home).mono ?_
        rintro r w' ⟨a, n', c', h1, h2, h3, h4⟩
        have h2' := h2.out
        have h3' := h3.out
        rw [hs, ← hX] at h2' h3'
        have e2 : n' = m := by rw [← h2', hm]
        subst e2
        exact ⟨a, c', h1, own_row h3' h2', h4.out⟩
      have SE : Hid (∀ (W : World) (a1 : Option Addr) (c1 : Nat) (a2 : Option Addr) (c2 : Nat), RowC En.zero ecs 7 W a1 X → RowC En.zero ecs 7 W a2 X → Calls Try.prog 42 #[.slice a1 m c1, .slice a2 m c2] W fun r w' => r = .returned (.bool true) ∧ Below W.heap.size W w') := fun W a1 c1 a2 c2 k1 k2 => sameEntries_is k1 k2 hm (by omega)
      have t4 := HBM.out 4 _ rfl
      clear hX hm hfl
      go_wp2_with fail
      go_region_held3 (fun w' => w'.cell? ⟨w.heap.size, 4, none⟩ = some (.int .u32 e.home) ∧ Below wm.heap.size wm w')
        ((refine (fun (hB : Below wm.heap.size wm _) => ⟨cell_later hB t4, hB⟩) ?_; (repeat (first | with_reducible exact Below.refl _ _ | with_reducible assumption | with_reducible refine Below.drew ?_ | with_reducible refine Below.al ?_ _ | with_reducible refine Below.setCell ?_ (by first | exact Nat.le_refl _ | (simp; omega) | (simp; done)) _ | with_reducible refine Below.on ?_ (by assumption)))))
        (first
          | (go_at_call 20; refine (EN.out _ (by (repeat (first | with_reducible exact Below.refl _ _ | with_reducible assumption | with_reducible refine Below.drew ?_ | with_reducible refine Below.al ?_ _ | with_reducible refine Below.setCell ?_ (by first | exact Nat.le_refl _ | (simp; omega) | (simp; done)) _ | with_reducible refine Below.on ?_ (by assumption))))).mono ?_; rintro r w1 ⟨a1, c1, rfl, K1, hb1⟩)
          | (go_at_call 62; refine (RE.out _ (by (repeat (first | with_reducible exact Below.refl _ _ | with_reducible assumption | with_reducible refine Below.drew ?_ | with_reducible refine Below.al ?_ _ | with_reducible refine Below.setCell ?_ (by first | exact Nat.le_refl _ | (simp; omega) | (simp; done)) _ | with_reducible refine Below.on ?_ (by assumption))))).mono ?_; rintro r w2 ⟨a2, c2, rfl, K2, hb2⟩)
          | (go_at_call 42; refine (SE.out _ _ _ _ _ (RowC.later K1.out hb2) K2.out).mono ?_; rintro r w3 ⟨rfl, hb3⟩))
      all_goals (try go_wp2_with fail)
      all_goals go_ret
      all_goals exact ⟨by simp, HH.out.read (Below.on HWM.out (by (repeat (first | with_reducible exact Below.refl _ _ | with_reducible assumption | with_reducible refine Below.drew ?_ | with_reducible refine Below.al ?_ _ | with_reducible refine Below.setCell ?_ (by first | exact Nat.le_refl _ | (simp; omega) | (simp; done)) _ | with_reducible refine Below.on ?_ (by assumption)))))⟩
    by_cases h2 : κ = 2
    · skip
      subst h2
      clear h3 h4 h5 h6
      have DEC := hid (decide_is OK.out.L e)
      have HPW : Hid (∀ b, ItsL (P j).p (P j).m b → b < w.heap.size) := fun b hb => (HH.out.S.L j hj).its_lt hb
      have HRW : Hid (∀ b, RItL (R j).q (R j).a (R j).n (R j).c b → b < w.heap.size) := fun b hb => (HH.out.S.D j hj).its_lt hb
      have t0 := HBM.out 2 _ rfl
      have t1 := HBM.out 3 _ rfl
      have t2 := HBM.out 4 _ rfl
      have t3 := HBM.out 5 _ rfl
      have t4 := HBM.out 6 _ rfl
      have t5 := HBM.out 7 _ rfl
      have t6 := HBM.out 8 _ rfl
      go_wp2_with fail
      refine DEC.out.mono ?_
      rintro r w1 ⟨m', f, x, rfl, HF, HXX, HL1, HI1, HO1⟩
      obtain ⟨wE, hwE⟩ : ∃ wE, wE = w1.alloc (.cells #[.int .u32 f.id.1, .int .u32 f.id.2, .int .u32 f.home, .int .i64 f.oc, .int .u64 f.w, .int .u32 f.l, .int .u32 f.n] 33) := ⟨_, rfl⟩
      have HEE : Hid (Below w1.heap.size w1 wE) := by rw [hwE]; exact Below.al (Below.refl _ _) _
      have HBE : Hid (BoxE wE w1.heap.size f) := by rw [hwE]; exact box_new _ _
      have hs1 : w.heap.size < w1.heap.size := Nat.lt_of_lt_of_le HWMS.out HO1.out.size
      have HS1 := hid hs1
      have y0 : (w1.alloc (.cells #[.int .u32 f.id.1, .int .u32 f.id.2, .int .u32 f.home, .int .i64 f.oc, .int .u64 f.w, .int .u32 f.l, .int .u32 f.n] 33)).cell? ⟨w.heap.size, 2, none⟩ = some (.int .u32 e.id.1) := by rw [← hwE]; exact cell_later HEE.out (HO1.out.cell (fun k => Nat.lt_irrefl _ (HPW.out _ k)) t0)
      have y1 : (w1.alloc (.cells #[.int .u32 f.id.1, .int .u32 f.id.2, .int .u32 f.home, .int .i64 f.oc, .int .u64 f.w, .int .u32 f.l, .int .u32 f.n] 33)).cell? ⟨w.heap.size, 3, none⟩ = some (.int .u32 e.id.2) := by rw [← hwE]; exact cell_later HEE.out (HO1.out.cell (fun k => Nat.lt_irrefl _ (HPW.out _ k)) t1)
      have y2 : (w1.alloc (.cells #[.int .u32 f.id.1, .int .u32 f.id.2, .int .u32 f.home, .int .i64 f.oc, .int .u64 f.w, .int .u32 f.l, .int .u32 f.n] 33)).cell? ⟨w.heap.size, 4, none⟩ = some (.int .u32 e.home) := by rw [← hwE]; exact cell_later HEE.out (HO1.out.cell (fun k => Nat.lt_irrefl _ (HPW.out _ k)) t2)
      have y3 : (w1.alloc (.cells #[.int .u32 f.id.1, .int .u32 f.id.2, .int .u32 f.home, .int .i64 f.oc, .int .u64 f.w, .int .u32 f.l, .int .u32 f.n] 33)).cell? ⟨w.heap.size, 5, none⟩ = some (.int .i64 e.oc) := by rw [← hwE]; exact cell_later HEE.out (HO1.out.cell (fun k => Nat.lt_irrefl _ (HPW.out _ k)) t3)
      have y4 : (w1.alloc (.cells #[.int .u32 f.id.1, .int .u32 f.id.2, .int .u32 f.home, .int .i64 f.oc, .int .u64 f.w, .int .u32 f.l, .int .u32 f.n] 33)).cell? ⟨w.heap.size, 6, none⟩ = some (.int .u64 e.w) := by rw [← hwE]; exact cell_later HEE.out (HO1.out.cell (fun k => Nat.lt_irrefl _ (HPW.out _ k)) t4)
      have y5 : (w1.alloc (.cells #[.int .u32 f.id.1, .int .u32 f.id.2, .int .u32 f.home, .int .i64 f.oc, .int .u64 f.w, .int .u32 f.l, .int .u32 f.n] 33)).cell? ⟨w.heap.size, 7, none⟩ = some (.int .u32 e.l) := by rw [← hwE]; exact cell_later HEE.out (HO1.out.cell (fun k => Nat.lt_irrefl _ (HPW.out _ k)) t5)
      have y6 : (w1.alloc (.cells #[.int .u32 f.id.1, .int .u32 f.id.2, .int .u32 f.home, .int .i64 f.oc, .int .u64 f.w, .int .u32 f.l, .int .u32 f.n] 33)).cell? ⟨w.heap.size, 8, none⟩ = some (.int .u32 e.n) := by rw [← hwE]; exact cell_later HEE.out (HO1.out.cell (fun k => Nat.lt_irrefl _ (HPW.out _ k)) t6)
      have RL : Hid (Rl wE (R j).q (R j).a (R j).n (R j).c (R j).M) := (OK.out.D.onl HO1.out (fun b hb k => lg_rl OK.out.L OK.out.D k hb)).later HEE.out
      have HSA : Hid ((R j).M = (P j).M) := OK.out.same.symm
      have RDEC := hid (rdecide_is RL.out e (by have h1 := HLJ.out; have h2 : (R j).M.length = (R j).n := OK.out.D.len; have h3 : (R j).M.length = (P j).M.length := congrArg _ HSA.out; omega))
      clear DEC hs1 t0 t1 t2 t3 t4 t5 t6
      go_wp2_with fail
      rw [← hwE]
      clear hwE y0 y1 y2 y3 y4 y5 y6
      refine RDEC.out.mono ?_
      rintro r w2 ⟨a', n', c', f', x', rfl, HF2, HXX2, HR2, HI2, HO2⟩
      obtain rfl : f' = f := by rw [HF.out, ← HSA.out]; exact HF2.out
      obtain rfl : x' = x := by rw [HXX.out, ← HSA.out]; exact HXX2.out
      have HM : Hid (Rl w2 (R j).q a' n' c' (decM (P j).M e)) := by rw [← HSA.out]; exact HR2
      have HBE1 : Hid (BoxE w2 w1.heap.size f') := HBE.out.onl HO2.out (fun k => by have := HRW.out _ k; have := HS1.out; omega)
      have HBE2 : Hid (BoxE (w2.alloc (.cells #[.int .u32 f'.id.1, .int .u32 f'.id.2, .int .u32 f'.home, .int .i64 f'.oc, .int .u64 f'.w, .int .u32 f'.l, .int .u32 f'.n] 33)) w1.heap.size f') := HBE1.out.later (Below.al (Below.refl _ _) _)
      have HA : Hid (After B w bk P (w2.alloc (.cells #[.int .u32 f'.id.1, .int .u32 f'.id.2, .int .u32 f'.home, .int .i64 f'.oc, .int .u64 f'.w, .int .u32 f'.l, .int .u32 f'.n] 33))) := HH.out.dec HWM.out hj HL1.out HI1.out HO1.out HEE.out HM.out HI2.out HO2.out (Below.al (Below.refl _ _) _) (decM_len _ _)
      have x0 : (w2.alloc (.cells #[.int .u32 f'.id.1, .int .u32 f'.id.2, .int .u32 f'.home, .int .i64 f'.oc, .int .u64 f'.w, .int .u32 f'.l, .int .u32 f'.n] 33)).cell? ⟨w1.heap.size, 0, none⟩ = some (.int .u32 f'.id.1) := HBE2.out.1
      have x1 : (w2.alloc (.cells #[.int .u32 f'.id.1, .int .u32 f'.id.2, .int .u32 f'.home, .int .i64 f'.oc, .int .u64 f'.w, .int .u32 f'.l, .int .u32 f'.n] 33)).cell? ⟨w1.heap.size, 1, none⟩ = some (.int .u32 f'.id.2) := HBE2.out.2.1
      have x2 : (w2.alloc (.cells #[.int .u32 f'.id.1, .int .u32 f'.id.2, .int .u32 f'.home, .int .i64 f'.oc, .int .u64 f'.w, .int .u32 f'.l, .int .u32 f'.n] 33)).cell? ⟨w1.heap.size, 2, none⟩ = some (.int .u32 f'.home) := HBE2.out.2.2.1
      have x3 : (w2.alloc (.cells #[.int .u32 f'.id.1, .int .u32 f'.id.2, .int .u32 f'.home, .int .i64 f'.oc, .int .u64 f'.w, .int .u32 f'.l, .int .u32 f'.n] 33)).cell? ⟨w1.heap.size, 3, none⟩ = some (.int .i64 f'.oc) := HBE2.out.2.2.2.1
      have x4 : (w2.alloc (.cells #[.int .u32 f'.id.1, .int .u32 f'.id.2, .int .u32 f'.home, .int .i64 f'.oc, .int .u64 f'.w, .int .u32 f'.l, .int .u32 f'.n] 33)).cell? ⟨w1.heap.size, 4, none⟩ = some (.int .u64 f'.w) := HBE2.out.2.2.2.2.1
      have x5 : (w2.alloc (.cells #[.int .u32 f'.id.1, .int .u32 f'.id.2, .int .u32 f'.home, .int .i64 f'.oc, .int .u64 f'.w, .int .u32 f'.l, .int .u32 f'.n] 33)).cell? ⟨w1.heap.size, 5, none⟩ = some (.int .u32 f'.l) := HBE2.out.2.2.2.2.2.1
      have x6 : (w2.alloc (.cells #[.int .u32 f'.id.1, .int .u32 f'.id.2, .int .u32 f'.home, .int .i64 f'.oc, .int .u64 f'.w, .int .u32 f'.l, .int .u32 f'.n] 33)).cell? ⟨w1.heap.size, 6, none⟩ = some (.int .u32 f'.n) := HBE2.out.2.2.2.2.2.2
      have qe : ∀ W', (binOp .eql 33 (.agg #[.int .u32 f'.id.1, .int .u32 f'.id.2, .int .u32 f'.home, .int .i64 f'.oc, .int .u64 f'.w, .int .u32 f'.l, .int .u32 f'.n]) (.agg #[.int .u32 f'.id.1, .int .u32 f'.id.2, .int .u32 f'.home, .int .i64 f'.oc, .int .u64 f'.w, .int .u32 f'.l, .int .u32 f'.n])).run Try.prog W' = .ok (.bool true) W' := fun W' => by
        have := run_eqE f' f' W'
        rw [sameE_self] at this
        exact this
      clear RDEC
      go_wp2_with fail
      go_ret
      exact ⟨by simp, HA.out⟩
    by_cases h1 : κ = 1
    · skip
      subst h1
      clear h2 h3 h4 h5 h6
      have NEWP : Hid (∀ W, Below wm.heap.size wm W → Calls Try.prog 9 #[] W fun r w' => ∃ sp, r = .returned (.pointer (some ⟨sp, 0, none⟩)) ∧ w'.cell? ⟨w.heap.size, 1, none⟩ = some (.int .i64 (j : Int)) ∧ w'.cell? ⟨bk, j, none⟩ = some (.pointer (some ⟨(P j).p, 0, none⟩)) ∧ w'.frozen? ⟨bk, j, none⟩ = false ∧ Hid (Lg w' sp none []) ∧ Hid (wm.heap.size ≤ sp) ∧ Below W.heap.size W w') := fun W hb => (new_is W).mono fun r w' ⟨h1, h2, h3⟩ =>
        ⟨_, h1, cell_later (Below.on hb h3) (HBM.out 1 _ rfl), (HSM.out.later (Below.on hb h3)).c1 hj, by simp [World.frozen?, (HSM.out.later (Below.on hb h3)).blk], h2, hb.size, h3⟩
      have t1 := HBM.out 1 _ rfl
      have c1 := HSM.out.c1 hj
      have f1 : wm.frozen? ⟨bk, j, none⟩ = false := by simp [World.frozen?, HSM.out.blk]
      go_wp2_with fail
      go_region_with (first | (go_at_call 9; refine (NEWP.out _ (by (repeat (first | exact Below.refl _ _ | assumption | refine Below.drew ?_ | refine Below.al ?_ _ | refine Below.setCell ?_ (by first | exact Nat.le_refl _ | (simp; omega) | (simp; done)) _ | refine Below.on ?_ (by assumption))))).mono ?_; rintro r w1 ⟨sp, rfl, k1, k2, k3, KL, KS, hb1⟩))
      all_goals
        have HB1 : Hid (Below wm.heap.size wm w1) := hid (by (repeat (first | exact Below.refl _ _ | assumption | refine Below.drew ?_ | refine Below.al ?_ _ | refine Below.setCell ?_ (by first | exact Nat.le_refl _ | (simp; omega) | (simp; done)) _ | refine Below.on ?_ (by assumption))))
        obtain ⟨w2, hw2⟩ : ∃ w2, w2 = w1.setCell ⟨bk, j, none⟩ (.pointer (some ⟨sp, 0, none⟩)) := ⟨_, rfl⟩
        have HW2 := hid hw2
        have HS1 : Hid (St w1 bk P R) := HSM.out.later HB1.out
        have HO2 : Hid (Onl (fun b => b = bk) w1 w2) := by rw [hw2]; exact (Onl.refl (fun b => b = bk) _).set (p := bk) rfl _ _
        have HNB : Hid (w.heap.size ≠ bk) := hid (fun e => by have := HH.out.S.lt; omega)
        have HK2 : Hid (w2.heap[bk]? = some (.cells (bcs (upd P j ⟨sp, none, []⟩) R) 112)) := by rw [hw2, ← bcs_L hj ⟨sp, none, []⟩]; exact heap_setCell_same w1 bk j _ _ _ HS1.out.blk
        have v1 : w2.cell? ⟨w.heap.size, 1, none⟩ = some (.int .i64 (j : Int)) := HO2.out.cell HNB.out k1
        have v2 : w2.cell? ⟨bk, 3 + j, none⟩ = some (.pointer (some ⟨(R j).q, 0, none⟩)) := by
          rw [hw2]; exact cell_setc (by intro e; injection e with _ e; omega) (HS1.out.c2 hj)
        have v3 : w2.frozen? ⟨bk, 3 + j, none⟩ = false := by simp [World.frozen?, HK2.out]
        have v4 : w2.cell? ⟨bk, j, none⟩ = some (.pointer (some ⟨sp, 0, none⟩)) := by rw [hw2]; exact World.cell?_setCell_same _ _ _ k2
        have RNEW : Hid (∀ W, Below w2.heap.size w2 W → Calls Try.prog 57 #[] W fun r w' => ∃ sq, r = .returned (.pointer (some ⟨sq, 0, none⟩)) ∧ w'.cell? ⟨w.heap.size, 1, none⟩ = some (.int .i64 (j : Int)) ∧ w'.cell? ⟨bk, 3 + j, none⟩ = some (.pointer (some ⟨(R j).q, 0, none⟩)) ∧ w'.frozen? ⟨bk, 3 + j, none⟩ = false ∧ w'.cell? ⟨bk, j, none⟩ = some (.pointer (some ⟨sp, 0, none⟩)) ∧ Hid (Rl w' sq none 0 0 []) ∧ Hid (w2.heap.size ≤ sq) ∧ Below W.heap.size W w') := fun W hb => (rnew_is W).mono fun r w' ⟨h1, h2, h3⟩ => by
          have hb' := Below.on hb h3
          have hk : w'.heap[bk]? = _ := (hb'.block bk (Array.getElem?_eq_some_iff.1 HK2.out).1).trans HK2.out
          exact ⟨_, h1, cell_later hb' v1, cell_later hb' v2, by simp [World.frozen?, hk], cell_later hb' v4, h2, hb.size, h3⟩
        go_wp2_with fail
        rw [← hw2]
        clear hw2 k1 k2 k3 t1 c1 f1 hb1 NEWP
        go_region_with (first | (go_at_call 57; refine (RNEW.out _ (by (repeat (first | exact Below.refl _ _ | assumption | refine Below.drew ?_ | refine Below.al ?_ _ | refine Below.setCell ?_ (by first | exact Nat.le_refl _ | (simp; omega) | (simp; done)) _ | refine Below.on ?_ (by assumption))))).mono ?_; rintro r w3 ⟨sq, rfl, x1, x2, x3, x4, KR, KQ, hb3⟩))
        all_goals
          have HB3 : Hid (Below w2.heap.size w2 w3) := hid (by (repeat (first | exact Below.refl _ _ | assumption | refine Below.drew ?_ | refine Below.al ?_ _ | refine Below.setCell ?_ (by first | exact Nat.le_refl _ | (simp; omega) | (simp; done)) _ | refine Below.on ?_ (by assumption))))
          obtain ⟨w4, hw4⟩ : ∃ w4, w4 = w3.setCell ⟨bk, 3 + j, none⟩ (.pointer (some ⟨sq, 0, none⟩)) := ⟨_, rfl⟩
          have HW4 := hid hw4
          have HO4 : Hid (Onl (fun b => b = bk) w3 w4) := by rw [hw4]; exact (Onl.refl (fun b => b = bk) _).set (p := bk) rfl _ _
          have u1 : w4.cell? ⟨w.heap.size, 1, none⟩ = some (.int .i64 (j : Int)) := HO4.out.cell HNB.out x1
          have u4 : w4.cell? ⟨bk, j, none⟩ = some (.pointer (some ⟨sp, 0, none⟩)) := by
            rw [hw4]; exact cell_setc (by intro e; injection e with _ e; omega) x4
          have s1 := cell_regrown u1
          have s4 := cell_regrown u4
          clear x1 x2 x3 x4 v1 v2 v3 v4 hb3 RNEW
          go_wp2_with fail
          rw [← hw4]
          clear hw4
          refine wp_region_quiet_below (by kernel_rfl) (by kernel_rfl) ?_
          repeat (go_big_quiet_step (fail))
          refine wpQuiet_nil ?_
          intro w5 hw5
          replace hw5 := below_of_regrown hw5
          have HA : Hid (After B w bk P w5) := HH.out.new (Below.on HWM.out HB1.out) hj KL.out (Nat.le_trans HWM.out.size KS.out) HW2.out HB3.out KR.out KQ.out HW4.out hw5
          clear hw5 s1 s4 u1 u4
          go_wp2_with fail
          go_ret
          exact ⟨by simp, HA.out⟩
    have e1 : (κ == 1) = false := by simpa using h1
    have e2 : (κ == 2) = false := by simpa using h2
    have e3 : (κ == 3) = false := by simpa using h3
    have e4 : (κ == 4) = false := by simpa using h4
    have e5 : (κ == 5) = false := by simpa using h5
    have e6 : (κ == 6) = false := by simpa using h6
    have HA : Hid (After B w bk P wm) := HH.out.read HWM.out
    clear h1 h2 h3 h4 h5 h6
    go_wp2_with fail
    go_ret
    exact ⟨by simp, HA.out⟩
  · have STEP : Hid (∀ (Q : Prop), (decide (ι < 0) = true → Q) → (decide (ι < 0) = false → decide (2 < ι) = true → Q) → Q) := fun Q h1 h2 => by
      by_cases hneg : ι < 0
      · exact h1 (decide_eq_true hneg)
      · exact h2 (decide_eq_false hneg) (decide_eq_true (by omega))
    have HA : Hid (After B w bk P wx) := HH.out.read HX.out
    clear hin
    refine STEP.out _ (fun d1 => ?_) (fun d1 d2 => ?_)
    all_goals
      clear STEP
      go_enter Try.func46, Try.ntmps46
      go_wp2_with fail
      rw [← hwx]
      go_ret
      exact ⟨by simp, HA.out⟩
end Go.Proofs.Ytogjhpknlopajaa.Lg
