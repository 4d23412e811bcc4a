import Derived.Test.YtmloaddbmkonoabKTold
import Derived.Test.YtmloaddbmkonoabKToldTick
import Derived.Test.YtmloaddbmkonoabKToldLast
import Derived.Test.YtmloaddbmkonoabKToldNeed
import Derived.Test.YtmloaddbmkonoabKToldObs
import Derived.Test.YtmloaddbmkonoabKMade
namespace Go.Proofs.Ytmloaddbmkonoab
open Go.RowKit Go.Sort
set_option linter.unusedVariables false

theorem told_any (kd : Int) (A off B m : Nat) (q : Pr) (pl no wi nu s0 s1 s2 : Int) (w : World) (HP : PairOk w B m q) (HCA : w.cell? ⟨A, off, none⟩ = some (.pointer (some ⟨q.p, 0, none⟩))) (HCD : w.cell? ⟨A, off + 1, none⟩ = some (.pointer (some ⟨q.x.d, 0, none⟩))) (HNA : ¬ q.has A)
    (hB : B ≤ w.heap.size) (HM : (m + 1) * 16 ≤ 140737488355328) (HNU : U64 nu) (HSS : St.ok ⟨s0, s1, s2⟩) :
    Calls Try.prog 6 #[.pointer (some ⟨A, off, none⟩), .agg #[.int .i64 kd, .int .i64 pl, .int .u32 no, .int .u64 wi, .int .u64 nu, .int .u64 s0, .int .u32 s1, .int .u32 s2]] w fun e w' => e = .returned (.bool true) ∧ ToldPost w w' B m q := by
  by_cases h3 : kd = 3
  · subst h3; exact told_read A off B m q pl no wi nu s0 s1 s2 w HP HCA HCD HNA hB HM HNU HSS
  by_cases h4 : kd = 4
  · subst h4
    obtain ⟨W, L, N, E, e⟩ : ∃ W L N E, tickN q.c = ⟨W, L, N, E⟩ := ⟨_, _, _, _, rfl⟩
    exact told_tick A off B m q pl no wi nu s0 s1 s2 w HP HCA HCD HNA hB HM HNU HSS W L N E e
  by_cases h5 : kd = 5
  · subst h5
    by_cases ht : s0 = 18446744073709551615
    · exact told_obs_top A off B m q pl no wi nu s0 s1 s2 w HP HCA HCD HNA hB HM HNU HSS (by show _ = _; unfold obsE; rw [if_pos ht]) (by show _ = _; unfold obsC; rw [if_pos ht]) (beq_iff_eq.2 ht)
    · exact told_obs_in A off B m q pl no wi nu s0 s1 s2 w HP HCA HCD HNA hB HM HNU HSS _ (by show _ = _; unfold obsE; rw [if_neg ht]) rfl (beq_eq_false_iff_ne.2 ht) ht
  by_cases h6 : kd = 6
  · subst h6; exact told_last A off B m q pl no wi nu s0 s1 s2 w HP HCA HCD HNA hB HM HNU HSS _ _ _ rfl
  by_cases h7 : kd = 7
  · subst h7; exact told_need A off B m q pl no wi nu s0 s1 s2 w HP HCA HCD HNA hB HM HNU HSS _ _ rfl rfl
  by_cases h8 : kd = 8
  · subst h8; exact told_reserve A off B m q pl no wi nu s0 s1 s2 w HP HCA HCD HNA hB HM HNU HSS
  by_cases h9 : kd = 9
  · subst h9; exact told_ceil A off B m q pl no wi nu s0 s1 s2 w HP HCA HCD HNA hB HM HNU HSS
  exact told_other kd A off B m q pl no wi nu s0 s1 s2 w HP HCA HCD HNA hB HM HNU HSS (beq_eq_false_iff_ne.2 h3) (beq_eq_false_iff_ne.2 h4) (beq_eq_false_iff_ne.2 h5) (beq_eq_false_iff_ne.2 h6) (beq_eq_false_iff_ne.2 h7) (beq_eq_false_iff_ne.2 h8) (beq_eq_false_iff_ne.2 h9)

theorem PairOk.grow {w : World} {B m m' : Nat} {q : Pr} (h : PairOk w B m q) (hm : m ≤ m') : PairOk w B m' q :=
  ⟨h.ck, h.rf, h.np, h.bp, ⟨h.agr.ok, h.agr.node, h.agr.win, h.agr.rd, h.agr.l, h.agr.ce, Nat.le_trans h.agr.m2 hm, Nat.le_trans h.agr.m3 hm, Nat.le_trans h.agr.m4 hm⟩⟩

/-- one place -/
def PlaceAt (W : World) (A B m i : Nat) : Option Pr → Prop
  | none => W.cell? ⟨A, i * 2, none⟩ = some (.pointer none) ∧ W.cell? ⟨A, i * 2 + 1, none⟩ = some (.pointer none)
  | some q => W.cell? ⟨A, i * 2, none⟩ = some (.pointer (some ⟨q.p, 0, none⟩)) ∧ W.cell? ⟨A, i * 2 + 1, none⟩ = some (.pointer (some ⟨q.x.d, 0, none⟩)) ∧ PairOk W B m q ∧ ¬ q.has A

/-- the three places -/
structure PlaysAt (w W : World) (A m : Nat) (st : Nat → Option Pr) : Prop where
  below : Below w.heap.size w W
  loose : Loose W A
  a0 : w.heap.size ≤ A
  aW : A < W.heap.size
  place : ∀ i, i < 3 → PlaceAt W A w.heap.size m i (st i)
  apart : ∀ i j q r, i < 3 → j < 3 → i ≠ j → st i = some q → st j = some r → ∀ k, q.has k → ¬ r.has k

theorem PlaceAt.keep {W W' : World} {A B m i : Nat} {o : Option Pr} {F : Nat → Prop} (h : PlaceAt W A B m i o) (ho : Onl F W W') (hA : ¬ F A) (hF : ∀ q, o = some q → ∀ k, q.has k → ¬ F k) : PlaceAt W' A B m i o := by
  cases o with
  | none => exact ⟨ho.cell hA h.1, ho.cell hA h.2⟩
  | some q => exact ⟨ho.cell hA h.1, ho.cell hA h.2.1, h.2.2.1.keep ho (hF q rfl), h.2.2.2⟩
theorem PlaceAt.grow {W : World} {A B m m' i : Nat} {o : Option Pr} (h : PlaceAt W A B m i o) (hm : m ≤ m') : PlaceAt W A B m' i o := by
  cases o with
  | none => exact h
  | some q => exact ⟨h.1, h.2.1, h.2.2.1.grow hm, h.2.2.2⟩

theorem PlaysAt.later {w W W' : World} {A m : Nat} {st : Nat → Option Pr} (R : PlaysAt w W A m st) (hb : Below W.heap.size W W') : PlaysAt w W' A m st :=
  ⟨Below.on R.below hb, R.loose.later hb R.aW, R.a0, Nat.lt_of_lt_of_le R.aW hb.size, fun i hi => (R.place i hi).keep (F := fun _ => False) (Onl.of_below hb) id (fun _ _ _ _ => id), R.apart⟩
theorem PlaysAt.skip {w W : World} {A m : Nat} {st : Nat → Option Pr} (R : PlaysAt w W A m st) : PlaysAt w W A (m + 1) st :=
  ⟨R.below, R.loose, R.a0, R.aW, fun i hi => (R.place i hi).grow (by omega), R.apart⟩

def setSt (st : Nat → Option Pr) (i : Nat) (q : Pr) : Nat → Option Pr := fun j => if j = i then some q else st j

theorem PlaysAt.has_lt {w W : World} {A m : Nat} {st : Nat → Option Pr} (R : PlaysAt w W A m st) {i : Nat} {q : Pr} (hi : i < 3) (e : st i = some q) : PlaceAt W A w.heap.size m i (some q) := e ▸ R.place i hi

theorem PlaysAt.made {w W W' : World} {A m i : Nat} {st : Nat → Option Pr} (R : PlaysAt w W A m st) (hi : i < 3) (hm : 1 ≤ m) (h : MadePost A (i * 2) w.heap.size W W') : ∃ st', PlaysAt w W' A (m + 1) st' := by
  obtain ⟨ho, hlo, hc, q, h1, h2, h3, h4⟩ := h
  have hAq : ¬ q.has A := fun hA => by have := h4 A hA; have := R.aW; omega
  refine ⟨setSt st i q, R.below.trans (ho.below (fun k e => by subst e; exact R.a0) R.below.size), hlo, R.a0, Nat.lt_of_lt_of_le R.aW ho.size, fun j hj => ?_, fun j k a b hj hk hne ea eb n hn hn2 => ?_⟩
  · unfold setSt
    by_cases e : j = i
    · rw [if_pos e]
      subst e
      exact ⟨h1, h2, h3.grow (by omega), hAq⟩
    · rw [if_neg e]
      have hp := R.place j hj
      cases hs : st j with
      | none =>
        rw [hs] at hp
        exact ⟨hc _ (by omega) (by omega) _ hp.1, hc _ (by omega) (by omega) _ hp.2⟩
      | some r =>
        rw [hs] at hp
        refine ⟨hc _ (by omega) (by omega) _ hp.1, hc _ (by omega) (by omega) _ hp.2.1, (hp.2.2.1.keep ho (fun k hk e => hp.2.2.2 (e ▸ hk))).grow (by omega), hp.2.2.2⟩
  · unfold setSt at ea eb
    by_cases e1 : j = i
    · rw [if_pos e1] at ea
      rw [if_neg (by omega)] at eb
      injection ea with ea
      subst ea
      have := h4 n hn
      have := ((R.has_lt hk eb).2.2.1.has_lt n hn2).2
      omega
    · rw [if_neg e1] at ea
      by_cases e2 : k = i
      · rw [if_pos e2] at eb
        injection eb with eb
        subst eb
        have := h4 n hn2
        have := ((R.has_lt hj ea).2.2.1.has_lt n hn).2
        omega
      · rw [if_neg e2] at eb
        exact R.apart j k a b hj hk hne ea eb n hn hn2

theorem PlaysAt.told {w W W' : World} {A m i : Nat} {st : Nat → Option Pr} {q : Pr} (R : PlaysAt w W A m st) (hi : i < 3) (hq : st i = some q) (h : ToldPost W W' w.heap.size m q) : ∃ st', PlaysAt w W' A (m + 1) st' := by
  obtain ⟨ho, q', h1, h2, h3, h4⟩ := h
  have hp := R.has_lt hi hq
  have hA : ¬ q.has A := hp.2.2.2
  have hAq : ¬ q'.has A := fun hh => by
    rcases h2 A hh with h | h
    · exact hA h
    · have := R.aW; omega
  refine ⟨setSt st i q', R.below.trans (ho.below (fun k e => (hp.2.2.1.has_lt k e).1) R.below.size), ho.loose hA R.aW R.loose, R.a0, Nat.lt_of_lt_of_le R.aW ho.size, fun j hj => ?_, fun j k a b hj hk hne ea eb n hn hn2 => ?_⟩
  · unfold setSt
    by_cases e : j = i
    · rw [if_pos e]
      subst e
      refine ⟨?_, ?_, h1, hAq⟩
      · rw [h3]; exact ho.cell hA hp.1
      · rw [h4]; exact ho.cell hA hp.2.1
    · rw [if_neg e]
      exact ((R.place j hj).keep ho hA (fun r hr k hk hk2 => R.apart j i r q hj hi e hr hq k hk hk2)).grow (by omega)
  · unfold setSt at ea eb
    by_cases e1 : j = i
    · rw [if_pos e1] at ea
      rw [if_neg (by omega)] at eb
      injection ea with ea
      subst ea
      rcases h2 n hn with h | h
      · exact R.apart i k q b hi hk (by omega) hq eb n h hn2
      · have := ((R.has_lt hk eb).2.2.1.has_lt n hn2).2
        omega
    · rw [if_neg e1] at ea
      by_cases e2 : k = i
      · rw [if_pos e2] at eb
        injection eb with eb
        subst eb
        rcases h2 n hn2 with h | h
        · exact R.apart j i a q hj hi e1 ea hq n hn h
        · have := ((R.has_lt hj ea).2.2.1.has_lt n hn).2
          omega
      · rw [if_neg e2] at eb
        exact R.apart j k a b hj hk hne ea eb n hn hn2

/-- a step of the script -/
structure OpS where
  k : Int
  pl : Int
  no : Int
  wi : Int
  nu : Int
  s : St
def OpS.ok (x : OpS) : Prop := U32 x.no ∧ U64 x.wi ∧ U64 x.nu ∧ x.s.ok
def OpRow (w : World) (a : Option Addr) (n : Nat) (f : Nat → OpS) : Prop :=
  ∀ i, i < n → ∃ b off, a = some ⟨b, off, none⟩ ∧ w.cell? ⟨b, off + i * 8, none⟩ = some (.int .i64 (f i).k) ∧ w.cell? ⟨b, off + i * 8 + 1, none⟩ = some (.int .i64 (f i).pl) ∧
    w.cell? ⟨b, off + i * 8 + 2, none⟩ = some (.int .u32 (f i).no) ∧ w.cell? ⟨b, off + i * 8 + 3, none⟩ = some (.int .u64 (f i).wi) ∧ w.cell? ⟨b, off + i * 8 + 4, none⟩ = some (.int .u64 (f i).nu) ∧
    w.cell? ⟨b, off + i * 8 + 5, none⟩ = some (.int .u64 (f i).s.w) ∧ w.cell? ⟨b, off + i * 8 + 6, none⟩ = some (.int .u32 (f i).s.l) ∧ w.cell? ⟨b, off + i * 8 + 7, none⟩ = some (.int .u32 (f i).s.n)
theorem OpRow.later {w w' : World} {a : Option Addr} {n : Nat} {f : Nat → OpS} (h : OpRow w a n f) (hb : Below w.heap.size w w') : OpRow w' a n f := fun i hi => by
  obtain ⟨b, off, e, h0, h1, h2, h3, h4, h5, h6, h7⟩ := h i hi
  exact ⟨b, off, e, cell_later hb h0, cell_later hb h1, cell_later hb h2, cell_later hb h3, cell_later hb h4, cell_later hb h5, cell_later hb h6, cell_later hb h7⟩

end Go.Proofs.Ytmloaddbmkonoab
