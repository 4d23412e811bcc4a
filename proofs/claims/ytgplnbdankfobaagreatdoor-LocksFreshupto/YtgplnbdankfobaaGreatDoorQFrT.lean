import Derived.Shelf.Small.Bits
import Derived.Shelf.Strconv.Itoa0
import Derived.Shelf.Strconv.Itoa1
import Derived.Shelf.LaysM
import Derived.Shelf.Strconv.Itoa2
import Derived.Shelf.Strconv.Itoa3
import Derived.Test.YtgplnbdankfobaaGreatDoorProg
import Derived.Test.YtgplnbdankfobaaGreatDoorBase0
import Derived.Lib.ItoaMem
import Derived.Lib.ItoaLen
import Derived.Lib.SmallJoins
import Derived.Laws.IdiomStrings
import Derived.Test.YtgplnbdankfobaaGreatDoorQRefH
import Derived.Test.YtgplnbdankfobaaGreatDoorQMark
import Derived.Test.YtgplnbdankfobaaGreatDoorRows
import Derived.Test.YtgplnbdankfobaaGreatDoorChecked
import Derived.OpenShut
import Derived.Deep.Slices
import Derived.Deep.DeepHandedRow
import Derived.ProofKit
import Derived.SizedLaws
import Derived.Test.YtgplnbdankfobaaGreatDoorQSort
import Derived.Test.YtgplnbdankfobaaGreatDoorGCells
import Derived.Test.YtgplnbdankfobaaGreatDoorDLie
import Derived.Lib.SlicesCompact
import Derived.Lib.SliceRun
import Derived.Test.YtgplnbdankfobaaGreatDoorQById
import Derived.Test.YtgplnbdankfobaaGreatDoorQLawP
import Derived.Test.YtgplnbdankfobaaGreatDoorQList
/- The shelf's contracts at this program, in plain words: what is used, no more. -/
namespace Go.Proofs
open Go.Shelf
def Tryz.laysM171_ren : Go.Shelf.Ren := ⟨fun | 171 => 44 | 243 => 54 | 246 => 78 | 283 => 89 | 284 => 90 | 285 => 91 | 286 => 92 | 129 => 64 | 317 => 95 | 318 => 96 | 319 => 97 | 320 => 98 | 337 => 99 | 338 => 100 | n => n, fun | 3 => 3 | 9 => 9 | 2 => 2 | 4 => 4 | 171 => 126 | 0 => 0 | 53 => 26 | 37 => 128 | 5 => 5 | 173 => 129 | 212 => 137 | 51 => 23 | 20 => 20 | 213 => 138 | 46 => 87 | 232 => 140 | 233 => 141 | n => n, fun | 17 => 0 | 18 => 1 | 19 => 2 | n => n⟩
theorem Tryz.laysM171 : Go.Proofs.LaysM.n171 Tryz.prog Tryz.laysM171_ren := {
  mixed := by kernel_rfl
  f129 := Tryz.func64.trans (congrArg some (by kernel_rfl))
  f171 := Tryz.func44.trans (congrArg some (by kernel_rfl))
  f243 := Tryz.func54.trans (congrArg some (by kernel_rfl))
  f246 := Tryz.func78.trans (congrArg some (by kernel_rfl))
  f283 := Tryz.func89.trans (congrArg some (by kernel_rfl))
  f284 := Tryz.func90.trans (congrArg some (by kernel_rfl))
  f285 := Tryz.func91.trans (congrArg some (by kernel_rfl))
  f286 := Tryz.func92.trans (congrArg some (by kernel_rfl))
  f317 := Tryz.func95.trans (congrArg some (by kernel_rfl))
  f318 := Tryz.func96.trans (congrArg some (by kernel_rfl))
  f319 := Tryz.func97.trans (congrArg some (by kernel_rfl))
  f320 := Tryz.func98.trans (congrArg some (by kernel_rfl))
  f337 := Tryz.func99.trans (congrArg some (by kernel_rfl))
  f338 := Tryz.func100.trans (congrArg some (by kernel_rfl))
  t0 := Tryz.underlying0
  a0 := Tryz.isAgg0
  z0 := Tryz.sizeOf0
  v0 := Tryz.zeroValue0
  t2 := Tryz.underlying2
  a2 := Tryz.isAgg2
  z2 := Tryz.sizeOf2
  v2 := Tryz.zeroValue2
  t3 := Tryz.underlying3
  a3 := Tryz.isAgg3
  z3 := Tryz.sizeOf3
  v3 := Tryz.zeroValue3
  t4 := Tryz.underlying4
  a4 := Tryz.isAgg4
  z4 := Tryz.sizeOf4
  v4 := Tryz.zeroValue4
  t5 := Tryz.underlying5
  a5 := Tryz.isAgg5
  z5 := Tryz.sizeOf5
  v5 := Tryz.zeroValue5
  t9 := Tryz.underlying9
  a9 := Tryz.isAgg9
  z9 := Tryz.sizeOf9
  v9 := Tryz.zeroValue9
  t20 := Tryz.underlying20
  a20 := Tryz.isAgg20
  z20 := Tryz.sizeOf20
  v20 := Tryz.zeroValue20
  t37 := Tryz.underlying128
  a37 := Tryz.isAgg128
  z37 := Tryz.sizeOf128
  v37 := Tryz.zeroValue128
  t46 := Tryz.underlying87
  a46 := Tryz.isAgg87
  z46 := Tryz.sizeOf87
  v46 := Tryz.zeroValue87
  t51 := Tryz.underlying23
  a51 := Tryz.isAgg23
  z51 := Tryz.sizeOf23
  v51 := Tryz.zeroValue23
  t53 := Tryz.underlying26
  a53 := Tryz.isAgg26
  z53 := Tryz.sizeOf26
  v53 := Tryz.zeroValue26
  t171 := Tryz.underlying126
  a171 := Tryz.isAgg126
  z171 := Tryz.sizeOf126
  v171 := Tryz.zeroValue126
  t173 := Tryz.underlying129
  a173 := Tryz.isAgg129
  z173 := Tryz.sizeOf129
  v173 := Tryz.zeroValue129
  t212 := Tryz.underlying137
  a212 := Tryz.isAgg137
  z212 := Tryz.sizeOf137
  v212 := Tryz.zeroValue137
  t213 := Tryz.underlying138
  a213 := Tryz.isAgg138
  z213 := Tryz.sizeOf138
  t232 := Tryz.underlying140
  a232 := Tryz.isAgg140
  z232 := Tryz.sizeOf140
  v232 := Tryz.zeroValue140
  t233 := Tryz.underlying141
  a233 := Tryz.isAgg141
  z233 := Tryz.sizeOf141
  v233 := Tryz.zeroValue141
  g17 := by kernel_rfl
  g18 := by kernel_rfl
  g19 := by kernel_rfl
  i0 := by kernel_rfl
  i2 := by kernel_rfl
  i3 := by kernel_rfl
  i4 := by kernel_rfl
  i5 := by kernel_rfl
  i9 := by kernel_rfl
  i20 := by kernel_rfl
  i37 := by kernel_rfl
  i46 := by kernel_rfl
  i51 := by kernel_rfl
  i53 := by kernel_rfl
  i171 := by kernel_rfl
  i173 := by kernel_rfl
  i212 := by kernel_rfl
  i232 := by kernel_rfl
  i233 := by kernel_rfl
  m17 := by kernel_rfl
  m18 := by kernel_rfl
  m19 := by kernel_rfl }
open Go.RowKit Go.Sort Go.Lib in
theorem Tryz.strconv_Itoa (n : Int) (h0 : -9223372036854775808 ≤ n) (h1 : n ≤ 9223372036854775807) (w : World) (htab : Lib.TabIs Tryz.prog w "internal/strconv.uint64pow10" .u64 Lib.pow10Tab) :
    Calls Tryz.prog 44 #[.int .i64 n] w fun e w' => e = .returned (.string ⟨(Lib.itoa n).toArray⟩) ∧ ∃ k os, w' = grow (w.drewN k) os := Any.strconv_Itoa Tryz.laysM171 n h0 h1 w htab
end Go.Proofs
/- The law's marks: sign. -/
namespace Go.Proofs.YtgplnbdankfobaaGreatDoor.Lk
open Go.RowKit Go.Sort Go.Proofs.YtgplnbdankfobaaGreatDoor
set_option linter.unusedVariables false

abbrev PowTab (w : World) : Prop := Lib.TabIs Tryz.prog w "internal/strconv.uint64pow10" .u64 Lib.pow10Tab
theorem gPow : Tryz.prog.globalNamed "internal/strconv.uint64pow10" = some 0 := by kernel_rfl
theorem PowTab.later {w w' : World} (h : PowTab w) (hb : Below w.heap.size w w') : PowTab w' := Joins.tab_stays gPow h hb (Nat.le_refl _)
def itoaB (i : Int) : ByteArray := ⟨(Lib.itoa i).toArray⟩
theorem itoaB_size {i : Int} (h0 : -4611686018427387904 ≤ i) (hi : i ≤ 4611686018427387904) : (itoaB i).size ≤ 40 := by
  show (Lib.itoa i).length ≤ 40
  unfold Lib.itoa
  by_cases h : i < 0
  · rw [if_pos h, List.length_cons, Lib.decDigits_length]
    have := Lib.nDigits_le20 i.natAbs (by omega)
    omega
  · rw [if_neg h, Lib.decDigits_length]
    have := Lib.nDigits_le20 i.toNat (by omega)
    omega
theorem itoa_is {i : Int} (h0 : -4611686018427387904 ≤ i) (hi : i ≤ 4611686018427387904) (w : World) (ht : PowTab w) :
    Calls Tryz.prog 44 #[.int .i64 i] w fun e w' => e = .returned (.string (itoaB i)) ∧ Below w.heap.size w w' := by
  refine (Tryz.strconv_Itoa i (by omega) (by omega) w ht).mono ?_
  rintro e w' ⟨rfl, k, os, rfl⟩
  exact ⟨rfl, rfl, rfl, rfl, by simp [grow], fun j hj => by simp [grow, Array.getElem?_append, hj]⟩
def signB (k i j : Int) : ByteArray := ((itoaB k ++ ⟨#[46]⟩ : ByteArray) ++ itoaB i ++ ⟨#[46]⟩ : ByteArray) ++ itoaB j
set_option maxHeartbeats 400000 in
theorem sign_is {k i j : Int} (hk : -4611686018427387904 ≤ k ∧ k ≤ 4611686018427387904) (hi : -4611686018427387904 ≤ i ∧ i ≤ 4611686018427387904) (hj : -4611686018427387904 ≤ j ∧ j ≤ 4611686018427387904) (w : World) (ht : PowTab w) :
    Calls Tryz.prog 27 #[.int .i64 k, .int .i64 i, .int .i64 j] w fun e w' => e = .returned (.string (signB k i j)) ∧ Below w.heap.size w w' := by
  have z0 := itoaB_size hk.1 hk.2
  have z1 := itoaB_size hi.1 hi.2
  have z2 := itoaB_size hj.1 hj.2
  have HM : Hid (signB k i j = ((itoaB k ++ ⟨#[46]⟩ : ByteArray) ++ itoaB i ++ ⟨#[46]⟩ : ByteArray) ++ itoaB j) := rfl
  generalize signB k i j = mm at HM
  have C0 := hid (itoa_is hk.1 hk.2 w ht)
  have C1 : Hid (∀ w1, Below w.heap.size w w1 → Calls Tryz.prog 44 #[.int .i64 i] w1 fun e w' => e = .returned (.string (itoaB i)) ∧ Below w1.heap.size w1 w') := fun w1 hb => itoa_is hi.1 hi.2 w1 (ht.later hb)
  have C2 : Hid (∀ w1, Below w.heap.size w w1 → Calls Tryz.prog 44 #[.int .i64 j] w1 fun e w' => e = .returned (.string (itoaB j)) ∧ Below w1.heap.size w1 w') := fun w1 hb => itoa_is hj.1 hj.2 w1 (ht.later hb)
  generalize itoaB k = s0 at z0 HM C0
  generalize itoaB i = s1 at z1 HM C1
  generalize itoaB j = s2 at z2 HM C2
  clear ht
  have k1 : (9223372036854775807 < s0.size + 1) = False := by simp; omega
  have k2 : (9223372036854775807 < s0.size + 1 + s1.size) = False := by simp; omega
  have k3 : (9223372036854775807 < s0.size + 1 + s1.size + 1) = False := by simp; omega
  have k4 : (9223372036854775807 < s0.size + 1 + s1.size + 1 + s2.size) = False := by simp; omega
  go_enter Tryz.func27, Tryz.ntmps27
  go_wp2_with fail
  refine C0.out.mono ?_
  rintro e w1 ⟨rfl, hb1⟩
  have HB1 := hid hb1
  clear hb1
  go_wp2_with fail
  refine (C1.out w1 HB1.out).mono ?_
  rintro e w2 ⟨rfl, hb2⟩
  have HB2 := hid (Below.on HB1.out hb2)
  clear hb2
  go_wp2_with fail
  refine (C2.out w2 HB2.out).mono ?_
  rintro e w3 ⟨rfl, hb3⟩
  have HB3 := hid (Below.on HB2.out hb3)
  clear hb3
  go_wp2_with fail
  go_ret
  exact ⟨by rw [HM.out]; rfl, HB3.out⟩
end Go.Proofs.YtgplnbdankfobaaGreatDoor.Lk
/- Lists that are written into, and what stays. -/
namespace Go.Proofs.YtgplnbdankfobaaGreatDoor.Lk
open Go.RowKit Go.Sort
set_option linter.unusedVariables false

/-- a block is one of its lists' -/
def Hv.has (v : Hv) (b : Nat) : Prop := v.rV.ownBlock = some b ∨ v.wV.ownBlock = some b
theorem Hv.ok.off {F : Nat → Prop} {w w' : World} {v : Hv} (h : v.ok w) (ho : Onl F w w') (hF : ∀ b, v.has b → ¬ F b) : v.ok w' := by
  refine ⟨fun i hi => ?_, fun i hi => ?_, h.rl, h.wl⟩
  · obtain ⟨b, off, e, h0, h1⟩ := h.r i hi
    have hn : ¬ F b := hF b (.inl (by simp [Hv.rV, e, Value.ownBlock]))
    exact ⟨b, off, e, ho.cell hn h0, ho.cell hn h1⟩
  · obtain ⟨b, off, e, h0, h1, h2⟩ := h.w i hi
    have hn : ¬ F b := hF b (.inr (by simp [Hv.wV, e, Value.ownBlock]))
    exact ⟨b, off, e, ho.cell hn h0, ho.cell hn h1, ho.cell hn h2⟩
theorem Hv.typ.off {F : Nat → Prop} {w w' : World} {v : Hv} (h : v.typ w) (ho : Onl F w w') (hF : ∀ b, v.has b → ¬ F b) : v.typ w' := by
  refine ⟨fun ad e => ?_, fun ad e => ?_⟩
  · obtain ⟨cur, hc⟩ := h.1 ad e
    exact ⟨cur, (ho.block _ (Array.getElem?_eq_some_iff.1 hc).1 (hF _ (.inl (by simp [Hv.rV, e, Value.ownBlock])))).trans hc⟩
  · obtain ⟨cur, hc⟩ := h.2 ad e
    exact ⟨cur, (ho.block _ (Array.getElem?_eq_some_iff.1 hc).1 (hF _ (.inr (by simp [Hv.wV, e, Value.ownBlock])))).trans hc⟩
theorem slice_own {a : Option Addr} {n c b : Nat} (h : (Value.slice a n c).ownBlock = some b) : ∃ ad, a = some ad ∧ ad.block = b := by
  cases a with
  | none => cases h
  | some ad => exact ⟨ad, rfl, by simpa [Value.ownBlock] using h⟩
theorem Hv.typ.lt {w : World} {v : Hv} (h : v.typ w) {b : Nat} (hb : v.has b) : b < w.heap.size := by
  rcases hb with hb | hb
  · obtain ⟨ad, e, rfl⟩ := slice_own hb
    obtain ⟨cur, hc⟩ := h.1 ad e
    exact (Array.getElem?_eq_some_iff.1 hc).1
  · obtain ⟨ad, e, rfl⟩ := slice_own hb
    obtain ⟨cur, hc⟩ := h.2 ad e
    exact (Array.getElem?_eq_some_iff.1 hc).1
theorem Hv.low.has {B : Nat} {v : Hv} (h : v.low B) {b : Nat} (hb : v.has b) : B ≤ b := by
  rcases hb with hb | hb
  · exact h.1 b hb
  · exact h.2 b hb

theorem tb_lt {w : World} {p : Nat} {m1 m2 : Option Nat} {V : List Hv} {I : It} (T : Tb w p m1 m2 V I) {b : Nat} (hb : Its p m1 m2 b) : b < w.heap.size := by
  rcases hb with rfl | h | h
  · exact T.lt
  · exact T.held.lt b h
  · exact T.ints.lt b h
/-- a table of the program's and one of the document's -/
structure Pr (B : Nat) (w : World) (p : Nat) (m1 m2 : Option Nat) (V : List Hv) (I : It) (q : Nat) (a : Option Addr) (n c : Nat) (R : List Hv) : Prop where
  tb : Tb w p m1 m2 V I
  rt : RT B w q a n c R
  eq : V.map Hv.h = R.map Hv.h
  ty : ∀ v ∈ V, v.typ w
/-- their blocks, and those of all that they hold -/
def PB (p : Nat) (m1 m2 : Option Nat) (V : List Hv) (q : Nat) (a : Option Addr) (n c : Nat) (R : List Hv) (b : Nat) : Prop := Its p m1 m2 b ∨ RIt q a n c b ∨ ∃ v, (v ∈ V ∨ v ∈ R) ∧ v.has b
section
variable {B p q n c : Nat} {w w' : World} {m1 m2 : Option Nat} {V R : List Hv} {I : It} {a : Option Addr} {F : Nat → Prop}
theorem Pr.later (h : Pr B w p m1 m2 V I q a n c R) (hb : Below w.heap.size w w') : Pr B w' p m1 m2 V I q a n c R := ⟨h.tb.later hb, h.rt.later hb, h.eq, fun v hv => (h.ty v hv).later hb⟩
theorem Pr.lt (h : Pr B w p m1 m2 V I q a n c R) {b : Nat} (hb : PB p m1 m2 V q a n c R b) : b < w.heap.size := by
  rcases hb with hb | hb | ⟨v, hv | hv, hb⟩
  · exact tb_lt h.tb hb
  · exact h.rt.its_lt hb
  · exact (h.ty v hv).lt hb
  · exact (h.rt.typ v hv).lt hb
theorem Pr.off (h : Pr B w p m1 m2 V I q a n c R) (ho : Onl F w w') (hF : ∀ b, F b → ¬ PB p m1 m2 V q a n c R b) : Pr B w' p m1 m2 V I q a n c R := by
  have T := h.tb
  have R' := h.rt
  refine ⟨⟨(T.objs (ho.block p T.lt (fun k => hF p k (.inl (.inl rfl))))).1, (T.objs (ho.block p T.lt (fun k => hF p k (.inl (.inl rfl))))).2, T.held.same fun b e => ho.block b (T.held.lt b e) (fun k => hF b k (.inl (.inr (.inl e)))), T.ints.same fun b e => ho.block b (T.ints.lt b e) (fun k => hF b k (.inl (.inr (.inr e)))), fun v hv => (T.rows v hv).off ho (fun b hb k => hF b k (.inr (.inr ⟨v, .inl hv, hb⟩))), T.ok, T.nil, T.ne⟩, ?_, h.eq, fun v hv => (h.ty v hv).off ho (fun b hb k => hF b k (.inr (.inr ⟨v, .inl hv, hb⟩)))⟩
  exact ⟨(ho.block q R'.lt (fun k => hF q k (.inr (.inl (.inl rfl))))).trans R'.blk, ⟨owns_keep R'.row.own fun g hg => ho.block g (R'.row.own.lt g hg).2 (fun k => hF g k (.inr (.inl (.inr hg)))), R'.row.len, fun v hv => (R'.row.ok v hv).off ho (fun b hb k => hF b k (.inr (.inr ⟨v, .inr hv, hb⟩)))⟩, fun v hv => (R'.typ v hv).off ho (fun b hb k => hF b k (.inr (.inr ⟨v, .inr hv, hb⟩)))⟩
end

/-- a list of held ones, all of whose lists are one's own -/
structure Gv (B : Nat) (w : World) (a : Option Addr) (k c : Nat) (G : List Hv) : Prop where
  own : OwnH B w (.slice a k c) k G
  len : G.length = k
  fr : ∀ u ∈ G, u.fresh B w
  far : G.Pairwise Hv.far
/-- its blocks -/
def GB (a : Option Addr) (k c : Nat) (G : List Hv) (b : Nat) : Prop := (Value.slice a k c).ownBlock = some b ∨ ∃ u ∈ G, u.has b
theorem Hv.fresh.off {F : Nat → Prop} {B : Nat} {w w' : World} {v : Hv} (h : v.fresh B w) (ho : Onl F w w') (hF : ∀ b, v.has b → ¬ F b) : v.fresh B w' :=
  ⟨owns_keep h.r fun g hg => ho.block g (h.r.lt g hg).2 (hF g (.inl hg)), owns_keep h.w fun g hg => ho.block g (h.w.lt g hg).2 (hF g (.inr hg))⟩
theorem Hv.fresh.has {B : Nat} {w : World} {v : Hv} (h : v.fresh B w) {b : Nat} (hb : v.has b) : B ≤ b ∧ b < w.heap.size := by
  rcases hb with hb | hb
  · exact h.r.lt b hb
  · exact h.w.lt b hb
section
variable {B k c : Nat} {w w' : World} {a : Option Addr} {G : List Hv} {F : Nat → Prop}
theorem Gv.later (h : Gv B w a k c G) (hb : Below w.heap.size w w') : Gv B w' a k c G := ⟨owns_keep h.own fun g hg => hb.block g (h.own.lt g hg).2, h.len, fun u hu => (h.fr u hu).later hb, h.far⟩
theorem Gv.off (h : Gv B w a k c G) (ho : Onl F w w') (hF : ∀ b, F b → ¬ GB a k c G b) : Gv B w' a k c G :=
  ⟨owns_keep h.own fun g hg => ho.block g (h.own.lt g hg).2 (fun e => hF g e (.inl hg)), h.len, fun u hu => (h.fr u hu).off ho (fun b hb e => hF b e (.inr ⟨u, hu, hb⟩)), h.far⟩
theorem Gv.lt (h : Gv B w a k c G) {b : Nat} (hb : GB a k c G b) : B ≤ b ∧ b < w.heap.size := by
  rcases hb with hb | ⟨u, hu, hb⟩
  · exact h.own.lt b hb
  · exact (h.fr u hu).has hb
theorem Gv.mk' (h : Gv B w a k c G) : Mk B w k (fun i => (nthH G i).rV) (fun i => (nthH G i).wV) (fun i => (nthH G i).h.rs) (fun i => (nthH G i).h.ws) := by
  have hg : ∀ i, i < k → nthH G i ∈ G := fun i hi => nthH_mem (by rw [h.len]; exact hi)
  have hp : ∀ i j, i < j → j < k → (nthH G i).far (nthH G j) := fun i j hij hj => by
    have hi' : i < G.length := by rw [h.len]; omega
    have hj' : j < G.length := by rw [h.len]; exact hj
    have := List.pairwise_iff_getElem.1 h.far i j hi' hj' hij
    simpa [nthH, hi', hj'] using this
  have hq : ∀ i j, i < k → j < k → i ≠ j → (nthH G i).far (nthH G j) := fun i j hi hj hij => by
    rcases Nat.lt_or_gt_of_ne hij with e | e
    · exact hp i j e hj
    · exact (hp j i e hi).symm
  have hap : ∀ (x y : Value), (∀ b, x.ownBlock = some b → y.ownBlock ≠ some b) → Fam.Ap x y := fun x y hxy => by
    cases e : x.ownBlock with
    | none => exact .inl e
    | some b => exact .inr fun e' => hxy b e (e'.symm.trans e)
  exact ⟨⟨fun i hi => (h.fr _ (hg i hi)).r, fun i j hi hj hij => hap _ _ (hq i j hi hj hij).1⟩, ⟨fun i hi => (h.fr _ (hg i hi)).w, fun i j hi hj hij => hap _ _ (hq i j hi hj hij).2⟩⟩
theorem Gv.at (h : Gv B w a k c G) {i : Nat} (hi : i < k) (o : Nat) (ho : o < 8) : (G.flatMap hcs)[i * 8 + o]? = (hcs (nthH G i))[o]? := by
  letI : Inhabited Hv := ⟨Hv.zero⟩
  have hi' : i < G.length := by rw [h.len]; exact hi
  rw [fm_get (k := 8) hcs_len G i o hi' ho]
  have : G[i]! = nthH G i := by simp [nthH, hi']
  rw [this]
end
/-- mark, at such a list -/
theorem markG_is {W0 w : World} {B k c : Nat} {a : Option Addr} {G : List Hv} {z : Int} (ht : PowTab W0) (hW : Below W0.heap.size W0 w) (hB0 : W0.heap.size ≤ B) (hB : B ≤ w.heap.size) (g : Gv B w a k c G)
    (hl : ∀ u ∈ G, u.h.rs.length ≤ 1073741824 ∧ u.h.ws.length ≤ 1073741824) (hk : k ≤ 1073741824) (hz : 0 ≤ z ∧ z ≤ 4611686018427387904) :
    Calls Tryz.prog 11 #[.slice a k c, .int .i64 z] w fun e w' => e = .returned (.bool true) ∧ Hid (Onl (GB a k c G) w w') := by
  have hm : ∀ i, i < k → nthH G i ∈ G := fun i hi => nthH_mem (by rw [g.len]; exact hi)
  refine (mark_is (sg := fun i j => signB z i j) g.mk' g.own hB (fun i hi => by rw [g.at hi 6 (by decide)]; rfl) (fun i hi => by rw [g.at hi 7 (by decide)]; rfl) (fun i hi => (hl _ (hm i hi)).1) (fun i hi => (hl _ (hm i hi)).2) hk
    (fun w1 i j hb hi hj => sign_is (by omega) (by omega) (by omega) w1 (ht.later (hW.trans (hb.mono hB0))))).mono ?_
  rintro e w' ⟨rfl, ho⟩
  refine ⟨rfl, ho.out.mono fun b hb => ?_⟩
  rcases hb with hb | ⟨i, hi, hb | hb⟩
  · exact .inl hb
  · exact .inr ⟨_, hm i hi, .inl hb⟩
  · exact .inr ⟨_, hm i hi, .inr hb⟩
end Go.Proofs.YtgplnbdankfobaaGreatDoor.Lk
/- A list of structs, opened: any struct, with what its elements are read as. -/
namespace Go.Proofs.YtgplnbdankfobaaGreatDoor
open Go.ChangeShapes Go.WideShapes Go.ChangeAt Go.RowKit Go.Deep
set_option linter.unusedVariables false

/-- a row of elements of n cells each -/
def RowC {α : Type} (z : α) (cells : α → List Value) (n : Nat) (W : World) (a : Option Addr) (xs : List α) : Prop :=
  ∀ i, i < xs.length → ∃ b off, a = some ⟨b, off, none⟩ ∧ ∀ o u, (cells (xs[i]?.getD z))[o]? = some u → W.cell? ⟨b, off + i * n + o, none⟩ = some u

theorem weightsAll_mem {H : Type} {P : Program} {e : TypeId} {k : Nat} : ∀ {l : List (DataW H)} {d : DataW H}, d ∈ l → k ∈ d.weights P e → k ∈ DataW.weightsAll P e l
  | x :: l, d, hd, hk => by
    rw [DataW.weightsAll, List.mem_append]
    rcases List.mem_cons.1 hd with rfl | hd
    · exact .inl hk
    · exact .inr (weightsAll_mem hd hk)

/-- what a small bulk says -/
theorem bulk_pos {H : Type} (d : DataW H) : 1 ≤ Rows.uptoBulk d := by
  cases d with
  | lit l => cases l <;> simp [Rows.uptoBulk]
  | _ => simp [Rows.uptoBulk]
theorem bulkAll_len {H : Type} : ∀ l : List (DataW H), l.length ≤ Rows.uptoBulkAll l
  | [] => by simp
  | x :: l => by have := bulkAll_len l; have := bulk_pos x; simp only [List.length_cons, Rows.uptoBulkAll]; omega
theorem bulkAll_mem {H : Type} : ∀ {l : List (DataW H)} {d : DataW H}, d ∈ l → Rows.uptoBulk d ≤ Rows.uptoBulkAll l
  | x :: l, d, hd => by
    rcases List.mem_cons.1 hd with rfl | hd
    · simp only [Rows.uptoBulkAll]; omega
    · have := bulkAll_mem hd; simp only [Rows.uptoBulkAll]; omega
theorem bulkAll_sum {H α : Type} (z : α) (f : α → Nat) : ∀ {el : List (DataW H)} {xs : List α}, el.length = xs.length → (∀ i, i < xs.length → ∃ d, el[i]? = some d ∧ f (xs[i]?.getD z) ≤ Rows.uptoBulk d) → (xs.map f).sum ≤ Rows.uptoBulkAll el
  | [], [], _, _ => by simp
  | e :: el, x :: xs, hl, h => by
    obtain ⟨d, hd, h0⟩ := h 0 (by simp)
    simp at hd h0
    subst hd
    have := bulkAll_sum z f (el := el) (xs := xs) (by simpa using hl) (fun i hi => by
      obtain ⟨d, hd, h1⟩ := h (i + 1) (by simpa using hi)
      exact ⟨d, by simpa using hd, by simpa using h1⟩)
    simp only [List.map_cons, List.sum_cons, Rows.uptoBulkAll]
    omega
/-- all of its weights are within the reach, or its bulk is small -/
def InReach {H : Type} (t : TypeId) (d : DataW H) : Prop := (∀ k ∈ d.weights Tryz.prog t, k ≤ reachBytes) ∨ Rows.uptoBulk d ≤ 1048576
theorem InReach.of_args {H : Type} {t : TypeId} {d : DataW H} {ts : List TypeId} {gs : List (DataW H)} (hsz : (DataW.weightsEach Tryz.prog (t :: ts) (d :: gs)).all (· ≤ reachBytes) = true) : InReach t d := .inl fun k hk => by
  have := List.all_eq_true.1 hsz k (DataW.weights_mem_each (j := 0) rfl rfl k hk)
  simpa using this
theorem InReach.part {H : Type} {t : TypeId} {fs : Array Field} {ps : List (DataW H)} (h : InReach t (.agg ps)) (ht : Tryz.prog.underlying t = some (.struct fs)) {j : Nat} {f : Field} {d : DataW H} (hf : fs[j]? = some f) (hd : ps[j]? = some d) : InReach f.type d := by
  rcases h with h | h
  · refine .inl fun k hk => h k ?_
    simp only [DataW.weights, ht]
    exact DataW.weights_mem_each (j := j) (by simp [hf]) hd k hk
  · have := bulkAll_mem (List.mem_of_getElem? hd)
    simp only [Rows.uptoBulk] at h
    exact .inr (by omega)
theorem InReach.elem {H : Type} {t e : TypeId} {el sp : List (DataW H)} (h : InReach t (.slice el sp)) (ht : Tryz.prog.underlying t = some (.slice e)) {d : DataW H} (hd : d ∈ el) : InReach e d := by
  rcases h with h | h
  · refine .inl fun k hk => h k ?_
    simp only [DataW.weights, ht, List.mem_cons, List.mem_append]
    exact .inr (.inl (weightsAll_mem hd hk))
  · have := bulkAll_mem hd
    simp only [Rows.uptoBulk] at h
    exact .inr (by omega)
theorem InReach.len {H : Type} {t e : TypeId} {el sp : List (DataW H)} (h : InReach t (.slice el sp)) (ht : Tryz.prog.underlying t = some (.slice e)) {n : Nat} (hb : Tryz.prog.bytesOf e = n) (hn : n ≤ 65536) : el.length * n ≤ reachBytes := by
  rcases h with h | h
  · have := h ((el.length + sp.length) * Tryz.prog.bytesOf e) (by simp [DataW.weights, ht])
    rw [hb] at this
    exact Nat.le_trans (Nat.mul_le_mul_right _ (Nat.le_add_right _ _)) this
  · have := bulkAll_len el
    simp only [Rows.uptoBulk] at h
    have h1 : el.length * n ≤ 1048576 * 65536 := Nat.mul_le_mul (by omega) hn
    exact Nat.le_trans h1 (by decide)
theorem InReach.text {H : Type} {t : TypeId} {s : ByteArray} (h : InReach (H := H) t (.lit (.string s.data.toList))) : s.size ≤ reachBytes := by
  rcases h with h | h
  · have := h s.data.toList.length (by simp [DataW.weights])
    simpa using this
  · simp only [Rows.uptoBulk, Array.length_toList] at h
    have e : s.size = s.data.size := rfl
    simp only [reachBytes]
    omega
theorem open_rows {H : Type} {enc : TypeId × Value → H} {W : World} {base fuel : Nat} {v : Value} {y : DataW H × List MemPlace} {t e : TypeId} {n : Nat} (ht : Tryz.prog.underlying t = some (.slice e)) (hn : Tryz.prog.cellsOf e = n) (hn0 : 0 < n)
    {α : Type} (z : α) (cells : α → List Value) (good : α → DataW H → Prop)
    (hrd : ∀ fuel cs y, DataW.trod enc Tryz.prog W base (fun _ => true) true fuel e cs = some y → InReach e y.1 → ∃ x, cs = cells x ∧ good x y.1)
    (hf : DataW.trod enc Tryz.prog W base (fun _ => true) true fuel t [v] = some y) (hr : InReach t y.1) :
    ∃ (a : Option Addr) (cap : Nat) (xs : List α), v = .slice a xs.length cap ∧ xs.length ≤ cap ∧ xs.length ≤ 9223372036854775807 ∧ RowC z cells n W a xs ∧
      (xs = [] ∨ ∃ el sp, y.1 = .slice el sp ∧ el.length = xs.length ∧ ∀ i, i < xs.length → ∃ d, el[i]? = some d ∧ good (xs[i]?.getD z) d) := by
  rcases open_slice ht hf with ⟨e3, _⟩ | ⟨a, len, cap, m, n', D, Pl, e3, hb, hlc, hm, hmm, hxx, hel⟩
  · injection e3 with e3
    subst e3
    exact ⟨none, 0, [], rfl, by simp, by simp, fun i hi => by simp at hi, .inl rfl⟩
  · injection e3 with e3
    subst e3
    have hlm : len ≤ m := by rw [hmm]; split <;> omega
    have each : ∀ i, i < len → ∃ x : α, good x (D i) ∧ ∃ bb off, a = ⟨bb, off, none⟩ ∧ ∀ o u, (cells x)[o]? = some u → W.cell? ⟨bb, off + i * n + o, none⟩ = some u := by
      intro i hi
      obtain ⟨cs', hc, ht'⟩ := hel i (by omega)
      have hrD : InReach e (D i) := by
        rw [hxx] at hr
        exact hr.elem ht (List.mem_map.2 ⟨i, List.mem_range.2 hi, rfl⟩)
      obtain ⟨x, rfl, hg⟩ := hrd _ _ _ ht' hrD
      rw [hn] at hc
      obtain ⟨_, hl, hcell⟩ := World.cells?_some hc
      obtain ⟨bb, off, spot⟩ := a
      have hspot : spot = none := by
        obtain ⟨cs0, hc0, ht0⟩ := hel 0 (by omega)
        rw [hn] at hc0
        obtain ⟨_, hl0, hcell0⟩ := World.cells?_some hc0
        have h0 := hcell0 0 hn0
        cases hv0 : cs0[0]? with
        | none => rw [List.getElem?_eq_none_iff] at hv0; omega
        | some u =>
          rw [hv0] at h0
          have hs := World.cell?_spot h0
          clear hcell hcell0
          simpa [Addr.add] using hs
      subst hspot
      refine ⟨x, hg, bb, off, rfl, fun o u ho => ?_⟩
      have hol : o < n := by have := (List.getElem?_eq_some_iff.1 ho).1; omega
      have := hcell o hol
      rw [ho] at this
      simpa [Addr.add_lit, Nat.add_assoc] using this
    obtain ⟨f, hq⟩ := @choose_lt α ⟨z⟩ _ _ each
    have hnn : ∀ i, i < len → (((List.range len).map f)[i]?).getD z = f i := fun i hi => by simp [hi]
    refine ⟨some a, cap, (List.range len).map f, by simp, by simpa using hlc, by simp [maxLen] at hm ⊢; omega, fun i hi => ?_, .inr ⟨(List.range len).map D, (List.range (m - len)).map fun j => D (len + j), by rw [hxx], by simp, fun i hi => ?_⟩⟩
    · have hi' : i < len := by simpa using hi
      obtain ⟨hx, bb, off, e, c⟩ := hq i hi'
      rw [hnn i hi']
      exact ⟨bb, off, by rw [e], c⟩
    · have hi' : i < len := by simpa using hi
      rw [hnn i hi']
      exact ⟨D i, by simp [hi'], (hq i hi').1⟩

end Go.Proofs.YtgplnbdankfobaaGreatDoor
/- slices.Compact at ids. -/
namespace Go.Proofs.YtgplnbdankfobaaGreatDoor.Lk
open Go.RowKit Go.Sort Go.Lib
set_option linter.unusedVariables false

abbrev ics (i : Ix) : List Value := [.int .u32 i.1, .int .u32 i.2]
abbrev RowI (w : World) (a : Option Addr) (xs : List Ix) : Prop := RowC ((0, 0) : Ix) ics 2 w a xs
/-- a row of ids in a block of its own -/
def OwnI (B : Nat) (w : World) (s : Value) (n : Nat) (xs : List Ix) : Prop := w.ownsRow B 25 2 s n (xs.flatMap ics)
def CellI (w : World) (g : Nat) (f : Nat → Ix) (n : Nat) : Prop := ∀ i, i < n → w.cell? ⟨g, i * 2, none⟩ = some (.int .u32 (f i).1) ∧ w.cell? ⟨g, i * 2 + 1, none⟩ = some (.int .u32 (f i).2)
abbrev setI (w : World) (g k : Nat) (y : Ix) : World := (w.setCell ⟨g, k * 2, none⟩ (.int .u32 y.1)).setCell ⟨g, k * 2 + 1, none⟩ (.int .u32 y.2)
theorem CellI.put {w : World} {g n k : Nat} {f : Nat → Ix} (h : CellI w g f n) (y : Ix) : CellI (setI w g k y) g (put f k y) n := by
  intro i hi
  by_cases e : i = k
  · subst e
    rw [put_same]
    refine ⟨cell_setc (by simp) (World.cell?_setCell_same _ _ _ (h i hi).1), World.cell?_setCell_same _ _ _ (cell_setc (by simp) (h i hi).2)⟩
  · rw [put_other _ _ e]
    exact ⟨cell_setc (by simp only [ne_eq, Addr.mk.injEq]; omega) (cell_setc (by simp only [ne_eq, Addr.mk.injEq]; omega) (h i hi).1), cell_setc (by simp only [ne_eq, Addr.mk.injEq]; omega) (cell_setc (by simp only [ne_eq, Addr.mk.injEq]; omega) (h i hi).2)⟩
theorem CellI.congr {w : World} {g n : Nat} {f f' : Nat → Ix} (h : CellI w g f n) (e : ∀ i, i < n → f i = f' i) : CellI w g f' n := fun i hi => by rw [← e i hi]; exact h i hi
theorem CellI.later {w w' : World} {g n : Nat} {f : Nat → Ix} (h : CellI w g f n) (hb : Below w.heap.size w w') : CellI w' g f n := fun i hi => ⟨cell_later hb (h i hi).1, cell_later hb (h i hi).2⟩
theorem onl_setI (w : World) (g k : Nat) (y : Ix) : Onl (fun b => b = g) w (setI w g k y) := ((Onl.refl (fun b => b = g) w).set (p := g) rfl _ _).set (p := g) rfl _ _
theorem put_arr {d : Array Ix} {k : Nat} {y : Ix} (hk : k < d.size) (j : Nat) : put (fun j => d[j]!) k y j = (d.setIfInBounds k y)[j]! := by
  by_cases e : j = k
  · subst e; rw [put_same, getElem!_set_same d j y hk]
  · rw [put_other _ _ e, getElem!_set_other d k j y e]
/-- the row's cells -/
theorem ownI_cells {B n : Nat} {w : World} {a : Option Addr} {c : Nat} {xs : List Ix} (h : OwnI B w (.slice a n c) n xs) (hn : xs.length = n) (h0 : 0 < n) : ∃ g, a = some ⟨g, 0, none⟩ ∧ B ≤ g ∧ g < w.heap.size ∧ Loose w g ∧ n ≤ c ∧ c ≤ maxLen ∧ CellI w g (fun j => xs.toArray[j]!) n := by
  obtain ⟨g, rfl, hB, hc⟩ := own_cells h h0
  have hlt : g < w.heap.size := (h.lt g rfl).2
  obtain ⟨cur, hcur⟩ := own_type h (g := g) rfl
  refine ⟨g, rfl, hB, hlt, fun o => by simp [World.frozen?, hcur], ?_, ?_, fun i hi => ?_⟩
  · obtain ⟨_, ⟨e1, _⟩ | ⟨g', cap, cur', e1, _, _, h1, h2, _⟩⟩ := h
    · cases e1
    · injection e1 with _ _ e1; omega
  · obtain ⟨_, ⟨e1, _⟩ | ⟨g', cap, cur', e1, _, _, h1, h2, _⟩⟩ := h
    · cases e1
    · injection e1 with _ _ e1; omega
  · have e : xs.toArray[i]! = xs[i]! := by simp [getElem!_def]
    have h0 := fm_get (enc := ics) (k := 2) (fun _ => rfl) xs i 0 (by omega) (by decide)
    have h1 := fm_get (enc := ics) (k := 2) (fun _ => rfl) xs i 1 (by omega) (by decide)
    simp only [e]
    exact ⟨hc _ _ h0, hc _ _ h1⟩

theorem run_clearI (w : World) (ty : TypeId) (g k n c : Nat) (hk : k < n) (hc : ∀ j, j < (n - k) * 2 → (w.cell? ⟨g, k * 2 + j, none⟩).isSome = true) (hf : Loose w g) :
    (Builtin.clear_ #[50] ty #[.slice (some ⟨g, k * 2, none⟩) (n - k) c]).run Tryz.prog w = .ok (.tuple #[]) (w.setCells g (k * 2) (List.replicate ((n - k) * 2) (.int .u32 0))) := by
  obtain ⟨m, hm⟩ : ∃ m, n - k = m + 1 := ⟨n - k - 1, by omega⟩
  have hzc : (Builtin.zeroCells (Value.agg #[.int .u32 0, .int .u32 0]).cells (m + 1)).toList = List.replicate ((m + 1) * 2) (.int .u32 0) := by
    simp only [Value.cells, Builtin.zeroCells]
    apply List.ext_getElem
    · simp
    · intro i h1 h2
      simp only [List.getElem_replicate]
      have : i % 2 = 0 ∨ i % 2 = 1 := by omega
      rcases this with e | e <;> simp [e]
  have hst := run_storeCells_cells (P := Tryz.prog) g (k * 2) (List.replicate ((m + 1) * 2) (.int .u32 0)) 0 w (by rw [← hm]; simpa using hc) (by intro j _; exact hf _) (by intro v hv'; rw [List.eq_of_mem_replicate hv']; rfl)
  simp only [Nat.add_zero] at hst
  rw [hm]
  simp [Builtin.clear_, run_underlying Tryz.underlying50, hzc, hst]
theorem onl_setCells (g : Nat) : ∀ (vs : List Value) (o : Nat) (w : World), Onl (fun b => b = g) w (w.setCells g o vs)
  | [], _, w => Onl.refl _ _
  | v :: r, o, w => ((Onl.refl (fun b => b = g) w).set (p := g) rfl _ _).trans (onl_setCells g r (o + 1) _)
/-- what is kept -/
theorem rowI_of {w : World} {g n : Nat} {f : Nat → Ix} {ys : List Ix} (h : CellI w g f n) (hl : ys.length ≤ n) (e : ∀ j, j < ys.length → ys[j]? = some (f j)) : RowI w (some ⟨g, 0, none⟩) ys := fun i hi => by
  refine ⟨g, 0, rfl, fun o u ho => ?_⟩
  rw [e i hi] at ho
  obtain ⟨h0, h1⟩ := h i (by omega)
  match o, ho with
  | 0, ho => simp at ho; subst ho; simpa using h0
  | 1, ho => simp at ho; subst ho; simpa using h1
  | o + 2, ho => simp at ho

theorem own_lie {B n g c : Nat} {w : World} {xs : List Ix} (h : OwnI B w (.slice (some ⟨g, 0, none⟩) n c) n xs) : Lie w g 25 (c * 2) := by
  obtain ⟨_, ⟨e1, _⟩ | ⟨g', cap, cur, e1, _, hh, _, _, h3, _⟩⟩ := h
  · cases e1
  · injection e1 with e1 _ e2
    injection e1 with e1
    injection e1 with e1 _ _
    subst e1 e2
    exact ⟨cur, hh, h3⟩
theorem ownI_of {B g m c : Nat} {w : World} {D : List Ix} (hB : B ≤ g) (hl : Lie w g 25 (c * 2)) (hr : RowI w (some ⟨g, 0, none⟩) D) (hm : D.length = m) (hmc : m ≤ c) (hc : c ≤ maxLen) : OwnI B w (.slice (some ⟨g, 0, none⟩) m c) m D := by
  obtain ⟨cur, hh, hs⟩ := hl
  subst hm
  have hfl : (D.flatMap ics).length = D.length * 2 := by
    induction D with
    | nil => rfl
    | cons a D ih =>
      have : ∀ D : List Ix, (D.flatMap ics).length = D.length * 2 := fun D => by
        induction D with
        | nil => rfl
        | cons a D ih => rw [List.flatMap_cons, List.length_append, ih, List.length_cons]; simp; omega
      exact this _
  refine ⟨hfl, .inr ⟨g, c, cur, rfl, hB, hh, hmc, hc, hs, ?_⟩⟩
  apply List.ext_getElem?
  intro j
  rw [List.getElem?_take]
  by_cases hj : j < D.length * 2
  · rw [if_pos hj]
    have hjd : j / 2 < D.length := by omega
    obtain ⟨b', off', e, hc'⟩ := hr (j / 2) hjd
    injection e with e
    injection e with e1 e2
    subst e1 e2
    have hf := fm_get (enc := ics) (k := 2) (fun _ => rfl) D (j / 2) (j % 2) hjd (Nat.mod_lt _ (by decide))
    rw [show j / 2 * 2 + j % 2 = j by omega] at hf
    rw [hf]
    have hx : D[j / 2]! = D[j / 2]?.getD (0, 0) := by simp [hjd]
    rw [hx]
    have hu : (ics (D[j / 2]?.getD (0, 0)))[j % 2]? = some ((ics (D[j / 2]?.getD (0, 0)))[j % 2]'(by simp [ics]; omega)) := List.getElem?_eq_getElem _
    have := hc' _ _ hu
    rw [hu]
    simp only [World.cell?, hh] at this
    rw [show 0 + j / 2 * 2 + j % 2 = j by omega] at this
    simpa using this
  · rw [if_neg hj, List.getElem?_eq_none (by omega)]

set_option maxHeartbeats 4000000 in
theorem compactF_is {B n : Nat} {w : World} {a : Option Addr} {c : Nat} {xs : List Ix} (h : OwnI B w (.slice a n c) n xs) (hn : xs.length = n) :
    Calls Tryz.prog 35 #[.slice a n c] w fun e w' => ∃ m : Nat, e = .returned (.slice a m c) ∧ Hid ((compactUpTo xs.toArray n).length = m) ∧ Hid (RowI w' a (compactUpTo xs.toArray n)) ∧ Hid (Onl (fun b => (Value.slice a n c).ownBlock = some b) w w') ∧ Hid (OwnI B w' (.slice a m c) m (compactUpTo xs.toArray n)) := by
  have hnl := own_le h
  by_cases h2 : n < 2
  · have hD : compactUpTo xs.toArray n = xs := by
      have := compactUpTo_all xs.toArray n (fun j hj => keeps_lt_one _ j (by omega))
      rw [this, ← hn]
      have := range_map_get xs.toArray
      simpa using this
    have HR : Hid (RowI w a xs) := by
      by_cases h0 : n = 0
      · have : xs = [] := List.eq_nil_of_length_eq_zero (by omega)
        subst this
        intro i hi; simp at hi
      · obtain ⟨g, rfl, _, _, _, _, _, hc⟩ := ownI_cells h hn (by omega)
        refine rowI_of hc (by omega) (fun j hj => by simp [hj])
    rw [hD]
    have HOWN := hid h
    have hd : decide ((n : Int) < 2) = true := decide_eq_true (by omega)
    clear h hD
    go_enter Tryz.func35, Tryz.ntmps35
    go_wp2_with fail
    go_ret
    exact ⟨n, rfl, hn, HR, Onl.refl _ _, HOWN⟩
  · obtain ⟨g, rfl, hB, hlt, hlo, hcap, hcm, hc⟩ := ownI_cells h hn (by omega)
    obtain ⟨d, hd⟩ : ∃ d, d = xs.toArray := ⟨_, rfl⟩
    rw [← hd] at hc ⊢
    have hds : d.size = n := by rw [hd]; simpa using hn
    have HC := hid hc
    have HLO := hid hlo
    have HDS := hid hds
    have HLT := hid hlt
    have HLI := hid (own_lie h)
    have HBG := hid hB
    have HCM := hid hcm
    clear h hd hc hlo hn hlt hds
    have hd2 : ((n : Int) < 2) = False := by simp; omega
    go_enter Tryz.func35, Tryz.ntmps35
    go_wp2_with fail
    go_loopg [3] (n - 1) (fun gg s3 wr => ∃ k : Nat, 1 ≤ k ∧ k ≤ n ∧ gg = n - k ∧ s3 = .int .i64 k ∧ Hid (Below w.heap.size w wr) ∧ Hid (∀ j, j < k → keeps d j = true))
    case atStart => exact ⟨1, by omega, by omega, by omega, rfl, Below.refl _ _, fun j hj => keeps_lt_one _ j hj⟩
    case round =>
      obtain ⟨k, hk0, hk, rfl, rfl, HB, HA⟩ := hrel
      by_cases hkn : k < n
      · have hcr := HC.out.later HB.out
        obtain ⟨c0, c1⟩ := hcr k hkn
        obtain ⟨m, hm⟩ : ∃ m, m = k - 1 := ⟨_, rfl⟩
        obtain ⟨d0, d1⟩ := hcr m (by omega)
        have hw1 : IntKind.i64.wrap ((k : Int) - 1) = (m : Int) := by rw [IntKind.wrap_i64]; omega
        have hk1 : (k : Int) < (n : Int) := by omega
        have hm1 : (m : Int) < (n : Int) := by omega
        obtain ⟨x, hx⟩ : ∃ x, x = d[k]! := ⟨_, rfl⟩
        obtain ⟨y, hy⟩ : ∃ y, y = d[m]! := ⟨_, rfl⟩
        simp only [← hx, ← hy] at c0 c1 d0 d1
        have s0 := cell_regrown c0
        have s1 := cell_regrown c1
        have t0 := cell_regrown d0
        have t1 := cell_regrown d1
        obtain ⟨z, hz⟩ : ∃ z, sameI x y = z := ⟨_, rfl⟩
        have qq : ∀ W, (binOp .eql 25 (.agg #[.int .u32 x.1, .int .u32 x.2]) (.agg #[.int .u32 y.1, .int .u32 y.2])).run Tryz.prog W = .ok (.bool z) W := fun W => by rw [← hz]; exact run_eqI x y W
        have HZ : Hid (sameI d[k]! d[k - 1]! = z) := by rw [← hm, ← hx, ← hy]; exact hz
        clear hcr c0 c1 d0 d1 hx hy hz hm
        cases z with
        | false =>
          go_wp2_with fail
          refine wp_region_quiet_below (by kernel_rfl) (by kernel_rfl) ?_
          repeat (go_big_quiet_step (fail))
          refine wpQuiet_nil ?_
          intro wn hwn
          replace hwn := below_of_regrown hwn
          go_wp2_with fail
          go_roundg (n - (k + 1))
          case measure => omega
          case rel =>
            refine ⟨k + 1, by omega, by omega, rfl, by go_num, Below.on HB.out hwn, fun j hj => ?_⟩
            by_cases e : j = k
            · subst e
              exact keeps_pos (by have := HZ.out; simpa [sameI] using this)
            · exact HA.out j (by omega)
        | true =>
          have HS : Hid (CompInv d (k + 1) k d) := CompInv.start HA.out (keeps_neg (by omega) (by have := HZ.out; simpa [sameI] using this))
          go_wp2_with fail
          refine wp_region_quiet_below (by kernel_rfl) (by kernel_rfl) ?_
          repeat (go_big_quiet_step (fail))
          refine wpQuiet_nil ?_
          intro wn hwn
          replace hwn := below_of_regrown hwn
          have HBN : Hid (Below w.heap.size w wn) := Below.on HB.out hwn
          clear hwn s0 s1 t0 t1 qq HA HB hw1 hm1
          have hck : (c = k) = False := by simp; omega
          go_wp2_with fail
          obtain ⟨L2, hL2⟩ : ∃ L2, L2 = n - k := ⟨_, rfl⟩
          obtain ⟨C2, hC2⟩ : ∃ C2, C2 = c - k := ⟨_, rfl⟩
          rw [← hL2, ← hC2]
          have HL2 := hid hL2
          clear hL2 hC2
          go_loopg [3, 5] (n - (k + 1)) (fun gg s3 s5 wr => ∃ (kk k2 : Nat) (dk : Array Ix), s3 = .int .i64 kk ∧ s5 = .int .i64 k2 ∧ 1 ≤ k2 ∧ k + k2 ≤ n ∧ gg = n - (k + k2) ∧ Hid (CompInv d (k + k2) kk dk) ∧ Hid (CellI wr g (fun j => dk[j]!) n ∧ Loose wr g ∧ Onl (fun b => b = g) w wr) ∧ Hid (Lie wr g 25 (c * 2)))
          case atStart => exact ⟨k, 1, d, rfl, rfl, by omega, by omega, by omega, HS, ⟨HC.out.later HBN.out, HLO.out.later HBN.out HLT.out, Onl.of_below HBN.out⟩, HLI.out.later HBN.out⟩
          case round =>
            obtain ⟨kk, k2, dk, rfl, rfl, h1, hle, rfl, HI, HW, HLR⟩ := hrel
            have hkk : kk < k + k2 := HI.out.lt
            have hsz : dk.size = n := HI.out.size.trans HDS.out
            by_cases hlt2 : k + k2 < n
            · obtain ⟨m2, hm2⟩ : ∃ m2, m2 = k2 - 1 := ⟨_, rfl⟩
              have a0 : wr.cell? ⟨g, k * 2 + k2 * 2, none⟩ = some (.int .u32 (dk[k + k2]!).1) := by rw [show k * 2 + k2 * 2 = (k + k2) * 2 by omega]; exact (HW.out.1 (k + k2) hlt2).1
              have a1 : wr.cell? ⟨g, k * 2 + k2 * 2 + 1, none⟩ = some (.int .u32 (dk[k + k2]!).2) := by rw [show k * 2 + k2 * 2 + 1 = (k + k2) * 2 + 1 by omega]; exact (HW.out.1 (k + k2) hlt2).2
              have b0 : wr.cell? ⟨g, k * 2 + m2 * 2, none⟩ = some (.int .u32 (dk[k + k2 - 1]!).1) := by rw [show k * 2 + m2 * 2 = (k + k2 - 1) * 2 by omega]; exact (HW.out.1 (k + k2 - 1) (by omega)).1
              have b1 : wr.cell? ⟨g, k * 2 + m2 * 2 + 1, none⟩ = some (.int .u32 (dk[k + k2 - 1]!).2) := by rw [show k * 2 + m2 * 2 + 1 = (k + k2 - 1) * 2 + 1 by omega]; exact (HW.out.1 (k + k2 - 1) (by omega)).2
              have e0 := (HW.out.1 kk (by omega)).1
              have e1 := (HW.out.1 kk (by omega)).2
              have l0 := HW.out.2.1 (kk * 2)
              have l1 := HW.out.2.1 (kk * 2 + 1)
              have hu := HI.out.high (k + k2) (by omega)
              have hv := HI.out.high (k + k2 - 1) (by omega)
              obtain ⟨x, hx⟩ : ∃ x, x = dk[k + k2]! := ⟨_, rfl⟩
              obtain ⟨y, hy⟩ : ∃ y, y = dk[k + k2 - 1]! := ⟨_, rfl⟩
              obtain ⟨o, ho⟩ : ∃ o, o = dk[kk]! := ⟨_, rfl⟩
              rw [← hx] at a0 a1 hu
              rw [← hy] at b0 b1 hv
              simp only [← ho] at e0 e1
              have s0 := cell_regrown a0
              have s1 := cell_regrown a1
              have t0 := cell_regrown b0
              have t1 := cell_regrown b1
              obtain ⟨z, hz⟩ : ∃ z, sameI x y = z := ⟨_, rfl⟩
              have qq : ∀ W, (binOp .neq 25 (.agg #[.int .u32 x.1, .int .u32 x.2]) (.agg #[.int .u32 y.1, .int .u32 y.2])).run Tryz.prog W = .ok (.bool !z) W := fun W => by rw [← hz]; exact run_neI x y W
              have HZ : Hid (sameI d[k + k2]! d[k + k2 - 1]! = z) := by rw [← hu, ← hv]; exact hz
              have HU := hid hu
              have hw1 : IntKind.i64.wrap ((k2 : Int) - 1) = (m2 : Int) := by rw [IntKind.wrap_i64]; omega
              have hk2 : (k2 : Int) < (L2 : Int) := by have := HL2.out; omega
              have hm1 : (m2 : Int) < (L2 : Int) := by have := HL2.out; omega
              have hkn : (kk : Int) < (n : Int) := by omega
              have hkb : kk + 1 ≤ 9223372036854775807 := by omega
              have hk2b : k2 + 1 ≤ 9223372036854775807 := by omega
              have HA0 := hid a0
              have HA1 := hid a1
              clear hx hy ho hz hu hv hm2 a0 a1 b0 b1
              cases z with
              | true =>
                simp only [Bool.not_true] at qq
                have HI2 : Hid (CompInv d (k + (k2 + 1)) kk dk) := HI.out.skip (keeps_neg (by omega) (by have := HZ.out; simpa [sameI] using this))
                go_wp2_with fail
                refine wp_region_quiet_below (by kernel_rfl) (by kernel_rfl) ?_
                repeat (go_big_quiet_step (fail))
                refine wpQuiet_nil ?_
                intro wn hwn
                replace hwn := below_of_regrown hwn
                have HW2 : Hid (CellI wn g (fun j => dk[j]!) n ∧ Loose wn g ∧ Onl (fun b => b = g) w wn) := ⟨HW.out.1.later hwn, HW.out.2.1.later hwn (Nat.lt_of_lt_of_le HLT.out HW.out.2.2.size), HW.out.2.2.on hwn⟩
                have HLR2 := hid (HLR.out.later hwn)
                clear hwn
                go_wp2_with fail
                go_roundg (n - (k + (k2 + 1)))
                case measure => omega
                case rel => exact ⟨kk, k2 + 1, dk, rfl, by go_num, by omega, by omega, rfl, HI2, HW2, HLR2⟩
              | false =>
                simp only [Bool.not_false] at qq
                have HI2 : Hid (CompInv d (k + (k2 + 1)) (kk + 1) (dk.setIfInBounds kk x)) := by
                  have := HI.out.keep (by rw [HDS.out]; exact hlt2) (keeps_pos (by have := HZ.out; simpa [sameI] using this))
                  rw [← HU.out] at this
                  exact this
                go_wp2_with fail
                refine wp_region_quiet_below (by kernel_rfl) (by kernel_rfl) ?_
                repeat (go_big_quiet_step (fail))
                refine wpQuiet_nil ?_
                intro wn hwn
                replace hwn := below_of_regrown hwn
                have a0 := cell_later hwn HA0.out
                have a1 := cell_later hwn HA1.out
                have e0 := cell_later hwn e0
                have e1 := cell_later hwn e1
                have hlo2 : Loose wn g := HW.out.2.1.later hwn (Nat.lt_of_lt_of_le HLT.out HW.out.2.2.size)
                have l0 := hlo2 (kk * 2)
                have l1 := hlo2 (kk * 2 + 1)
                have HW2 : Hid (CellI (setI wn g kk x) g (fun j => (dk.setIfInBounds kk x)[j]!) n ∧ Loose (setI wn g kk x) g ∧ Onl (fun b => b = g) w (setI wn g kk x)) :=
                  ⟨((HW.out.1.later hwn).put x).congr (fun i _ => put_arr (by omega) i), (hlo2.setc _ _).setc _ _, (HW.out.2.2.on hwn).trans (onl_setI wn g kk x)⟩
                have HLR2 : Hid (Lie (setI wn g kk x) g 25 (c * 2)) := ((HLR.out.later hwn).set _ _ _).set _ _ _
                clear hwn hlo2
                go_wp2_with fail
                go_roundg (n - (k + (k2 + 1)))
                case measure => omega
                case rel => exact ⟨kk + 1, k2 + 1, dk.setIfInBounds kk x, by go_num, by go_num, by omega, by omega, rfl, HI2, HW2, HLR2⟩
            · have hend : k + k2 = n := by omega
              have hI := HI.out
              rw [hend] at hI
              have hcl : ∀ ty, (Builtin.clear_ #[50] ty #[.slice (some ⟨g, kk * 2, none⟩) (n - kk) (c - kk)]).run Tryz.prog wr = .ok (.tuple #[]) (wr.setCells g (kk * 2) (List.replicate ((n - kk) * 2) (.int .u32 0))) := fun ty =>
                run_clearI wr ty g kk n (c - kk) (by omega) (fun j hj => by
                  obtain ⟨u0, u1⟩ := HW.out.1 (kk + j / 2) (by omega)
                  have : j % 2 = 0 ∨ j % 2 = 1 := by omega
                  rcases this with e | e
                  · rw [show kk * 2 + j = (kk + j / 2) * 2 by omega, u0]; rfl
                  · rw [show kk * 2 + j = (kk + j / 2) * 2 + 1 by omega, u1]; rfl) HW.out.2.1
              obtain ⟨wE, hwE⟩ : ∃ wE, wE = wr.setCells g (kk * 2) (List.replicate ((n - kk) * 2) (.int .u32 0)) := ⟨_, rfl⟩
              rw [← hwE] at hcl
              have HF : Hid ((compactUpTo d n).length = kk) := hI.len
              have HR : Hid (RowI wE (some ⟨g, 0, none⟩) (compactUpTo d n)) := by
                refine rowI_of (n := kk) (f := fun j => dk[j]!) (fun i hi => ?_) (by rw [hI.len]; exact Nat.le_refl _) (fun j hj => hI.low j (by rw [hI.len] at hj; exact hj))
                obtain ⟨u0, u1⟩ := HW.out.1 i (by omega)
                rw [hwE]
                exact ⟨(World.cell?_setCells_out g _ _ wr _ (fun _ _ => .inl (by show i * 2 < kk * 2; omega))).trans u0, (World.cell?_setCells_out g _ _ wr _ (fun _ _ => .inl (by show i * 2 + 1 < kk * 2; omega))).trans u1⟩
              have HO : Hid (Onl (fun b => (Value.slice (some ⟨g, 0, none⟩) n c).ownBlock = some b) w wE) := by
                have h1 : Onl (fun b => b = g) w wE := by rw [hwE]; exact HW.out.2.2.trans (onl_setCells g _ _ wr)
                exact h1.mono (fun b hb => by rw [hb]; rfl)
              have hck2 : (c = kk) = False := by simp; omega
              have hL2 : ¬ k2 < L2 := by have := HL2.out; omega
              have hL3 : (k2 : Int) < (L2 : Int) → False := by omega
              have hkn1 : kk ≤ n := by omega
              have hkn2 : kk ≤ c := by omega
              have HOWN : Hid (OwnI B wE (.slice (some ⟨g, 0, none⟩) kk c) kk (compactUpTo d n)) := ownI_of HBG.out (by rw [hwE]; exact Lie.sets _ _ _ HLR.out) HR.out HF.out hkn2 HCM.out
              clear hwE hI HI HW
              go_wp2_with fail
              go_ret
              exact ⟨kk, rfl, HF, HR, HO, HOWN⟩
      · obtain rfl : k = n := by omega
        have hD : compactUpTo d k = (List.range k).map (d[·]!) := compactUpTo_all d k HA.out
        have HF : Hid ((compactUpTo d k).length = k) := by rw [hD]; show _ = _; simp
        have HR : Hid (RowI wr (some ⟨g, 0, none⟩) (compactUpTo d k)) := rowI_of (HC.out.later HB.out) (by rw [hD]; simp) (fun j hj => by
          rw [hD] at hj ⊢
          have hj' : j < k := by rw [List.length_map, List.length_range] at hj; exact hj
          rw [List.getElem?_map, List.getElem?_range hj']; rfl)
        clear hD
        have HOWN : Hid (OwnI B wr (.slice (some ⟨g, 0, none⟩) k c) k (compactUpTo d k)) := ownI_of HBG.out (HLI.out.later HB.out) HR.out HF.out hcap HCM.out
        go_wp2_with fail
        go_ret
        exact ⟨k, rfl, HF, HR, Onl.of_below HB.out, HOWN⟩
theorem compact_is {B n : Nat} {w : World} {a : Option Addr} {c : Nat} {xs : List Ix} (h : OwnI B w (.slice a n c) n xs) (hn : xs.length = n) :
    Calls Tryz.prog 35 #[.slice a n c] w fun e w' => ∃ m : Nat, e = .returned (.slice a m c) ∧ Hid ((compactUpTo xs.toArray n).length = m) ∧ Hid (RowI w' a (compactUpTo xs.toArray n)) ∧ Hid (Onl (fun b => (Value.slice a n c).ownBlock = some b) w w') :=
  (compactF_is h hn).mono fun e w' ⟨m, h1, h2, h3, h4, _⟩ => ⟨m, h1, h2, h3, h4⟩
end Go.Proofs.YtgplnbdankfobaaGreatDoor.Lk
namespace Go.Proofs.YtgplnbdankfobaaGreatDoor
open Go.RowKit

set_option maxHeartbeats 400000 in
theorem less_any (a b c x y z : Int) (w : World) :
    Calls Tryz.prog 33 #[stv a b c, stv x y z] w fun e w' => e = .returned (.bool (lessB a b c x y z)) ∧ Below w.heap.size w w' := by
  by_cases h1 : a = x
  · by_cases h2 : b = y
    · subst h1 h2
      go_enter Tryz.func33, Tryz.ntmps33
      go_wp2
      go_ret
      exact ⟨by simp [lessB], ((Below.refl _ _).alloc (Nat.le_refl _) _).alloc (by simp) _⟩
    · subst h1
      have h2' : (b != y) = true := by simpa using h2
      go_enter Tryz.func33, Tryz.ntmps33
      go_wp2
      go_ret
      exact ⟨by simp [lessB, h2], ((Below.refl _ _).alloc (Nat.le_refl _) _).alloc (by simp) _⟩
  · have h1' : (a != x) = true := by simpa using h1
    go_enter Tryz.func33, Tryz.ntmps33
    go_wp2
    go_ret
    exact ⟨by simp [lessB, h1], ((Below.refl _ _).alloc (Nat.le_refl _) _).alloc (by simp) _⟩

theorem less_is {a b c x y z : Int} {v : Bool} (h : lessB a b c x y z = v) (w : World) :
    Calls Tryz.prog 33 #[stv a b c, stv x y z] w fun e w' => e = .returned (.bool v) ∧ Below w.heap.size w w' := h ▸ less_any a b c x y z w

end Go.Proofs.YtgplnbdankfobaaGreatDoor
/- Blocks, in plain words. -/
namespace Go.Proofs.YtgplnbdankfobaaGreatDoor.Lk
open Go.RowKit Go.Sort Go.Lib
set_option linter.unusedVariables false

/-- does a transaction block a read of a span at a stamp? -/
def blkB (s : T2) (aw al an : Int) (h : Hd) : Bool := h.ws.any (fun x => insB x.key s) && !lessB aw al an h.w h.l h.n
theorem le_lt {i j k : Ix} (h1 : ltI j i = false) (h2 : ltI j k = true) : ltI i k = true := by
  obtain ⟨a, b⟩ := i
  obtain ⟨c, d⟩ := j
  obtain ⟨e, f⟩ := k
  simp [ltI] at h1 h2 ⊢
  omega
theorem lt_irr (i : Ix) : ltI i i = false := by simp [ltI]
/-- a sorted list, each only once -/
theorem comp_mem {d : Array Ix} : ∀ {j m : Nat}, j < m → d[j]! ∈ compactUpTo d m := by
  intro j
  induction j with
  | zero =>
    intro m hm
    exact List.mem_map.2 ⟨0, List.mem_filter.2 ⟨List.mem_range.2 hm, keeps_lt_one d 0 (by omega)⟩, rfl⟩
  | succ j ih =>
    intro m hm
    by_cases e : d[j + 1]! = d[j]!
    · rw [e]; exact ih (by omega)
    · exact List.mem_map.2 ⟨j + 1, List.mem_filter.2 ⟨List.mem_range.2 hm, keeps_pos (by simpa using e)⟩, rfl⟩
theorem comp_sub {d : Array Ix} {m : Nat} {x : Ix} (h : x ∈ compactUpTo d m) : ∃ j, j < m ∧ d[j]! = x := by
  obtain ⟨j, hj, rfl⟩ := List.mem_map.1 h
  exact ⟨j, List.mem_range.1 (List.mem_filter.1 hj).1, rfl⟩
theorem comp_rise {d : Array Ix} {m : Nat} (hs : ∀ i j, i < j → j < m → ltI d[j]! d[i]! = false) : (compactUpTo d m).Pairwise (fun x y => ltI x y = true) := by
  rw [compactUpTo, List.pairwise_map]
  refine (List.Pairwise.filter _ List.pairwise_lt_range).imp_of_mem ?_
  intro p q hp hq hpq
  obtain ⟨hq1, hq2⟩ := List.mem_filter.1 hq
  have hq1 := List.mem_range.1 hq1
  have hne : d[q]! ≠ d[q - 1]! := by
    simp only [keeps, decide_eq_true_eq] at hq2
    rcases hq2 with h | h
    · omega
    · exact h
  have h1 : ltI d[q - 1]! d[q]! = true := ltI_of (hs (q - 1) q (by omega) hq1) (fun e => hne e.symm)
  by_cases e : p = q - 1
  · rw [e]; exact h1
  · exact le_lt (hs p (q - 1) (by omega) (by omega)) h1
theorem rise_uniq {X Y : List Ix} (hX : X.Pairwise (fun x y => ltI x y = true)) (hY : Y.Pairwise (fun x y => ltI x y = true)) (hm : ∀ i, i ∈ X ↔ i ∈ Y) : X = Y := by
  have asym : ∀ {a b : Ix}, ltI a b = true → ltI b a = true → False := fun {a b} h1 h2 => by
    have := le_lt (i := a) (j := a) (k := b) (lt_irr a) h1
    obtain ⟨x, y⟩ := a
    obtain ⟨z, t⟩ := b
    simp [ltI] at h1 h2
    omega
  have nd : ∀ {l : List Ix}, l.Pairwise (fun x y => ltI x y = true) → l.Nodup := fun h => h.imp fun {a b} h1 e => by
    subst e; rw [lt_irr] at h1; cases h1
  exact List.Perm.eq_of_pairwise (le := fun x y => ltI x y = true) (fun a b _ _ h1 h2 => (asym h1 h2).elim) hX hY ((List.perm_ext_iff_of_nodup (nd hX) (nd hY)).2 hm)
/-- the intents are no more than the writes -/
def sumW (M : List Hd) : Nat := (M.map fun h => h.ws.length).sum
theorem ints_le {M : List Hd} {I : It} (ok : Ok M I) : I.length ≤ sumW M := by
  have h1 : I.map (·.1) ⊆ M.flatMap (fun h => h.ws.map Wr.key) := fun k hk => by
    obtain ⟨⟨k', i⟩, hp, rfl⟩ := List.mem_map.1 hk
    obtain ⟨h, hh, _, x, hx, e⟩ := (ok.tie _ _).1 hp
    exact List.mem_flatMap.2 ⟨h, hh, List.mem_map.2 ⟨x, hx, e⟩⟩
  have h2 := List.Nodup.length_le_of_subset ok.keys h1
  rw [List.length_map, List.length_flatMap] at h2
  simpa [sumW, Function.comp_def] using h2
theorem holdM_sum (M : List Hd) (h : Hd) : sumW (holdM M h) ≤ sumW M + h.ws.length := by
  unfold holdM
  split
  · omega
  · split
    · omega
    · simp [sumW]
end Go.Proofs.YtgplnbdankfobaaGreatDoor.Lk
/- The document's sorted, All. -/
namespace Go.Proofs.YtgplnbdankfobaaGreatDoor.Lk
open Go.RowKit Go.Sort
set_option linter.unusedVariables false

def CellB (w : World) (g : Nat) (f : Nat → Bool) (n : Nat) : Prop := ∀ i, i < n → w.cell? ⟨g, i, none⟩ = some (.bool (f i))
theorem CellB.later {w w' : World} {g n : Nat} {f : Nat → Bool} (h : CellB w g f n) (hb : Below w.heap.size w w') : CellB w' g f n := fun i hi => cell_later hb (h i hi)
theorem CellB.put {w : World} {g n k : Nat} {f : Nat → Bool} (h : CellB w g f n) (y : Bool) : CellB (w.setCell ⟨g, k, none⟩ (.bool y)) g (put f k y) n := by
  intro i hi
  by_cases e : i = k
  · subst e; rw [put_same]; exact World.cell?_setCell_same _ _ _ (h i hi)
  · rw [put_other _ _ e]; exact cell_setc (by simp only [ne_eq, Addr.mk.injEq]; omega) (h i hi)
theorem infoBo : (Tryz.prog.info? 4).map (fun i => (i.zero, i.size, i.bytes)) = some (some (.bool false), 1, 1) := by kernel_rfl
theorem make_bo (w : World) (n : Nat) (h : n ≤ 1759218604441) : (Instr.makeSlice 82 (.int .i64 (n : Int)) (.int .i64 (n : Int))).run Tryz.prog w = .ok (.slice (some ⟨w.heap.size, 0, none⟩) n n) (w.alloc (.cells (madeCells (Value.bool false).cells n) 4)) := by
  obtain ⟨i0, hi, hz0, hz1, hz2⟩ := info_of infoBo
  have := run_make (P := Tryz.prog) w 82 4 i0 _ Tryz.underlying82 hi hz0 .i64 .i64 n n (by omega) (by omega) (by rw [hz2]; omega) (by omega)
  rw [this, hz1]
  simp
theorem madeB (w : World) (n : Nat) : CellB (w.alloc (.cells (madeCells (Value.bool false).cells n) 4)) w.heap.size (fun _ => false) n := by
  intro i hi
  simp [go_sem, madeCells, hi, Value.cells, Nat.mod_one]

/-- there is a rising list of what is held -/
theorem told_ex (M : List Hd) : ∃ L, Told L M := by
  refine ⟨M.mergeSort (fun x y => !ltI y.id x.id), List.mergeSort_perm _ _, ?_⟩
  have := List.pairwise_mergeSort (le := fun x y : Hd => !ltI y.id x.id) (fun a b c h1 h2 => by
    simp only [Bool.not_eq_true'] at h1 h2 ⊢
    cases e : ltI c.id a.id with
    | false => rfl
    | true =>
      have := le_lt (i := b.id) (j := c.id) (k := a.id) h2 e
      rw [h1] at this; cases this) (fun a b => by
    cases e : ltI b.id a.id with
    | false => simp
    | true =>
      cases e' : ltI a.id b.id with
      | false => simp
      | true =>
        exfalso
        simp only [ltI, Bool.or_eq_true, Bool.and_eq_true, decide_eq_true_eq] at e e'
        omega) M
  exact this.imp fun {x y} h => by simpa using h
/-- the least that is left among the first i -/
def minP (f : Nat → Bool) (V : List Hv) (i : Nat) (k : Int) : Prop := (k = -1 ∧ ∀ j, j < i → f j = true) ∨ ∃ m : Nat, k = (m : Int) ∧ m < i ∧ f m = false ∧ ∀ j, j < i → f j = false → ltI (nthH V j).h.id (nthH V m).h.id = false
/-- the done ones are those that were told -/
def doneP (f : Nat → Bool) (V : List Hv) (L : List Hd) (r : Nat) : Prop := ∀ j, j < V.length → (f j = true ↔ (nthH V j).h ∈ L.take r)
section
variable {f : Nat → Bool} {V : List Hv} {L : List Hd} {r : Nat}
theorem told_next (hnd : ((V.map Hv.h).map Hd.id).Nodup) (hL : Told L (V.map Hv.h)) (hd : doneP f V L r) (hr : r < V.length) {k : Int} (hk : minP f V V.length k) : ∃ m : Nat, k = (m : Int) ∧ m < V.length ∧ f m = false ∧ L[r]? = some (nthH V m).h := by
  have hlen : L.length = V.length := by rw [hL.len, List.length_map]
  have hrl : r < L.length := by omega
  have hlt := hL.lt hnd
  have hnt : ∀ {a : Nat} (ha : a < L.length), r ≤ a → L[a] ∉ L.take r := fun {a} ha hra hm => by
    obtain ⟨b, hb, e⟩ := List.getElem_of_mem hm
    have hb' : b < r := by simp at hb; omega
    rw [List.getElem_take] at e
    have := List.pairwise_iff_getElem.1 hlt b a (by omega) ha (by omega)
    rw [e, lt_irr] at this; cases this
  obtain ⟨v, hv, ev⟩ := List.mem_map.1 (hL.perm.mem_iff.1 (List.getElem_mem hrl))
  obtain ⟨s, hs, es⟩ := List.getElem_of_mem hv
  have en : (nthH V s).h = L[r] := by rw [← ev, ← es]; simp [nthH, hs]
  have fs : f s = false := by
    cases e : f s with
    | false => rfl
    | true => exact absurd (en ▸ (hd s hs).1 e) (hnt hrl (Nat.le_refl _))
  rcases hk with ⟨_, hall⟩ | ⟨m, rfl, hm, fm, hmin⟩
  · rw [hall s hs] at fs; cases fs
  · refine ⟨m, rfl, hm, fm, ?_⟩
    have hmL : (nthH V m).h ∈ L := hL.perm.mem_iff.2 (List.mem_map.2 ⟨_, nthH_mem hm, rfl⟩)
    obtain ⟨b, hb, eb⟩ := List.getElem_of_mem hmL
    have hrb : r ≤ b := by
      rcases Nat.lt_or_ge b r with h | h
      · have : (nthH V m).h ∈ L.take r := by
          rw [← eb]
          exact List.mem_take_iff_getElem.2 ⟨b, by omega, rfl⟩
        rw [(hd m hm).2 this] at fm; cases fm
      · exact h
    by_cases e : b = r
    · subst e; rw [List.getElem?_eq_getElem hb, eb]
    · have h1 := List.pairwise_iff_getElem.1 hlt r b hrl hb (by omega)
      have h2 := hmin s hs fs
      rw [en, ← eb, h1] at h2; cases h2
theorem done_step (hnd : ((V.map Hv.h).map Hd.id).Nodup) (hd : doneP f V L r) {m : Nat} (hm : m < V.length) (hr : r < L.length) (hL : L[r]? = some (nthH V m).h) : doneP (put f m true) V L (r + 1) := fun j hj => by
  have e : L.take (r + 1) = L.take r ++ [(nthH V m).h] := by
    rw [List.take_succ_eq_append_getElem hr]
    rw [List.getElem?_eq_getElem hr] at hL
    injection hL with hL
    rw [hL]
  rw [e, List.mem_append]
  by_cases ejm : j = m
  · subst ejm; rw [put_same]; simp
  · rw [put_other _ _ ejm, hd j hj]
    constructor
    · exact .inl
    · rintro (h | h)
      · exact h
      · simp at h
        have : nthH V j = nthH V m := by
          have h1 : (V.map (fun v => v.h.id)).Nodup := by simpa [List.map_map, Function.comp_def] using hnd
          exact nodup_inj h1 (nthH_mem hj) (nthH_mem hm) (by rw [h])
        exact absurd (by
          have h1 : (V.map (fun v => v.h.id)).Nodup := by simpa [List.map_map, Function.comp_def] using hnd
          have e1 : (V.map (fun v => v.h.id))[j]? = (V.map (fun v => v.h.id))[m]? := by
            have a1 : nthH V j = V[j] := by simp [nthH, hj]
            have a2 : nthH V m = V[m] := by simp [nthH, hm]
            simp [hj, hm, ← a1, ← a2, this]
          exact (List.getElem?_inj (by simpa using hj) h1).1 e1) ejm
theorem min_step {i : Nat} {k : Int} (h : minP f V i k) (hf : f i = true) : minP f V (i + 1) k := by
  rcases h with ⟨e, h⟩ | ⟨m, e, h1, h2, h3⟩
  · exact .inl ⟨e, fun j hj => by by_cases ej : j = i; (subst ej; exact hf); (exact h j (by omega))⟩
  · refine .inr ⟨m, e, by omega, h2, fun j hj fj => ?_⟩
    by_cases ej : j = i
    · subst ej; rw [hf] at fj; cases fj
    · exact h3 j (by omega) fj
theorem min_first {i : Nat} (h : minP f V i (-1)) (hf : f i = false) : minP f V (i + 1) (i : Int) := by
  rcases h with ⟨_, h⟩ | ⟨m, e, _⟩
  · refine .inr ⟨i, rfl, by omega, hf, fun j hj fj => ?_⟩
    by_cases ej : j = i
    · subst ej; exact lt_irr _
    · rw [h j (by omega)] at fj; cases fj
  · omega
theorem min_keep {i m : Nat} (h : minP f V i (m : Int)) (hl : ltI (nthH V i).h.id (nthH V m).h.id = false) : minP f V (i + 1) (m : Int) := by
  rcases h with ⟨e, _⟩ | ⟨m', e, h1, h2, h3⟩
  · omega
  · obtain rfl : m = m' := by omega
    refine .inr ⟨m, rfl, by omega, h2, fun j hj fj => ?_⟩
    by_cases ej : j = i
    · subst ej; exact hl
    · exact h3 j (by omega) fj
theorem min_take {i m : Nat} (h : minP f V i (m : Int)) (hf : f i = false) (hl : ltI (nthH V i).h.id (nthH V m).h.id = true) : minP f V (i + 1) (i : Int) := by
  rcases h with ⟨e, _⟩ | ⟨m', e, h1, h2, h3⟩
  · omega
  · obtain rfl : m = m' := by omega
    refine .inr ⟨i, rfl, by omega, hf, fun j hj fj => ?_⟩
    by_cases ej : j = i
    · subst ej; exact lt_irr _
    · cases e : ltI (nthH V j).h.id (nthH V i).h.id with
      | false => rfl
      | true =>
        have h4 := h3 j (by omega) fj
        have h5 : ltI (nthH V j).h.id (nthH V m).h.id = true := by
          simp only [ltI, Bool.or_eq_true, Bool.and_eq_true, decide_eq_true_eq] at e hl ⊢
          omega
        rw [h4] at h5; cases h5
end
end Go.Proofs.YtgplnbdankfobaaGreatDoor.Lk
/- The document's sorted, All. -/
namespace Go.Proofs.YtgplnbdankfobaaGreatDoor.Lk
open Go.RowKit Go.Sort
set_option linter.unusedVariables false

theorem foreign_one {w : World} {g : Nat} {cur : Array Value} {t : TypeId} (h : w.heap[g]? = some (.cells cur t (0, 0))) (h1 : t ≠ 34) (h2 : t ≠ 64) : Foreign w (fun b => b = g) := by
  rintro b rfl
  exact ⟨fun cur' h' => h1 (cells_ne h h'), fun cur' h' => h2 (cells_ne h h')⟩
theorem foreign_own {w : World} {B n : Nat} {s : Value} {U : List Hv} (h : OwnH B w s n U) : Foreign w (fun b => s.ownBlock = some b) := by
  intro b hb
  obtain ⟨cur, hc⟩ := own_type h hb
  exact ⟨fun cur' h' => by have := cells_ne hc h'; revert this; decide, fun cur' h' => by have := cells_ne hc h'; revert this; decide⟩

set_option maxRecDepth 8000 in
set_option maxHeartbeats 4000000 in
theorem sortedF_is {B q n c : Nat} {w : World} {a : Option Addr} {V : List Hv} {L : List Hd} (T : RT B w q a n c V) (hn : n + 1 ≤ 1759218604441) (hnd : ((V.map Hv.h).map Hd.id).Nodup) (hL : Told L (V.map Hv.h)) :
    Calls Tryz.prog 26 #[.pointer (some ⟨q, 0, none⟩)] w fun e w' => ∃ (a' : Option Addr) (c' : Nat) (U : List Hv), e = .returned (.slice a' n c') ∧ Hid (RowH w.heap.size w' a' n c' U) ∧ Hid (U.map Hv.h = L) ∧ Hid (∀ u ∈ U, u.typ w') ∧ Hid (Below w.heap.size w w') ∧ Hid (∀ u ∈ U, u.low w.heap.size) := by
  have c0 := T.c0
  have hmk := make_bo w n (by omega)
  obtain ⟨wx, hwx⟩ : ∃ wx, wx = w.alloc (.cells (madeCells (Value.bool false).cells n) 4) := ⟨_, rfl⟩
  have hcb := madeB w n
  have hbx : Below w.heap.size w wx := by rw [hwx]; exact Below.al (Below.refl _ _) _
  have hgo : ∃ cur, wx.heap[w.heap.size]? = some (.cells cur 4 (0, 0)) := by rw [hwx]; exact ⟨_, (MapKept.heap_alloc _ _).1⟩
  have hsz : w.heap.size < wx.heap.size := by rw [hwx]; simp
  rw [← hwx] at hmk hcb
  obtain ⟨gd, hgd⟩ : ∃ gd, gd = w.heap.size := ⟨_, rfl⟩
  rw [← hgd] at hmk hcb hgo hsz
  have HLN := hid T.row.len
  have HT := hid T
  have HND := hid hnd
  have HL := hid hL
  have HLL : Hid (L.length = n) := by have := hL.len; rw [List.length_map, T.row.len] at this; exact this
  have HCB := hid hcb
  have HBX := hid hbx
  have HGO := hid hgo
  have HGD := hid hgd
  have HSZ := hid hsz
  obtain ⟨i0, hi, hz0, hz1, hz2⟩ := info_of infoHd
  clear T hwx hcb hbx hgo hgd hsz hnd hL
  go_enter Tryz.func26, Tryz.ntmps26
  go_wp2_with fail
  clear hmk c0
  go_loopg [3, 5] n (fun g s3 s5 wr => ∃ (r : Nat) (a' : Option Addr) (c' : Nat) (O : List Hv) (f : Nat → Bool), r ≤ n ∧ g = n - r ∧ s5 = .int .i64 r ∧ s3 = .slice a' r c' ∧ Hid (O.length = r ∧ O.map Hv.h = L.take r) ∧ Hid (OwnH wx.heap.size wr (.slice a' r c') r O) ∧ Hid (∀ u ∈ O, u.ok wr ∧ u.typ wr) ∧ Hid (∀ u ∈ O, u.low w.heap.size) ∧
    Hid (CellB wr gd f n ∧ (∃ cur, wr.heap[gd]? = some (.cells cur 4 (0, 0))) ∧ doneP f V L r) ∧ Hid (Below w.heap.size w wr ∧ wx.heap.size ≤ wr.heap.size))
  case atStart => exact ⟨0, none, 0, [], fun _ => false, by omega, by omega, rfl, rfl, ⟨rfl, by simp⟩, ⟨rfl, .inl ⟨rfl, rfl⟩⟩, fun u hu => by simp at hu, fun u hu => by simp at hu, ⟨HCB.out, HGO.out, fun j hj => by simp⟩, ⟨HBX.out, Nat.le_refl _⟩⟩
  case round =>
    obtain ⟨r, a', c', O, f, hr, rfl, rfl, rfl, HOL, HOW, HOK, HLW, HD, HBW⟩ := hrel
    have TR := HT.out.later HBW.out.1
    have c0 := TR.c0
    by_cases hlt : r < n
    · obtain ⟨wO, hwO⟩ : ∃ wO, wO = wr := ⟨_, rfl⟩
      rw [← hwO] at HOW HOK HD HBW TR c0 ⊢
      clear hwO
      have HTR := hid TR
      clear TR
      go_wp2_with fail
      clear c0
      go_loopg [6, 7] n (fun g s6 s7 wr => ∃ (i : Nat) (kz : Int), i ≤ n ∧ g = n - i ∧ s7 = .int .i64 i ∧ s6 = .int .i64 kz ∧ Hid (minP f V i kz) ∧ Hid (Below wO.heap.size wO wr))
      case atStart => exact ⟨0, -1, by omega, by omega, rfl, rfl, .inl ⟨rfl, fun j hj => absurd hj (by omega)⟩, Below.refl _ _⟩
      case round =>
        obtain ⟨i, kz, hi1, rfl, rfl, rfl, HMI, HB⟩ := hrel
        have TI := HTR.out.later HB.out
        have c0 := TI.c0
        by_cases hil : i < n
        · have d0 := cell_later HB.out (HD.out.1 i hil)
          obtain ⟨g, eg, hc⟩ := ownH_at TI.row.own HLN.out hil
          have hi2 : (i : Int) < (n : Int) := by omega
          have k0 := cell_regrown c0
          have k1 := cell_regrown d0
          obtain ⟨fb, hfb⟩ : ∃ fb, fb = f i := ⟨_, rfl⟩
          rw [← hfb] at d0 k1
          have HFB := hid hfb
          clear hfb d0
          cases fb with
          | true =>
            have HM2 : Hid (minP f V (i + 1) kz) := min_step HMI.out HFB.out.symm
            clear hc TI
            go_wp2_with fail
            refine wp_region_quiet_below (by kernel_rfl) (by kernel_rfl) ?_
            repeat (go_big_quiet_step (fail))
            refine wpQuiet_nil ?_
            intro wn hwn
            replace hwn := below_of_regrown hwn
            go_wp2_with fail
            go_roundg (n - (i + 1))
            case measure => omega
            case rel => exact ⟨i + 1, kz, by omega, rfl, by go_num, rfl, HM2, Below.on HB.out hwn⟩
          | false =>
            rcases HMI.out with ⟨rfl, hall⟩ | ⟨m, rfl, hm, fm, hmin⟩
            · have HM2 : Hid (minP f V (i + 1) (i : Int)) := min_first (.inl ⟨rfl, hall⟩) HFB.out.symm
              clear hc TI hall
              go_wp2_with fail
              refine wp_region_quiet_below (by kernel_rfl) (by kernel_rfl) ?_
              repeat (go_big_quiet_step (fail))
              refine wpQuiet_nil ?_
              intro wn hwn
              replace hwn := below_of_regrown hwn
              go_wp2_with fail
              go_roundg (n - (i + 1))
              case measure => omega
              case rel => exact ⟨i + 1, (i : Int), by omega, rfl, by go_num, rfl, HM2, Below.on HB.out hwn⟩
            · obtain ⟨g', eg', hc'⟩ := ownH_at TI.row.own HLN.out (show m < n by omega)
              rw [eg] at eg'
              injection eg' with eg'
              injection eg' with eg'
              subst eg'
              obtain ⟨x, hxe⟩ : ∃ x, x = nthH V i := ⟨_, rfl⟩
              obtain ⟨y, hye⟩ : ∃ y, y = nthH V m := ⟨_, rfl⟩
              rw [← hxe] at hc
              rw [← hye] at hc'
              obtain ⟨lt, hlt'⟩ : ∃ lt, ltI x.h.id y.h.id = lt := ⟨_, rfl⟩
              have s0 := cell_regrown (show wr.cell? ⟨g, i * 8, none⟩ = _ from hc 0 _ rfl)
              have s1 := cell_regrown (hc 1 _ rfl)
              have t0 := cell_regrown (show wr.cell? ⟨g, m * 8, none⟩ = _ from hc' 0 _ rfl)
              have t1 := cell_regrown (hc' 1 _ rfl)
              have BF : Hid (∀ W, Calls Tryz.prog 43 #[.agg #[.int .u32 x.h.id.1, .int .u32 x.h.id.2], .agg #[.int .u32 y.h.id.1, .int .u32 y.h.id.2]] W fun e w' => e = .returned (.bool lt) ∧ Below W.heap.size W w') := fun W => before_is hlt' W
              have HLT' : Hid (ltI (nthH V i).h.id (nthH V m).h.id = lt) := by rw [← hxe, ← hye]; exact hlt'
              have hm1 : (m : Int) < (n : Int) := by omega
              have hm0 : decide ((m : Int) < 0) = false := decide_eq_false (by omega)
              rw [eg] at k0 c0
              clear hc hc' hxe hye hlt' TI eg
              cases lt with
              | true =>
                have HM2 : Hid (minP f V (i + 1) (i : Int)) := min_take HMI.out HFB.out.symm HLT'.out
                clear hmin fm
                go_wp2_with fail
                refine wp_region_quiet_below (by kernel_rfl) (by kernel_rfl) ?_
                repeat (go_big_quiet_step (((go_at_call 43; exact Calls.regrown_of (BF.out _)))))
                refine wpQuiet_nil ?_
                intro wn hwn
                replace hwn := below_of_regrown hwn
                go_wp2_with fail
                go_roundg (n - (i + 1))
                case measure => omega
                case rel => exact ⟨i + 1, (i : Int), by omega, rfl, by go_num, rfl, HM2, Below.on HB.out hwn⟩
              | false =>
                have HM2 : Hid (minP f V (i + 1) (m : Int)) := min_keep HMI.out HLT'.out
                clear hmin fm
                go_wp2_with fail
                refine wp_region_quiet_below (by kernel_rfl) (by kernel_rfl) ?_
                repeat (go_big_quiet_step (((go_at_call 43; exact Calls.regrown_of (BF.out _)))))
                refine wpQuiet_nil ?_
                intro wn hwn
                replace hwn := below_of_regrown hwn
                go_wp2_with fail
                go_roundg (n - (i + 1))
                case measure => omega
                case rel => exact ⟨i + 1, (m : Int), by omega, rfl, by go_num, rfl, HM2, Below.on HB.out hwn⟩
        · obtain rfl : i = n := by omega
          obtain ⟨m, rfl, hm, fm, hLm⟩ := told_next HND.out HL.out HD.out.2.2 (by rw [HLN.out]; exact hlt) (k := kz) (by rw [HLN.out]; exact HMI.out)
          have hmi : m < i := by have := HLN.out; omega
          have hm1 : (m : Int) < (i : Int) := by omega
          have d0 : wr.cell? ⟨gd, m, none⟩ = some (.bool false) := by have := cell_later HB.out (HD.out.1 m hmi); rwa [fm] at this
          have HDN : Hid (doneP (put f m true) V L (r + 1)) := done_step HND.out HD.out.2.2 hm (by rw [HLL.out]; exact hlt) hLm
          have HLM := hid hLm
          obtain ⟨x, hxe⟩ : ∃ x, x = nthH V m := ⟨_, rfl⟩
          have hxV : x ∈ V := by rw [hxe]; exact nthH_mem hm
          rw [← hxe] at HLM
          obtain ⟨wz, hwz⟩ : ∃ wz, wz = wr.setCell ⟨gd, m, none⟩ (.bool true) := ⟨_, rfl⟩
          obtain ⟨cur, hgc⟩ : ∃ cur, wr.heap[gd]? = some (.cells cur 4 (0, 0)) := by
            obtain ⟨cur, hc⟩ := HD.out.2.1
            exact ⟨cur, (HB.out.block gd (Array.getElem?_eq_some_iff.1 hc).1).trans hc⟩
          have fz : ∀ o, wr.frozen? ⟨gd, o, none⟩ = false := fun o => by simp [World.frozen?, hgc]
          have hfor : Foreign wr (fun b => b = gd) := foreign_one hgc (by decide) (by decide)
          have hoz : Onl (fun b => b = gd) wr wz := by rw [hwz]; exact Onl.set (F := fun b => b = gd) (Onl.refl _ _) rfl _ _
          have HCZ : Hid (CellB wz gd (put f m true) i) := by rw [hwz]; exact (HD.out.1.later HB.out).put true
          have HGZ : Hid (∃ cur, wz.heap[gd]? = some (.cells cur 4 (0, 0))) := by rw [hwz]; exact ⟨_, heap_setCell_same _ _ _ _ _ _ hgc⟩
          have HBZ : Hid (Below w.heap.size w wz) := by
            rw [hwz]
            exact Below.setCell (Below.on HBW.out.1 HB.out) (by show _ ≤ gd; rw [HGD.out]; exact Nat.le_refl _) _
          have hsz : wx.heap.size ≤ wz.heap.size := Nat.le_trans HBW.out.2 (Nat.le_trans HB.out.size hoz.size)
          have TZ := HT.out.later HBZ.out
          have z0 := TZ.c0
          have HOZ : Hid (OwnH wx.heap.size wz (.slice a' r c') r O) := owns_keep (owns_keep HOW.out fun g hg => HB.out.block g (HOW.out.lt g hg).2) fun g hg => by
            rw [hwz]
            refine Below.heap_setCell _ _ _ _ ?_
            have h1 := (HOW.out.lt g hg).1
            have h2 := HSZ.out
            show g ≠ gd
            omega
          have HKZ : Hid (∀ u ∈ O, u.ok wz ∧ u.typ wz) := fun u hu => ⟨((HOK.out u hu).1.later HB.out).typ_onl ((HOK.out u hu).2.later HB.out) hoz hfor, ((HOK.out u hu).2.later HB.out).onl hoz hfor⟩
          have CO := hid (rcopied_is (TZ.row.ok x hxV))
          obtain ⟨g, eg, hc⟩ := ownH_at TZ.row.own HLN.out hmi
          rw [← hxe] at hc
          subst eg
          have s0 : wz.cell? ⟨g, m * 8, none⟩ = some (.int .u32 x.h.id.1) := hc 0 _ rfl
          have s1 := hc 1 _ rfl
          have s2 := hc 2 _ rfl
          have s3 := hc 3 _ rfl
          have s4 := hc 4 _ rfl
          have s5 := hc 5 _ rfl
          have s6 := hc 6 _ rfl
          have s7 := hc 7 _ rfl
          clear hc hxe hxV hfor hoz hgc TI TZ hLm fm hm
          go_upto_region 13 with fail
          rw [← hwz]
          clear hwz c0 d0 fz
          go_wp2_with fail
          refine CO.out.mono ?_
          rintro e w3 ⟨u, rfl, HUH, HUF, HUO, HB3⟩
          clear CO s0 s1 s2 s3 s4 s5 s6 s7 z0
          obtain ⟨w5, hw5⟩ : ∃ w5, w5 = w3.alloc (.cells #[.int .u32 u.h.id.1, .int .u32 u.h.id.2, .int .u32 u.h.home, .int .u64 u.h.w, .int .u32 u.h.l, .int .u32 u.h.n, .slice u.ra u.h.rs.length u.rc, .slice u.wa u.h.ws.length u.wc] 32) := ⟨_, rfl⟩
          have hb5 : Below w3.heap.size w3 w5 := by rw [hw5]; exact Below.al (Below.refl _ _) _
          have hbz : Below wz.heap.size wz w5 := Below.on HB3.out hb5
          have HZ5 := hid hbz
          have H35 := hid hb5
          have HO5 : Hid (OwnH wx.heap.size w5 (.slice a' r c') r O) := owns_keep HOZ.out fun g hg => hbz.block g (HOZ.out.lt g hg).2
          have HCL : Hid (∀ j' y, (hcs u)[j']? = some y → w5.cell? ((⟨w3.heap.size, 0, none⟩ : Addr).add j') = some y) := by rw [hw5]; exact lit8 w3 u
          have HX5 : Hid (Below w.heap.size w w5) := Below.on HBZ.out hbz
          have hs5 : wx.heap.size ≤ w5.heap.size := Nat.le_trans hsz hbz.size
          have hmb : r + 1 ≤ 1759218604441 := by omega
          clear hb5 hbz
          go_wp2_with (at_builtin; refine wpList_append_own _ rfl _ _ 22 rfl wx.heap.size 32 i0 (Hv.val Hv.zero) 8 80 Tryz.underlying22 hi hz0 hz1 hz2 rfl (by decide) (.slice a' r c') r (O.flatMap hcs) rfl (by rw [← hw5]; exact HO5.out) ⟨w3.heap.size, 0, none⟩ 1 1 (hcs u) rfl rfl (by rw [← hw5]; exact HCL.out) (hcs_one u) (by unfold maxLen; omega) (by omega) (by rw [← hw5]; exact hs5) ?_)
          intro v2 w6 hown hgrow hnil
          rw [← hw5] at hgrow
          obtain ⟨a2, c2, rfl⟩ := owns_slice hown
          have HB6 : Hid (Below w.heap.size w w6 ∧ wx.heap.size ≤ w6.heap.size) := ⟨Below.grown HX5.out hgrow HX5.out.size (fun k hk => Nat.le_trans HBX.out.size (HO5.out.lt k hk).1), Nat.le_trans hs5 (grown_onl hgrow).size⟩
          have HO6 : Hid (OwnH wx.heap.size w6 (.slice a2 (r + 1) c2) (r + 1) (O ++ [u])) := by
            show w6.ownsRow _ _ _ _ _ _
            rw [List.flatMap_append]
            simpa using hown
          have HNX : Hid ((O ++ [u]).length = r + 1 ∧ (O ++ [u]).map Hv.h = L.take (r + 1)) := by
            refine ⟨by rw [List.length_append, HOL.out.1]; rfl, ?_⟩
            rw [List.take_add_one, HLM.out, List.map_append, HOL.out.2]
            simp [HUH.out]
          have hf5 := foreign_own HO5.out
          have hK5 : ∀ u' ∈ O ++ [u], u'.ok w5 ∧ u'.typ w5 := fun u' hu' => by
            rcases List.mem_append.1 hu' with h | h
            · exact ⟨(HKZ.out u' h).1.later HZ5.out, (HKZ.out u' h).2.later HZ5.out⟩
            · obtain rfl := List.mem_singleton.1 h
              exact ⟨HUO.out.later H35.out, HUF.out.typ.later H35.out⟩
          have HK6 : Hid (∀ u' ∈ O ++ [u], u'.ok w6 ∧ u'.typ w6) := fun u' hu' => ⟨(hK5 u' hu').1.typ_onl (hK5 u' hu').2 (grown_onl hgrow) hf5, (hK5 u' hu').2.onl (grown_onl hgrow) hf5⟩
          have HL6 : Hid (∀ u' ∈ O ++ [u], u'.low w.heap.size) := fun u' hu' => by
            rcases List.mem_append.1 hu' with h | h
            · exact HLW.out u' h
            · obtain rfl := List.mem_singleton.1 h
              exact HUF.out.lowB HBZ.out.size
          have hG5 : ¬ (Value.slice a' r c').ownBlock = some gd := fun e => by
            have h1 := (HO5.out.lt gd e).1
            have h2 := HSZ.out
            omega
          have HD6 : Hid (CellB w6 gd (put f m true) i ∧ (∃ cur, w6.heap[gd]? = some (.cells cur 4 (0, 0))) ∧ doneP (put f m true) V L (r + 1)) := by
            refine ⟨fun j hj => (grown_onl hgrow).cell hG5 (cell_later HZ5.out (HCZ.out j hj)), ?_, HDN.out⟩
            obtain ⟨cur, hc⟩ := HGZ.out
            have h5 := (HZ5.out.block gd (Array.getElem?_eq_some_iff.1 hc).1).trans hc
            exact ⟨cur, ((grown_onl hgrow).block gd (Array.getElem?_eq_some_iff.1 h5).1 hG5).trans h5⟩
          clear hown hgrow hnil hf5 hK5 hG5
          go_wp2_with fail
          go_roundg (i - (r + 1))
          case measure => omega
          case rel => exact ⟨r + 1, a2, c2, O ++ [u], put f m true, by omega, rfl, by go_num, rfl, HNX, HO6, HK6, HL6, HD6, HB6⟩
    · obtain rfl : r = n := by omega
      have HF : Hid (RowH w.heap.size wr a' r c' O) := ⟨owns_base HOW.out HBX.out.size, HOL.out.1, fun u hu => (HOK.out u hu).1⟩
      have HF2 : Hid (O.map Hv.h = L) := by show _ = _; rw [HOL.out.2, List.take_of_length_le (by rw [HLL.out]; exact Nat.le_refl _)]
      have HF3 : Hid (∀ u ∈ O, u.typ wr) := fun u hu => (HOK.out u hu).2
      have HF4 := hid HBW.out.1
      clear TR
      go_wp2_with fail
      go_ret
      exact ⟨a', c', O, rfl, HF, HF2, HF3, HF4, HLW⟩
theorem sorted_is {B q n c : Nat} {w : World} {a : Option Addr} {V : List Hv} {L : List Hd} (T : RT B w q a n c V) (hn : n + 1 ≤ 1759218604441) (hnd : ((V.map Hv.h).map Hd.id).Nodup) (hL : Told L (V.map Hv.h)) :
    Calls Tryz.prog 26 #[.pointer (some ⟨q, 0, none⟩)] w fun e w' => ∃ (a' : Option Addr) (c' : Nat) (U : List Hv), e = .returned (.slice a' n c') ∧ Hid (RowH w.heap.size w' a' n c' U) ∧ Hid (U.map Hv.h = L) ∧ Hid (∀ u ∈ U, u.typ w') ∧ Hid (Below w.heap.size w w') :=
  (sortedF_is T hn hnd hL).mono fun e w' ⟨a', c', U, h1, h2, h3, h4, h5, _⟩ => ⟨a', c', U, h1, h2, h3, h4, h5⟩
end Go.Proofs.YtgplnbdankfobaaGreatDoor.Lk
/- Blocks. -/
namespace Go.Proofs.YtgplnbdankfobaaGreatDoor.Lk
open Go.RowKit Go.Sort Go.Shelf Go.Lib
set_option linter.unusedVariables false

theorem ics_len (i : Ix) : (ics i).length = 2 := rfl
theorem ics_one (i : Ix) : ∀ x ∈ ics i, x.oneCell' = true := by
  intro x hx
  simp [ics] at hx
  rcases hx with rfl | rfl <;> rfl
/-- a row of ids is sorted -/
theorem sortT_is {w : World} {B n : Nat} {a : Option Addr} {c : Nat} {U : List Ix} (h : OwnI B w (.slice a n c) n U) (hn : U.length = n) (hl : n < 4611686018427387904) :
    Calls Tryz.prog 34 #[.slice a n c, .func (.func 31) #[] #[]] w fun e w' => e = .returned (.tuple #[]) ∧
      ∃ U', U'.Perm U ∧ U'.Pairwise (fun x y => ltI y x = false) ∧ OwnI B w' (.slice a n c) n U' ∧ Onl (fun b => (Value.slice a n c).ownBlock = some b) w w' := by
  by_cases h0 : n = 0
  · letI : Inhabited Ix := ⟨(0, 0)⟩
    subst h0
    have e : U = [] := List.eq_nil_of_length_eq_zero hn
    subst e
    have hcon := AnyF.slices_SortFunc_none { Tryz.sortT with } a c (.func (.func 31) #[] #[]) w
    change Calls Tryz.prog 34 _ _ _ at hcon
    refine hcon.mono ?_
    rintro e w' ⟨rfl, rfl⟩
    exact ⟨rfl, [], List.Perm.refl _, by simp, h, Onl.refl _ _⟩
  · obtain ⟨g, rfl, _, _⟩ := own_cells h (by omega)
    have hlt : g < w.heap.size := (h.lt g rfl).2
    have eg : ∀ args w, (callFunc 31 args).run Tryz.prog w = .ok (.enter 31 args) w := enters_of Tryz.func31 (by kernel_rfl) rfl
    have hcmp : CmpLays Tryz.prog 31 #[] ics 2 (fun x y => cmpI x y) g 0 U.toArray.size w := fun _ _ _ _ x y => byID_is x y _
    have hcon := AnyQ.slices_SortFunc Tryz.sortT 2 Tryz.isAgg25 Tryz.sizeOf25 ics ics_len ics_one (fun x y : Ix => cmpI x y) (swo_of fun x : Ix => x) 31 #[] g 0 c U.toArray w eg hcmp (holds_row ics_len (by decide) h) hlt (by simpa [hn] using hl)
    change Calls Tryz.prog 34 _ _ _ at hcon
    simp only [List.size_toArray, hn] at hcon
    refine hcon.mono ?_
    rintro e w' ⟨rfl, d', m, os, hp, hs, rfl⟩
    have hp' : PermIn 0 U.toArray.size U.toArray d' := by simpa [hn] using hp
    have hsz : d'.size = U.toArray.size := hp'.1
    have hs' : SortedIn (ltOf fun x y : Ix => cmpI x y) 0 d'.size d' := by rw [hsz]; simpa [hn] using hs
    have hpm := perm_of hp'
    have hso := sorted_of hs'
    obtain ⟨h1, h2⟩ := sorted_row (ys := d'.toList) ics_len (by decide) h (by simpa using hsz) m os
    refine ⟨rfl, d'.toList, by simpa using hpm, ?_, by unfold OwnI; simpa using h1, ?_⟩
    · refine hso.imp fun {x y} hxy => ?_
      rw [← cmp_lt]; exact hxy
    · refine Onl.mono (by simpa using h2) (fun b hb => by rw [hb]; rfl)

theorem infoTx : (Tryz.prog.info? 25).map (fun i => (i.zero, i.size, i.bytes)) = some (some (.agg #[.int .u32 0, .int .u32 0]), 2, 8) := by kernel_rfl
theorem field_at (a b c d e f : Int) (ra wa : Option Addr) (rn rc wn wc : Nat) (w : World) : (Instr.field 32 (.agg #[.int .u32 a, .int .u32 b, .int .u32 c, .int .u64 d, .int .u32 e, .int .u32 f, .slice ra rn rc, .slice wa wn wc]) 2).run Tryz.prog w = .ok (.agg #[.int .u64 d, .int .u32 e, .int .u32 f]) w := by kernel_rfl
theorem iter_neS {m : Option Nat} {r : Nat} {w : World} {ps todo : List (ByteArray × Ix)} (h : RngO Value.string ixv w m r ps todo) {g : Nat} {t : TypeId} (hg : ∃ cur, w.heap[g]? = some (.cells cur t (0, 0))) : ¬ g = r := by
  rintro rfl
  obtain ⟨cur, hc⟩ := hg
  cases m with
  | none => have := h.2.2; rw [hc] at this; cases this
  | some b =>
    obtain ⟨es, clock, since, seen, c0, _, _, _, _, hr, _⟩ := h.at
    rw [hc] at hr; cases hr
/-- what is told of the intents that were looked at -/
def pick (V : List Hv) (s : T2) (aw al an : Int) (p : ByteArray × Ix) : Prop := insB p.1 s = true ∧ ∃ v ∈ V, v.h.id = p.2 ∧ lessB aw al an v.h.w v.h.l v.h.n = false

set_option maxRecDepth 8000 in
set_option maxHeartbeats 4000000 in
theorem blocksF_is {w : World} {p oo : Nat} {ty : TypeId} {m1 m2 : Option Nat} {V : List Hv} {I : It} {s : T2} {aw al an : Int} (T : TbO w p oo ty m1 m2 V I) (hI : I.length ≤ 33554432) :
    Calls Tryz.prog 16 #[.pointer (some ⟨p, oo, none⟩), .agg #[.string s.1, .string s.2], .agg #[.int .u64 aw, .int .u32 al, .int .u32 an]] w fun e w' => ∃ (a : Option Addr) (m c : Nat) (D : List Ix), e = .returned (.slice a m c) ∧ Hid (D.length = m) ∧ Hid (RowI w' a D) ∧
      Hid (D.Pairwise (fun x y => ltI x y = true)) ∧ Hid (∀ i, i ∈ D ↔ ∃ h ∈ V.map Hv.h, h.id = i ∧ blkB s aw al an h = true) ∧ Hid (Below w.heap.size w w') ∧ Hid (OwnI w.heap.size w' (.slice a m c) m D) := by
  obtain ⟨wx, hwx⟩ : ∃ wx, wx = (w.alloc (.cells #[.string s.1, .string s.2] 34)).alloc (.cells #[.int .u64 aw, .int .u32 al, .int .u32 an] 28) := ⟨_, rfl⟩
  have hbx : Below w.heap.size w wx := by rw [hwx]; exact Below.al (Below.al (Below.refl _ _) _) _
  have hsx : wx.heap.size = w.heap.size + 2 := by rw [hwx]; simp
  have S0 : Hid (wx.cell? ⟨w.heap.size, 0, none⟩ = some (.string s.1)) := by rw [hwx]; exact hid (by simp [go_sem])
  have S1 : Hid (wx.cell? ⟨w.heap.size, 1, none⟩ = some (.string s.2)) := by rw [hwx]; exact hid (by simp [go_sem])
  have A0 : Hid (wx.cell? ⟨w.heap.size + 1, 0, none⟩ = some (.int .u64 aw)) := by rw [hwx]; exact hid (by simp [go_sem])
  have A1 : Hid (wx.cell? ⟨w.heap.size + 1, 1, none⟩ = some (.int .u32 al)) := by rw [hwx]; exact hid (by simp [go_sem])
  have A2 : Hid (wx.cell? ⟨w.heap.size + 1, 2, none⟩ = some (.int .u32 an)) := by rw [hwx]; exact hid (by simp [go_sem])
  have T0 := T.later hbx
  have c1 := T0.c1
  obtain ⟨o, hr, R0⟩ := T0.ints.range (P := Tryz.prog) Tryz.underlying55
  obtain ⟨i0, hi, hz0, hz1, hz2⟩ := info_of infoTx
  obtain ⟨r, hrr⟩ : ∃ r, r = wx.heap.size := ⟨_, rfl⟩
  rw [← hrr] at hr R0
  have RR := hid R0
  have HT := hid T0
  have HBX := hid hbx
  have HSX := hid hsx
  have HRR := hid hrr
  clear T T0 hbx hsx hrr R0
  have c1' : ((w.alloc (.cells #[.string s.1, .string s.2] 34)).alloc (.cells #[.int .u64 aw, .int .u32 al, .int .u32 an] 28)).cell? ⟨p, oo + 1, none⟩ = some (.map m2) := by rw [← hwx]; exact c1
  rw [hwx] at hr
  go_enter Tryz.func16, Tryz.ntmps16
  go_wp2_with fail
  rw [← hwx]
  clear hwx hr c1' c1
  go_loopg [7] I.length (fun g s7 wr => ∃ (todo done : It) (X : List Ix) (a : Option Addr) (n c : Nat), g = todo.length ∧ s7 = .slice a n c ∧ Hid (X.length = n ∧ n + todo.length ≤ I.length) ∧ Hid (OwnI wx.heap.size wr (.slice a n c) n X) ∧ Hid (RngO Value.string ixv wr m2 r I todo) ∧ Hid (Below wx.heap.size wx wr) ∧
    Hid ((done ++ todo).Perm I) ∧ Hid (∀ i, i ∈ X ↔ ∃ q ∈ done, q.2 = i ∧ pick V s aw al an q))
  case atStart => exact ⟨I, [], [], none, 0, 0, rfl, rfl, ⟨rfl, by omega⟩, ⟨rfl, .inl ⟨rfl, rfl⟩⟩, RR, Below.al (Below.refl _ _) _, List.Perm.refl _, fun i => by simp⟩
  case round =>
    obtain ⟨todo, done, X, a, n, c, rfl, rfl, HN, HO, HG, HB, HP, HX⟩ := hrel
    clear RR
    rcases HG.out.next Tryz.prog with ⟨rfl, hn⟩ | ⟨⟨key, j⟩, todo', w1, hpm, hpI, hn, R1, hen, hon, hsz⟩
    · have SO := hid (sortT_is HO.out HN.out.1 (by have := HN.out.2; omega))
      go_wp2_with fail
      refine SO.out.mono ?_
      rintro e w2 ⟨rfl, X', hpX, hsX, hoX, honX⟩
      have hl' : X'.length = n := by rw [hpX.length_eq]; exact HN.out.1
      have CO := hid (compactF_is hoX hl')
      have HPX := hid hpX
      have HSX' := hid hsX
      have HL' := hid hl'
      have HB2 : Hid (Below w.heap.size w w2 ∧ w.heap.size ≤ w2.heap.size ∧ ∀ b, (Value.slice a n c).ownBlock = some b → w.heap.size ≤ b) := by
        have h1 : Below w.heap.size w wr := Below.on HBX.out HB.out
        have h2 : ∀ b, (Value.slice a n c).ownBlock = some b → w.heap.size ≤ b := fun b hb => by have := (HO.out.lt b hb).1; have := HSX.out; omega
        have h3 := h1.trans (honX.below (B := w.heap.size) h2 h1.size)
        exact ⟨h3, h3.size, h2⟩
      clear SO hpX hsX hoX honX hl' hn
      go_wp2_with fail
      refine CO.out.mono ?_
      rintro e w3 ⟨m, rfl, HL, HRow, HOn, HOw⟩
      have HOW3 : Hid (OwnI w.heap.size w3 (.slice a m c) m (compactUpTo X'.toArray n)) := owns_base HOw.out (by have := HSX.out; omega)
      have HRI : Hid ((compactUpTo X'.toArray n).Pairwise (fun x y => ltI x y = true)) := comp_rise (fun i j hij hj => by
        have h1 := List.pairwise_iff_getElem.1 HSX'.out i j (by rw [HL'.out]; omega) (by rw [HL'.out]; exact hj) hij
        simpa [HL'.out, hj, show i < n by omega] using h1)
      have HME : Hid (∀ i, i ∈ compactUpTo X'.toArray n ↔ ∃ h ∈ V.map Hv.h, h.id = i ∧ blkB s aw al an h = true) := fun i => by
        have h1 : i ∈ compactUpTo X'.toArray n ↔ i ∈ X := by
          rw [← HPX.out.mem_iff]
          constructor
          · intro h
            obtain ⟨j, hj, rfl⟩ := comp_sub h
            have hj' : j < X'.length := by rw [HL'.out]; exact hj
            have : X'.toArray[j]! = X'[j] := by simp [hj']
            rw [this]; exact List.getElem_mem hj'
          · intro h
            obtain ⟨j, hj, rfl⟩ := List.getElem_of_mem h
            have : X'.toArray[j]! = X'[j] := by simp [hj]
            rw [← this]; exact comp_mem (by rw [← HL'.out]; exact hj)
        rw [h1, HX.out i]
        have hP := HP.out
        rw [List.append_nil] at hP
        constructor
        · rintro ⟨⟨k, i'⟩, hq, rfl, hk, v, hv, hid', hl⟩
          obtain ⟨h, hh, e1, x, hx, e2⟩ := (HT.out.ok.tie k i').1 (hP.mem_iff.1 hq)
          have : h = v.h := nodup_inj HT.out.ok.ids hh (List.mem_map.2 ⟨v, hv, rfl⟩) (e1.trans hid'.symm)
          subst this
          refine ⟨_, hh, e1, ?_⟩
          simp only [blkB, Bool.and_eq_true, List.any_eq_true, hl, Bool.not_false, and_true]
          exact ⟨x, hx, by rw [e2]; exact hk⟩
        · rintro ⟨h, hh, rfl, hb⟩
          simp only [blkB, Bool.and_eq_true, List.any_eq_true, Bool.not_eq_true'] at hb
          obtain ⟨⟨x, hx, hk⟩, hl⟩ := hb
          obtain ⟨v, hv, rfl⟩ := List.mem_map.1 hh
          exact ⟨(x.key, v.h.id), hP.mem_iff.2 ((HT.out.ok.tie _ _).2 ⟨_, hh, rfl, x, hx, rfl⟩), rfl, hk, v, hv, rfl, hl⟩
      have HBE : Hid (Below w.heap.size w w3) := HB2.out.1.trans (HOn.out.below (B := w.heap.size) HB2.out.2.2 HB2.out.2.1)
      clear CO
      go_wp2_with fail
      go_ret
      exact ⟨a, m, c, _, rfl, HL, HRow, HRI, HME, HBE, HOW3⟩
    · obtain ⟨jc, js⟩ := j
      have hb1 : Below wx.heap.size wx w1 := HB.out.trans (hon.below (B := wx.heap.size) (fun k hk => by have := HRR.out; omega) HB.out.size)
      have hO1 : OwnI wx.heap.size w1 (.slice a n c) n X := owns_keep HO.out fun g hg => hon.block g (HO.out.lt g hg).2 (iter_neS HG.out (own_type HO.out hg))
      have hpl : todo'.length + 1 = todo.length := by have := hpm.length_eq; simpa using this.symm
      have T1 := HT.out.later hb1
      obtain ⟨v, hvV, hvid, hlook⟩ : ∃ v ∈ V, v.h.id = (jc, js) ∧ ∀ W, (∀ b, m1 = some b → W.heap[b]? = w1.heap[b]?) → (Instr.lookup 54 (.map m1) (.agg #[.int .u32 jc, .int .u32 js]) false).run Tryz.prog W = .ok (.agg #[.int .u32 v.h.id.1, .int .u32 v.h.id.2, .int .u32 v.h.home, .int .u64 v.h.w, .int .u32 v.h.l, .int .u32 v.h.n, .slice v.ra v.h.rs.length v.rc, .slice v.wa v.h.ws.length v.wc]) W := by
        obtain ⟨h, hh, e1, -⟩ := (HT.out.ok.tie key (jc, js)).1 hpI
        obtain ⟨v0, hv0, rfl⟩ := List.mem_map.1 hh
        rcases T1.held.looks (P := Tryz.prog) ids Tryz.underlying54 zero_hv (jc, js) with ⟨hn, _⟩ | ⟨v, hv, hl⟩
        · exact absurd (by rw [prs_keys]; exact List.mem_map.2 ⟨_, hh, e1⟩) hn
        · obtain ⟨v', hv', e⟩ := List.mem_map.1 hv
          injection e with e2 e3
          subst e3
          exact ⟨v', hv', e2, fun W hW => hl W hW false⟩
      obtain ⟨u1, hu1⟩ : ∃ u1, insB key s = u1 := ⟨_, rfl⟩
      obtain ⟨late, hla⟩ : ∃ late, lessB aw al an v.h.w v.h.l v.h.n = late := ⟨_, rfl⟩
      obtain ⟨wz, hwz⟩ : ∃ wz, wz = w1.alloc (.cells #[.int .u32 jc, .int .u32 js] 25) := ⟨_, rfl⟩
      have hbz : Below w1.heap.size w1 wz := by rw [hwz]; exact Below.al (Below.refl _ _) _
      have hxz : Below wx.heap.size wx wz := Below.on hb1 hbz
      have z0 : wz.cell? ⟨w1.heap.size, 0, none⟩ = some (.int .u32 jc) := by rw [hwz]; simp [go_sem]
      have z1 : wz.cell? ⟨w1.heap.size, 1, none⟩ = some (.int .u32 js) := by rw [hwz]; simp [go_sem]
      have s0 := cell_later hxz S0.out
      have s1 := cell_later hxz S1.out
      have a0 := cell_later hxz A0.out
      have a1 := cell_later hxz A1.out
      have a2 := cell_later hxz A2.out
      have Tz := HT.out.later hxz
      have cz0 := Tz.c0
      have HLK : Hid (∀ W, Below wz.heap.size wz W → (Instr.lookup 54 (.map m1) (.agg #[.int .u32 jc, .int .u32 js]) false).run Tryz.prog W = .ok (.agg #[.int .u32 v.h.id.1, .int .u32 v.h.id.2, .int .u32 v.h.home, .int .u64 v.h.w, .int .u32 v.h.l, .int .u32 v.h.n, .slice v.ra v.h.rs.length v.rc, .slice v.wa v.h.ws.length v.wc]) W) := fun W hB => hlook W (fun b e => ((hB.block b (Tz.held.lt b e)).trans (hbz.block b (T1.held.lt b e))))
      have IN : Hid (∀ W, Calls Tryz.prog 32 #[.string key, .agg #[.string s.1, .string s.2]] W fun e w' => e = .returned (.bool u1) ∧ Below W.heap.size W w') := fun W => inside_is hu1 W
      have LS : Hid (∀ W, Calls Tryz.prog 33 #[.agg #[.int .u64 aw, .int .u32 al, .int .u32 an], .agg #[.int .u64 v.h.w, .int .u32 v.h.l, .int .u32 v.h.n]] W fun e w' => e = .returned (.bool late) ∧ Below W.heap.size W w') := fun W => less_is hla W
      have HPK : Hid (pick V s aw al an (key, (jc, js)) ↔ (u1 && !late) = true) := by
        show _ ↔ _
        rw [Bool.and_eq_true, Bool.not_eq_true']
        constructor
        · rintro ⟨h1, v', hv', e, hl⟩
          have : v' = v := by
            have e1 : v'.h = v.h := nodup_inj HT.out.ok.ids (List.mem_map.2 ⟨v', hv', rfl⟩) (List.mem_map.2 ⟨v, hvV, rfl⟩) (e.trans hvid.symm)
            have hnd := HT.out.held.nodup ids
            rw [show (prs V).map (·.1) = V.map (fun v => v.h.id) by simp [prs, List.map_map, Function.comp_def]] at hnd
            exact nodup_inj hnd hv' hvV (e.trans hvid.symm)
          subst this
          exact ⟨hu1.symm.trans h1, hla.symm.trans hl⟩
        · rintro ⟨h1, h2⟩
          exact ⟨hu1.trans h1, v, hvV, hvid, hla.trans h2⟩
      have hfd := field_at v.h.id.1 v.h.id.2 v.h.home v.h.w v.h.l v.h.n v.ra v.wa v.h.rs.length v.rc v.h.ws.length v.wc
      have HR1 := hid (R1.later hbz)
      have HOZ : Hid (OwnI wx.heap.size wz (.slice a n c) n X) := owns_keep hO1 fun g hg => hbz.block g (hO1.lt g hg).2
      have HXZ := hid hxz
      have HPM := hid hpm
      simp only [ixv] at hn hen
      clear R1 hb1 hO1 hpm hpI hon hsz T1 Tz hlook hvV hvid hu1 hla hxz hbz HO HG HB
      go_wp2_with fail
      rw [← hwz]
      clear hwz
      go_cut [34] (fun s34 wN => s34 = .bool (u1 && !late) ∧ Hid (Below wz.heap.size wz wN))
      case first =>
        cases u1 with
        | false =>
          have k0 := cell_regrown s0
          have k1 := cell_regrown s1
          refine wp_region_quiet_below (by kernel_rfl) (by kernel_rfl) ?_
          repeat (go_big_quiet_step (((go_at_call 32; exact Calls.regrown_of (IN.out _)))))
          refine wpQuiet_nil ?_
          intro wn hwn
          replace hwn := below_of_regrown hwn
          go_wp2_with fail
          go_meet
          exact ⟨rfl, hid hwn⟩
        | true =>
          go_region_held3 (fun w' => w'.cell? ⟨w.heap.size, 0, none⟩ = some (.string s.1) ∧ w'.cell? ⟨w.heap.size, 1, none⟩ = some (.string s.2) ∧ w'.cell? ⟨w.heap.size + 1, 0, none⟩ = some (.int .u64 aw) ∧ w'.cell? ⟨w.heap.size + 1, 1, none⟩ = some (.int .u32 al) ∧ w'.cell? ⟨w.heap.size + 1, 2, none⟩ = some (.int .u32 an) ∧ w'.cell? ⟨p, oo, none⟩ = some (.map m1) ∧ w'.cell? ⟨w1.heap.size, 0, none⟩ = some (.int .u32 jc) ∧ w'.cell? ⟨w1.heap.size, 1, none⟩ = some (.int .u32 js) ∧ (Instr.lookup 54 (.map m1) (.agg #[.int .u32 jc, .int .u32 js]) false).run Tryz.prog w' = .ok (.agg #[.int .u32 v.h.id.1, .int .u32 v.h.id.2, .int .u32 v.h.home, .int .u64 v.h.w, .int .u32 v.h.l, .int .u32 v.h.n, .slice v.ra v.h.rs.length v.rc, .slice v.wa v.h.ws.length v.wc]) w' ∧ Below wz.heap.size wz w')
            ((refine (fun (hB : Below wz.heap.size wz _) => ⟨cell_later hB s0, cell_later hB s1, cell_later hB a0, cell_later hB a1, cell_later hB a2, cell_later hB cz0, cell_later hB z0, cell_later hB z1, HLK.out _ hB, hB⟩) ?_; (repeat (first | exact Below.refl _ _ | assumption | refine Below.drew ?_ | refine Below.al ?_ _ | refine Below.setCell ?_ (by first | exact Nat.le_refl _ | (simp; omega) | (simp; done)) _ | refine Below.on ?_ (by assumption)))))
            (first
              | (go_at_call 32; refine (IN.out _).mono ?_; rintro e w7 ⟨rfl, hw7⟩)
              | (go_at_call 33; refine (LS.out _).mono ?_; rintro e w8 ⟨rfl, hw8⟩))
          all_goals (try go_wp2_with fail)
          all_goals go_meet
          all_goals refine ⟨by simp, hid ?_⟩
          all_goals ((repeat (first | exact Below.refl _ _ | assumption | refine Below.drew ?_ | refine Below.al ?_ _ | refine Below.setCell ?_ (by first | exact Nat.le_refl _ | (simp; omega) | (simp; done)) _ | refine Below.on ?_ (by assumption))))
      case rest =>
        obtain ⟨rfl, HN2⟩ := hcut
        rename World => wN
        have z0 := cell_later HN2.out z0
        have z1 := cell_later HN2.out z1
        have HXN : Hid (Below wx.heap.size wx wN) := Below.on HXZ.out HN2.out
        have HRN := hid (HR1.out.later HN2.out)
        have HON : Hid (OwnI wx.heap.size wN (.slice a n c) n X) := owns_keep HOZ.out fun g hg => HN2.out.block g (HOZ.out.lt g hg).2
        have HPN : Hid ((done ++ [(key, (jc, js))] ++ todo').Perm I) := by
          refine List.Perm.trans ?_ HP.out
          rw [List.append_assoc]
          exact List.Perm.append_left _ HPM.out.symm
        have HNN : Hid (n + 1 + todo'.length ≤ I.length) := by have := HN.out.2; show _ ≤ _; omega
        have HXM : Hid (∀ i, (∃ q ∈ done ++ [(key, (jc, js))], q.2 = i ∧ pick V s aw al an q) ↔ (i ∈ X ∨ (i = (jc, js) ∧ (u1 && !late) = true))) := fun i => by
          rw [HX.out i, ← HPK.out]
          constructor
          · rintro ⟨q, hq, e, hp⟩
            rcases List.mem_append.1 hq with hq | hq
            · exact .inl ⟨q, hq, e, hp⟩
            · simp at hq; subst hq; exact .inr ⟨e.symm, hp⟩
          · rintro (⟨q, hq, e, hp⟩ | ⟨rfl, hp⟩)
            · exact ⟨q, by simp [hq], e, hp⟩
            · exact ⟨_, by simp, rfl, hp⟩
        clear HR1 HOZ HXZ HN2 HPM HPK IN LS HLK s0 s1 a0 a1 a2 cz0 hfd hen hn HX
        generalize hcond : (u1 && !late) = cond at *
        clear hcond
        cases cond with
        | false =>
          have HX2 : Hid (∀ i, i ∈ X ↔ ∃ q ∈ done ++ [(key, (jc, js))], q.2 = i ∧ pick V s aw al an q) := fun i => by rw [HXM.out i]; simp
          clear HXM
          go_wp2_with fail
          go_roundg todo'.length
          case measure => omega
          case rel => exact ⟨todo', done ++ [(key, (jc, js))], X, a, n, c, rfl, rfl, ⟨HN.out.1, by have := HNN.out; omega⟩, HON, HRN, HXN, HPN, HX2⟩
        | true =>
          have HX2 : Hid (∀ i, i ∈ X ++ [(jc, js)] ↔ ∃ q ∈ done ++ [(key, (jc, js))], q.2 = i ∧ pick V s aw al an q) := fun i => by rw [HXM.out i]; simp
          clear HXM
          obtain ⟨w5, hw5⟩ : ∃ w5, w5 = wN.alloc (.cells #[.int .u32 jc, .int .u32 js] 25) := ⟨_, rfl⟩
          have hb5 : Below wN.heap.size wN w5 := by rw [hw5]; exact Below.al (Below.refl _ _) _
          have HO5 : Hid (OwnI wx.heap.size w5 (.slice a n c) n X) := owns_keep HON.out fun g hg => hb5.block g (HON.out.lt g hg).2
          have blk5 : w5.heap[wN.heap.size]? = some (.cells (ics (jc, js)).toArray 25) := by rw [hw5]; exact (MapKept.heap_alloc _ _).1
          have HCL : Hid (∀ j x, (ics (jc, js))[j]? = some x → w5.cell? ((⟨wN.heap.size, 0, none⟩ : Addr).add j) = some x) := fun j x hj => by
            rw [Addr.add_lit, Nat.zero_add]
            exact cell_of_obj blk5 (by simpa using hj)
          have HX5 : Hid (Below wx.heap.size wx w5) := Below.on HXN.out hb5
          have HR5 := hid (HRN.out.later hb5)
          have hs5 : wx.heap.size ≤ w5.heap.size := HX5.out.size
          have hnb : n + 1 ≤ 33554432 := by have := HNN.out; omega
          clear hb5 blk5 HRN HON HXN
          go_wp2_with (at_builtin; refine wpList_append_own _ rfl _ _ 50 rfl wx.heap.size 25 i0 (.agg #[.int .u32 0, .int .u32 0]) 2 8 Tryz.underlying50 hi hz0 hz1 hz2 rfl (by decide) (.slice a n c) n (X.flatMap ics) rfl (by rw [← hw5]; exact HO5.out) ⟨wN.heap.size, 0, none⟩ 1 1 (ics (jc, js)) rfl rfl (by rw [← hw5]; exact HCL.out) (ics_one _) (by unfold maxLen; omega) (by omega) (by rw [← hw5]; exact hs5) ?_)
          intro v2 w6 hown hgrow hnil
          rw [← hw5] at hgrow
          obtain ⟨a2, c2, rfl⟩ := owns_slice hown
          have hB6 : Below wx.heap.size wx w6 := Below.grown HX5.out hgrow (by exact hs5) (fun k hk => (HO5.out.lt k hk).1)
          have hnot : ∀ b, (∀ cs t z, w5.heap[b]? ≠ some (.cells cs t z)) → b < w5.heap.size → w6.heap[b]? = w5.heap[b]? := fun b h1 h2 => hgrow.block b h2 (fun e => by
            obtain ⟨cur, hc⟩ := own_type HO5.out e.symm
            exact h1 _ _ _ hc)
          have R5 := HR5.out
          have R6 : RngO Value.string ixv w6 m2 r I todo' := by
            refine R5.same (fun b e => ?_) ?_
            · subst e
              refine hnot b ?_ (R5.lt.2 b rfl)
              intro cs t z hc
              obtain ⟨es, clock, _, _, _, hb, _⟩ := R5.at
              rw [hc] at hb; cases hb
            · refine hnot _ ?_ R5.lt.1
              intro cs t z hc
              cases m2 with
              | none => have := R5.2.2; rw [hc] at this; cases this
              | some b =>
                obtain ⟨es, clock, since, seen, c0, _, _, _, _, hr, _⟩ := R5.at
                rw [hc] at hr; cases hr
          have HFin : Hid ((X ++ [(jc, js)]).length = n + 1 ∧ OwnI wx.heap.size w6 (.slice a2 (n + 1) c2) (n + 1) (X ++ [(jc, js)]) ∧ RngO Value.string ixv w6 m2 r I todo' ∧ Below wx.heap.size wx w6) := by
            refine ⟨by rw [List.length_append, HN.out.1]; rfl, ?_, R6, hB6⟩
            unfold OwnI
            rw [List.flatMap_append]
            simpa using hown
          clear hown hgrow hnil hB6 hnot R5 R6
          go_wp2_with fail
          go_roundg todo'.length
          case measure => omega
          case rel =>
            obtain ⟨h1, h2, h3, h4⟩ := HFin.out
            exact ⟨todo', done ++ [(key, (jc, js))], X ++ [(jc, js)], a2, n + 1, c2, rfl, rfl, ⟨h1, HNN.out⟩, h2, h3, h4, HPN, HX2⟩
theorem blocks_is {w : World} {p oo : Nat} {ty : TypeId} {m1 m2 : Option Nat} {V : List Hv} {I : It} {s : T2} {aw al an : Int} (T : TbO w p oo ty m1 m2 V I) (hI : I.length ≤ 33554432) :
    Calls Tryz.prog 16 #[.pointer (some ⟨p, oo, none⟩), .agg #[.string s.1, .string s.2], .agg #[.int .u64 aw, .int .u32 al, .int .u32 an]] w fun e w' => ∃ (a : Option Addr) (m c : Nat) (D : List Ix), e = .returned (.slice a m c) ∧ Hid (D.length = m) ∧ Hid (RowI w' a D) ∧
      Hid (D.Pairwise (fun x y => ltI x y = true)) ∧ Hid (∀ i, i ∈ D ↔ ∃ h ∈ V.map Hv.h, h.id = i ∧ blkB s aw al an h = true) ∧ Hid (Below w.heap.size w w') :=
  (blocksF_is T hI).mono fun e w' ⟨a, m, c, D, h1, h2, h3, h4, h5, h6, _⟩ => ⟨a, m, c, D, h1, h2, h3, h4, h5, h6⟩
end Go.Proofs.YtgplnbdankfobaaGreatDoor.Lk
namespace Go.Proofs.YtgplnbdankfobaaGreatDoor
open Go.RowKit Go.Sort

set_option maxHeartbeats 400000 in
theorem refless_any (a b c x y z : Int) (w : World) :
    Calls Tryz.prog 36 #[stv a b c, stv x y z] w fun e w' => e = .returned (.bool (lessB a b c x y z)) ∧ Below w.heap.size w w' := by
  have hB : Below w.heap.size w ((w.alloc (.cells #[.int .u64 a, .int .u32 b, .int .u32 c] 28)).alloc (.cells #[.int .u64 x, .int .u32 y, .int .u32 z] 28)) :=
    ((Below.refl _ _).alloc (Nat.le_refl _) _).alloc (by simp) _
  by_cases h1 : a < x
  · have hv : lessB a b c x y z = true := lessB_iff.2 (by omega)
    rw [hv]
    go_enter Tryz.func36, Tryz.ntmps36
    go_wp2
    go_ret
    exact ⟨rfl, hB⟩
  · by_cases h2 : a = x
    · subst h2
      by_cases h3 : b < y
      · have hv : lessB a b c a y z = true := lessB_iff.2 (by omega)
        rw [hv]
        go_enter Tryz.func36, Tryz.ntmps36
        go_wp2
        go_ret
        exact ⟨rfl, hB⟩
      · by_cases h4 : b = y
        · subst h4
          have hv : lessB a b c a b z = decide (c < z) := by simp [lessB]
          rw [hv]
          go_enter Tryz.func36, Tryz.ntmps36
          go_wp2
          go_ret
          exact ⟨rfl, hB⟩
        · have hv : lessB a b c a y z = false := lessB_iff_false.2 (by omega)
          have h4' : (b == y) = false := by simpa using h4
          rw [hv]
          go_enter Tryz.func36, Tryz.ntmps36
          go_wp2
          go_ret
          exact ⟨rfl, hB⟩
    · have hv : lessB a b c x y z = false := lessB_iff_false.2 (by omega)
      have h2' : (a == x) = false := by simpa using h2
      rw [hv]
      go_enter Tryz.func36, Tryz.ntmps36
      go_wp2
      go_ret
      exact ⟨rfl, hB⟩

theorem refless_is {a b c x y z : Int} {v : Bool} (h : lessB a b c x y z = v) (w : World) :
    Calls Tryz.prog 36 #[stv a b c, stv x y z] w fun e w' => e = .returned (.bool v) ∧ Below w.heap.size w w' := h ▸ refless_any a b c x y z w

end Go.Proofs.YtgplnbdankfobaaGreatDoor
/- The document's All and Blocks. -/
namespace Go.Proofs.YtgplnbdankfobaaGreatDoor.Lk
open Go.RowKit Go.Sort
set_option linter.unusedVariables false

theorem rallF_is {B q n c : Nat} {w : World} {a : Option Addr} {V : List Hv} {L : List Hd} (T : RT B w q a n c V) (hn : n + 1 ≤ 1759218604441) (hnd : ((V.map Hv.h).map Hd.id).Nodup) (hL : Told L (V.map Hv.h)) :
    Calls Tryz.prog 10 #[.pointer (some ⟨q, 0, none⟩)] w fun e w' => ∃ (a' : Option Addr) (c' : Nat) (U : List Hv), e = .returned (.slice a' n c') ∧ Hid (RowH w.heap.size w' a' n c' U) ∧ Hid (U.map Hv.h = L) ∧ Hid (∀ u ∈ U, u.typ w') ∧ Hid (Below w.heap.size w w') ∧ Hid (∀ u ∈ U, u.low w.heap.size) := by
  have S := hid (sortedF_is T hn hnd hL)
  clear T hnd hL
  go_enter Tryz.func10, Tryz.ntmps10
  go_wp2_with fail
  refine S.out.mono ?_
  rintro e w' ⟨a', c', U, rfl, h1, h2, h3, h4, h5⟩
  clear S
  go_wp2_with fail
  go_ret
  exact ⟨a', c', U, rfl, h1, h2, h3, h4, h5⟩

theorem rall_is {B q n c : Nat} {w : World} {a : Option Addr} {V : List Hv} {L : List Hd} (T : RT B w q a n c V) (hn : n + 1 ≤ 1759218604441) (hnd : ((V.map Hv.h).map Hd.id).Nodup) (hL : Told L (V.map Hv.h)) :
    Calls Tryz.prog 10 #[.pointer (some ⟨q, 0, none⟩)] w fun e w' => ∃ (a' : Option Addr) (c' : Nat) (U : List Hv), e = .returned (.slice a' n c') ∧ Hid (RowH w.heap.size w' a' n c' U) ∧ Hid (U.map Hv.h = L) ∧ Hid (∀ u ∈ U, u.typ w') ∧ Hid (Below w.heap.size w w') :=
  (rallF_is T hn hnd hL).mono fun e w' ⟨a', c', U, h1, h2, h3, h4, h5, _⟩ => ⟨a', c', U, h1, h2, h3, h4, h5⟩

theorem any_one (ws : List Wr) (s : T2) : anyB ws [s] = ws.any (fun x => insB x.key s) := by
  simp [anyB, withinB]
theorem row2_one {W : World} {b : Nat} {s : T2} (h0 : W.cell? ⟨b, 0, none⟩ = some (.string s.1)) (h1 : W.cell? ⟨b, 1, none⟩ = some (.string s.2)) : Row2 W (some ⟨b, 0, none⟩) [s] := fun i hi => by
  obtain rfl : i = 0 := by simpa using hi
  exact ⟨b, 0, rfl, h0, h1⟩
/-- the ids of those that block -/
def selB (s : T2) (aw al an : Int) (U : List Hv) : List Ix := (U.filter (fun v => blkB s aw al an v.h)).map (fun v => v.h.id)
theorem sel_step {s : T2} {aw al an : Int} {U : List Hv} {i : Nat} (hi : i < U.length) : selB s aw al an (U.take (i + 1)) = selB s aw al an (U.take i) ++ (if blkB s aw al an (nthH U i).h = true then [(nthH U i).h.id] else []) := by
  have e : U.take (i + 1) = U.take i ++ [nthH U i] := by
    rw [List.take_succ_eq_append_getElem hi]; simp [nthH, hi]
  rw [e]
  unfold selB
  rw [List.filter_append, List.map_append]
  congr 1
  by_cases h : blkB s aw al an (nthH U i).h = true
  · simp [h]
  · simp [h]
theorem sel_len {s : T2} {aw al an : Int} {U : List Hv} {i : Nat} : (selB s aw al an (U.take i)).length ≤ i := by
  unfold selB
  rw [List.length_map]
  refine Nat.le_trans (List.length_filter_le _ _) ?_
  rw [List.length_take]
  exact Nat.min_le_left _ _
theorem sel_all {s : T2} {aw al an : Int} {U : List Hv} {L : List Hd} (h : U.map Hv.h = L) : selB s aw al an U = (L.filter (blkB s aw al an)).map Hd.id := by
  rw [← h]
  unfold selB
  rw [List.filter_map, List.map_map]
  rfl
theorem rowI_own {B m : Nat} {w : World} {a : Option Addr} {c : Nat} {xs : List Ix} (h : OwnI B w (.slice a m c) m xs) (hm : xs.length = m) : RowI w a xs := by
  by_cases h0 : 0 < m
  · obtain ⟨g, rfl, _, _, _, _, _, hc⟩ := ownI_cells h hm h0
    exact rowI_of hc (by omega) (fun j hj => by simp [hj])
  · intro i hi
    omega

set_option maxRecDepth 8000 in
set_option maxHeartbeats 4000000 in
theorem rblocks_is {B q n c : Nat} {w : World} {a : Option Addr} {V : List Hv} {L : List Hd} {s : T2} {aw al an : Int} (T : RT B w q a n c V) (hn : n + 1 ≤ 1759218604441) (hnd : ((V.map Hv.h).map Hd.id).Nodup) (hL : Told L (V.map Hv.h)) :
    Calls Tryz.prog 18 #[.pointer (some ⟨q, 0, none⟩), .agg #[.string s.1, .string s.2], .agg #[.int .u64 aw, .int .u32 al, .int .u32 an]] w fun e w' => ∃ (a' : Option Addr) (m c' : Nat) (D : List Ix), e = .returned (.slice a' m c') ∧ Hid (D.length = m) ∧ Hid (RowI w' a' D) ∧ Hid (D = (L.filter (blkB s aw al an)).map Hd.id) ∧ Hid (Below w.heap.size w w') := by
  obtain ⟨wx, hwx⟩ : ∃ wx, wx = (w.alloc (.cells #[.string s.1, .string s.2] 34)).alloc (.cells #[.int .u64 aw, .int .u32 al, .int .u32 an] 28) := ⟨_, rfl⟩
  have HBX : Hid (Below w.heap.size w wx) := by rw [hwx]; exact Below.al (Below.al (Below.refl _ _) _) _
  have x0 : wx.cell? ⟨w.heap.size, 0, none⟩ = some (.string s.1) := by rw [hwx]; simp [go_sem]
  have x1 : wx.cell? ⟨w.heap.size, 1, none⟩ = some (.string s.2) := by rw [hwx]; simp [go_sem]
  have y0 : wx.cell? ⟨w.heap.size + 1, 0, none⟩ = some (.int .u64 aw) := by rw [hwx]; simp [go_sem]
  have y1 : wx.cell? ⟨w.heap.size + 1, 1, none⟩ = some (.int .u32 al) := by rw [hwx]; simp [go_sem]
  have y2 : wx.cell? ⟨w.heap.size + 1, 2, none⟩ = some (.int .u32 an) := by rw [hwx]; simp [go_sem]
  have S := hid (sorted_is (T.later HBX.out) hn hnd hL)
  obtain ⟨i0, hi, hz0, hz1, hz2⟩ := info_of infoTx
  clear T hnd hL
  go_enter Tryz.func18, Tryz.ntmps18
  go_upto_region 1 with fail
  rw [← hwx]
  clear hwx
  go_wp2_with fail
  refine S.out.mono ?_
  rintro e w1 ⟨a1, c1, U, rfl, HR, HU, HTY, HB1⟩
  have X0 := hid (cell_later HB1.out x0)
  have X1 := hid (cell_later HB1.out x1)
  have Y0 := hid (cell_later HB1.out y0)
  have Y1 := hid (cell_later HB1.out y1)
  have Y2 := hid (cell_later HB1.out y2)
  have HLN := hid HR.out.len
  have HW1 : Hid (Below w.heap.size w w1) := Below.on HBX.out HB1.out
  clear S x0 x1 y0 y1 y2
  go_wp2_with fail
  go_loopg [8, 9] n (fun g s8 s9 wr => ∃ (i m : Nat) (a' : Option Addr) (c' : Nat), i ≤ n ∧ g = n - i ∧ s9 = .int .i64 i ∧ s8 = .slice a' m c' ∧ Hid ((selB s aw al an (U.take i)).length = m ∧ m ≤ i) ∧ Hid (OwnI w1.heap.size wr (.slice a' m c') m (selB s aw al an (U.take i))) ∧ Hid (Below w1.heap.size w1 wr))
  case atStart => exact ⟨0, 0, none, 0, by omega, by omega, rfl, rfl, ⟨by simp [selB], by omega⟩, ⟨by simp [selB], .inl ⟨rfl, rfl⟩⟩, Below.refl _ _⟩
  case round =>
    obtain ⟨i, m, a', c', hi1, rfl, rfl, rfl, HML, HO, HB⟩ := hrel
    by_cases hlt : i < n
    · have RR := HR.out.later HB.out
      have hst := sel_step (s := s) (aw := aw) (al := al) (an := an) (U := U) (i := i) (by rw [HLN.out]; exact hlt)
      obtain ⟨g, eg, hc⟩ := ownH_at RR.own HLN.out hlt
      obtain ⟨x, hxe⟩ : ∃ x, x = nthH U i := ⟨_, rfl⟩
      have HXU : Hid (x ∈ U) := by rw [hxe]; exact nthH_mem (by rw [HLN.out]; exact hlt)
      rw [← hxe] at hc hst
      subst eg
      have hi2 : (i : Int) < (n : Int) := by omega
      have s0 : wr.cell? ⟨g, i * 8, none⟩ = some (.int .u32 x.h.id.1) := hc 0 _ rfl
      have s1 := hc 1 _ rfl
      have t3 := cell_regrown (hc 3 _ rfl)
      have t4 := cell_regrown (hc 4 _ rfl)
      have t5 := cell_regrown (hc 5 _ rfl)
      have s7 := hc 7 _ rfl
      have k0 := cell_regrown (cell_later HB.out Y0.out)
      have k1 := cell_regrown (cell_later HB.out Y1.out)
      have k2 := cell_regrown (cell_later HB.out Y2.out)
      obtain ⟨late, hlate⟩ : ∃ late, lessB aw al an x.h.w x.h.l x.h.n = late := ⟨_, rfl⟩
      have LE : Hid (∀ W, Calls Tryz.prog 36 #[.agg #[.int .u64 aw, .int .u32 al, .int .u32 an], .agg #[.int .u64 x.h.w, .int .u32 x.h.l, .int .u32 x.h.n]] W fun e w' => e = .returned (.bool late) ∧ Below W.heap.size W w') := fun W => refless_is hlate W
      have HRW : Hid (x.ok wr) := RR.ok x HXU.out
      have HST := hid hst
      have HLT := hid hlate
      clear hc hxe RR hst hlate
      cases late with
      | true =>
        have HSX : Hid (selB s aw al an (U.take (i + 1)) = selB s aw al an (U.take i)) := by
          have hb : blkB s aw al an x.h = false := by unfold blkB; rw [HLT.out]; simp
          have h := HST.out
          rw [hb] at h
          show _ = _
          simpa using h
        clear s0 s1
        go_wp2_with fail
        refine wp_region_quiet_below (by kernel_rfl) (by kernel_rfl) ?_
        repeat (go_big_quiet_step (((go_at_call 36; exact Calls.regrown_of (LE.out _)))))
        refine wpQuiet_nil ?_
        intro wn hwn
        replace hwn := below_of_regrown hwn
        clear t3 t4 t5 k0 k1 k2 s7
        go_wp2_with fail
        refine wp_region_quiet_below (by kernel_rfl) (by kernel_rfl) ?_
        repeat (go_big_quiet_step (fail))
        refine wpQuiet_nil ?_
        intro wk hwk
        replace hwk := below_of_regrown hwk
        have HNX : Hid ((selB s aw al an (U.take (i + 1))).length = m ∧ m ≤ i + 1) := ⟨by rw [HSX.out]; exact HML.out.1, by have := HML.out.2; omega⟩
        have hbk : Below wr.heap.size wr wk := Below.on hwn hwk
        have HOX : Hid (OwnI w1.heap.size wk (.slice a' m c') m (selB s aw al an (U.take (i + 1)))) := by rw [HSX.out]; exact owns_keep HO.out fun g hg => hbk.block g (HO.out.lt g hg).2
        go_wp2_with fail
        go_roundg (n - (i + 1))
        case measure => omega
        case rel => exact ⟨i + 1, m, a', c', by omega, rfl, by go_num, rfl, HNX, HOX, Below.on HB.out hbk⟩
      | false =>
        obtain ⟨u, hu⟩ : ∃ u, anyB x.h.ws [s] = u := ⟨_, rfl⟩
        have HBK : Hid (blkB s aw al an x.h = u) := by show _ = _; unfold blkB; rw [HLT.out, ← any_one, hu]; simp
        have HUA := hid hu
        clear hu
        have S0 := hid s0
        have S1 := hid s1
        have S7 := hid s7
        clear s0 s1 s7
        go_wp2_with fail
        refine wp_region_quiet_below (by kernel_rfl) (by kernel_rfl) ?_
        repeat (go_big_quiet_step (((go_at_call 36; exact Calls.regrown_of (LE.out _)))))
        refine wpQuiet_nil ?_
        intro wn hwn
        replace hwn := below_of_regrown hwn
        have HBN : Hid (Below w1.heap.size w1 wn) := Below.on HB.out hwn
        have HON : Hid (OwnI w1.heap.size wn (.slice a' m c') m (selB s aw al an (U.take i))) := owns_keep HO.out fun g hg => hwn.block g (HO.out.lt g hg).2
        have HNW : Hid (x.ok wn) := HRW.out.later hwn
        have R0 := hid (cell_later hwn S0.out)
        have R1 := hid (cell_later hwn S1.out)
        have r7 := cell_later hwn S7.out
        have p0 := cell_later HBN.out X0.out
        have p1 := cell_later HBN.out X1.out
        have IN : Hid (∀ W b, Below wn.heap.size wn W → W.cell? ⟨b, 0, none⟩ = some (.string s.1) → W.cell? ⟨b, 1, none⟩ = some (.string s.2) → Calls Tryz.prog 37 #[.slice x.wa x.h.ws.length x.wc, .slice (some ⟨b, 0, none⟩) 1 1] W fun e w' => e = .returned (.bool u) ∧ Below W.heap.size W w') := fun W b hb h0 h1 => into_is (ys := [s]) HUA.out (HNW.out.later hb).w (row2_one h0 h1) (by have := HNW.out.wl; omega) (by simp)
        clear t3 t4 t5 k0 k1 k2 hwn
        go_wp2_with fail
        go_cut [37] (fun s37 wz => s37 = .bool u ∧ Hid (Below wn.heap.size wn wz))
        case first =>
          go_region_held3 (fun w' => w'.cell? ⟨g, i * 8 + 7, none⟩ = some (.slice x.wa x.h.ws.length x.wc) ∧ w'.cell? ⟨w.heap.size, 0, none⟩ = some (.string s.1) ∧ w'.cell? ⟨w.heap.size, 1, none⟩ = some (.string s.2) ∧ Below wn.heap.size wn w')
            ((refine (fun (hB : Below wn.heap.size wn _) => ⟨cell_later hB r7, cell_later hB p0, cell_later hB p1, hB⟩) ?_; (repeat (first | exact Below.refl _ _ | assumption | refine Below.drew ?_ | refine Below.al ?_ _ | refine Below.setCell ?_ (by first | exact Nat.le_refl _ | (simp; omega) | (simp; done)) _ | refine Below.on ?_ (by assumption)))))
            (first | (go_at_call 37; refine (IN.out _ _ (by (repeat (first | exact Below.refl _ _ | assumption | refine Below.drew ?_ | refine Below.al ?_ _ | refine Below.setCell ?_ (by first | exact Nat.le_refl _ | (simp; omega) | (simp; done)) _ | refine Below.on ?_ (by assumption)))) (by simp [go_sem]) (by simp [go_sem])).mono ?_; rintro e w3 ⟨rfl, hb3⟩))
          all_goals (try go_wp2_with fail)
          all_goals go_meet
          all_goals (refine ⟨rfl, hid ?_⟩)
          all_goals ((repeat (first | exact Below.refl _ _ | assumption | refine Below.drew ?_ | refine Below.al ?_ _ | refine Below.setCell ?_ (by first | exact Nat.le_refl _ | (simp; omega) | (simp; done)) _ | refine Below.on ?_ (by assumption))))
        case rest =>
          obtain ⟨rfl, HC⟩ := hcut
          have HOC : Hid (OwnI w1.heap.size wc (.slice a' m c') m (selB s aw al an (U.take i))) := owns_keep HON.out fun g hg => HC.out.block g (HON.out.lt g hg).2
          have HBC : Hid (Below w1.heap.size w1 wc) := Below.on HBN.out HC.out
          have s0 := cell_later HC.out R0.out
          have s1 := cell_later HC.out R1.out
          clear r7 p0 p1 IN
          cases u with
          | false =>
            have HSX : Hid (selB s aw al an (U.take (i + 1)) = selB s aw al an (U.take i)) := by
              have h := HST.out
              rw [HBK.out] at h
              show _ = _
              simpa using h
            have HNX : Hid ((selB s aw al an (U.take (i + 1))).length = m ∧ m ≤ i + 1) := ⟨by rw [HSX.out]; exact HML.out.1, by have := HML.out.2; omega⟩
            have HOX : Hid (OwnI w1.heap.size wc (.slice a' m c') m (selB s aw al an (U.take (i + 1)))) := by rw [HSX.out]; exact HOC.out
            go_wp2_with fail
            go_roundg (n - (i + 1))
            case measure => omega
            case rel => exact ⟨i + 1, m, a', c', by omega, rfl, by go_num, rfl, HNX, HOX, HBC⟩
          | true =>
            have HSX : Hid (selB s aw al an (U.take (i + 1)) = selB s aw al an (U.take i) ++ [x.h.id]) := by
              have h := HST.out
              rw [HBK.out] at h
              show _ = _
              simpa using h
            obtain ⟨w5, hw5⟩ : ∃ w5, w5 = wc.alloc (.cells #[.int .u32 x.h.id.1, .int .u32 x.h.id.2] 25) := ⟨_, rfl⟩
            have hb5 : Below wc.heap.size wc w5 := by rw [hw5]; exact Below.al (Below.refl _ _) _
            have HO5 : Hid (OwnI w1.heap.size w5 (.slice a' m c') m (selB s aw al an (U.take i))) := owns_keep HOC.out fun g hg => hb5.block g (HOC.out.lt g hg).2
            have blk5 : w5.heap[wc.heap.size]? = some (.cells (ics x.h.id).toArray 25) := by rw [hw5]; exact (MapKept.heap_alloc _ _).1
            have HCL : Hid (∀ j y, (ics x.h.id)[j]? = some y → w5.cell? ((⟨wc.heap.size, 0, none⟩ : Addr).add j) = some y) := fun j y hj => by
              rw [Addr.add_lit, Nat.zero_add]
              exact cell_of_obj blk5 (by simpa using hj)
            have HX5 : Hid (Below w1.heap.size w1 w5) := Below.on HBC.out hb5
            have hs5 : w1.heap.size ≤ w5.heap.size := HX5.out.size
            have hnb : m + 1 ≤ 1759218604441 := by have := HML.out.2; omega
            clear hb5 blk5
            go_wp2_with (at_builtin; refine wpList_append_own _ rfl _ _ 50 rfl w1.heap.size 25 i0 (.agg #[.int .u32 0, .int .u32 0]) 2 8 Tryz.underlying50 hi hz0 hz1 hz2 rfl (by decide) (.slice a' m c') m ((selB s aw al an (U.take i)).flatMap ics) rfl (by rw [← hw5]; exact HO5.out) ⟨wc.heap.size, 0, none⟩ 1 1 (ics x.h.id) rfl rfl (by rw [← hw5]; exact HCL.out) (ics_one _) (by unfold maxLen; omega) (by omega) (by rw [← hw5]; exact hs5) ?_)
            intro v2 w6 hown hgrow hnil
            rw [← hw5] at hgrow
            obtain ⟨a2, c2, rfl⟩ := owns_slice hown
            have HB6 : Hid (Below w1.heap.size w1 w6) := Below.grown HX5.out hgrow (by exact hs5) (fun k hk => (HO5.out.lt k hk).1)
            have HO6 : Hid (OwnI w1.heap.size w6 (.slice a2 (m + 1) c2) (m + 1) (selB s aw al an (U.take (i + 1)))) := by
              show w6.ownsRow _ _ _ _ _ _
              rw [HSX.out, List.flatMap_append]
              simpa using hown
            have HNX : Hid ((selB s aw al an (U.take (i + 1))).length = m + 1 ∧ m + 1 ≤ i + 1) := ⟨by rw [HSX.out, List.length_append, HML.out.1]; rfl, by have := HML.out.2; omega⟩
            clear hown hgrow hnil
            go_wp2_with fail
            go_roundg (n - (i + 1))
            case measure => omega
            case rel => exact ⟨i + 1, m + 1, a2, c2, by omega, rfl, by go_num, rfl, HNX, HO6, HB6⟩
    · obtain rfl : i = n := by omega
      have hX : selB s aw al an (U.take i) = selB s aw al an U := by rw [List.take_of_length_le (by rw [HLN.out]; exact Nat.le_refl _)]
      have HF1 : Hid ((selB s aw al an (U.take i)).length = m) := HML.out.1
      have HF2 : Hid (RowI wr a' (selB s aw al an (U.take i))) := rowI_own HO.out HML.out.1
      have HF3 : Hid (selB s aw al an (U.take i) = (L.filter (blkB s aw al an)).map Hd.id) := by rw [hX]; exact sel_all HU.out
      have HF4 : Hid (Below w.heap.size w wr) := Below.on HW1.out HB.out
      clear hX
      go_wp2_with fail
      go_ret
      exact ⟨a', m, c', _, rfl, HF1, HF2, HF3, HF4⟩
end Go.Proofs.YtgplnbdankfobaaGreatDoor.Lk
/- SameIDs, at lists that are the same. -/
namespace Go.Proofs.YtgplnbdankfobaaGreatDoor.Lk
open Go.RowKit Go.Sort
set_option linter.unusedVariables false

set_option maxRecDepth 8000 in
set_option maxHeartbeats 4000000 in
theorem sameids_is {w : World} {a a' : Option Addr} {c c' n : Nat} {D : List Ix} (hn : D.length = n) (ha : RowI w a D) (hb : RowI w a' D) (hl : n ≤ 9223372036854775806) :
    Calls Tryz.prog 17 #[.slice a n c, .slice a' n c'] w fun e w' => e = .returned (.bool true) ∧ Below w.heap.size w w' := by
  have HA := hid ha
  have HB' := hid hb
  have HN := hid hn
  clear ha hb hn
  go_enter Tryz.func17, Tryz.ntmps17
  go_wp2_with fail
  go_loopg [5] n (fun g s5 wr => ∃ i : Nat, i ≤ n ∧ g = n - i ∧ s5 = .int .i64 i ∧ Hid (Below w.heap.size w wr))
  case atStart => exact ⟨0, by omega, by omega, rfl, Below.refl _ _⟩
  case round =>
    obtain ⟨i, hi1, rfl, rfl, HB⟩ := hrel
    by_cases hlt : i < n
    · obtain ⟨b1, o1, rfl, hc1⟩ := HA.out i (by rw [HN.out]; exact hlt)
      obtain ⟨b2, o2, rfl, hc2⟩ := HB'.out i (by rw [HN.out]; exact hlt)
      obtain ⟨x, hx⟩ : ∃ x, x = D[i]?.getD (0, 0) := ⟨_, rfl⟩
      rw [← hx] at hc1 hc2
      have s0 := cell_regrown (cell_later HB.out (show w.cell? ⟨b1, o1 + i * 2, none⟩ = some (.int .u32 x.1) from hc1 0 _ rfl))
      have s1 := cell_regrown (cell_later HB.out (hc1 1 _ rfl))
      have t0 := cell_regrown (cell_later HB.out (show w.cell? ⟨b2, o2 + i * 2, none⟩ = some (.int .u32 x.1) from hc2 0 _ rfl))
      have t1 := cell_regrown (cell_later HB.out (hc2 1 _ rfl))
      have hi2 : (i : Int) < (n : Int) := by omega
      clear hc1 hc2 hx
      go_wp2_with fail
      refine wp_region_quiet_below (by kernel_rfl) (by kernel_rfl) ?_
      repeat (go_big_quiet_step (fail))
      refine wpQuiet_nil ?_
      intro wn hwn
      replace hwn := below_of_regrown hwn
      have HBN : Hid (Below w.heap.size w wn) := Below.on HB.out hwn
      clear s0 s1 t0 t1
      go_wp2_with fail
      go_roundg (n - (i + 1))
      case measure => omega
      case rel => exact ⟨i + 1, by omega, rfl, by go_num, HBN⟩
    · obtain rfl : i = n := by omega
      go_wp2_with fail
      go_ret
      exact ⟨rfl, HB.out⟩
end Go.Proofs.YtgplnbdankfobaaGreatDoor.Lk
/- The law's left. -/
namespace Go.Proofs.YtgplnbdankfobaaGreatDoor.Lk
open Go.RowKit Go.Sort
set_option linter.unusedVariables false

/-- a list and the mark behind it -/
def Rm2 (w : World) (g : Nat) (xs : List T2) : Prop := ∃ f, Cells2 w g f (xs.length + 1) ∧ (∀ i, i < xs.length → f i = nth2 xs i) ∧ f xs.length = (spareS, ⟨#[]⟩)
def RmW (w : World) (g : Nat) (xs : List Wr) : Prop := ∃ f, CellsW w g f (xs.length + 1) ∧ (∀ i, i < xs.length → f i = nthW xs i) ∧ f xs.length = ⟨spareS, false, ⟨#[]⟩⟩

set_option maxRecDepth 8000 in
set_option maxHeartbeats 4000000 in
theorem left_is {w : World} {v : Hv} {g1 g2 : Nat} (h : v.ok w) (hr : (v.roomy g1 g2).ok w) (h1 : Rm2 w g1 v.h.rs) (h2 : RmW w g2 v.h.ws) :
    Calls Tryz.prog 9 #[.agg #[.int .u32 v.h.id.1, .int .u32 v.h.id.2, .int .u32 v.h.home, .int .u64 v.h.w, .int .u32 v.h.l, .int .u32 v.h.n, .slice (some ⟨g1, 0, none⟩) v.h.rs.length (v.h.rs.length + 1), .slice (some ⟨g2, 0, none⟩) v.h.ws.length (v.h.ws.length + 1)], .agg #[.int .u32 v.h.id.1, .int .u32 v.h.id.2, .int .u32 v.h.home, .int .u64 v.h.w, .int .u32 v.h.l, .int .u32 v.h.n, .slice v.ra v.h.rs.length v.rc, .slice v.wa v.h.ws.length v.wc]] w fun e w' => e = .returned (.bool true) ∧ Below w.heap.size w w' := by
  obtain ⟨f1, hf1, _, hm1⟩ := h1
  obtain ⟨f2, hf2, _, hm2⟩ := h2
  have m0 := hf1 v.h.rs.length (by omega)
  have m1 := hf2 v.h.ws.length (by omega)
  rw [hm1] at m0
  rw [hm2] at m1
  obtain ⟨wx, hwx⟩ : ∃ wx, wx = (w.alloc (.cells #[.int .u32 v.h.id.1, .int .u32 v.h.id.2, .int .u32 v.h.home, .int .u64 v.h.w, .int .u32 v.h.l, .int .u32 v.h.n, .slice (some ⟨g1, 0, none⟩) v.h.rs.length (v.h.rs.length + 1), .slice (some ⟨g2, 0, none⟩) v.h.ws.length (v.h.ws.length + 1)] 32)).alloc (.cells #[.int .u32 v.h.id.1, .int .u32 v.h.id.2, .int .u32 v.h.home, .int .u64 v.h.w, .int .u32 v.h.l, .int .u32 v.h.n, .slice v.ra v.h.rs.length v.rc, .slice v.wa v.h.ws.length v.wc] 32) := ⟨_, rfl⟩
  have hbx : Below w.heap.size w wx := by rw [hwx]; exact Below.al (Below.al (Below.refl _ _) _) _
  have x0 : wx.cell? ⟨w.heap.size, 0, none⟩ = some (.int .u32 v.h.id.1) := by rw [hwx]; simp [go_sem]
  have x1 : wx.cell? ⟨w.heap.size, 1, none⟩ = some (.int .u32 v.h.id.2) := by rw [hwx]; simp [go_sem]
  have x2 : wx.cell? ⟨w.heap.size, 2, none⟩ = some (.int .u32 v.h.home) := by rw [hwx]; simp [go_sem]
  have x3 : wx.cell? ⟨w.heap.size, 3, none⟩ = some (.int .u64 v.h.w) := by rw [hwx]; simp [go_sem]
  have x4 : wx.cell? ⟨w.heap.size, 4, none⟩ = some (.int .u32 v.h.l) := by rw [hwx]; simp [go_sem]
  have x5 : wx.cell? ⟨w.heap.size, 5, none⟩ = some (.int .u32 v.h.n) := by rw [hwx]; simp [go_sem]
  have x6 : wx.cell? ⟨w.heap.size, 6, none⟩ = some (.slice (some ⟨g1, 0, none⟩) v.h.rs.length (v.h.rs.length + 1)) := by rw [hwx]; simp [go_sem]
  have x7 : wx.cell? ⟨w.heap.size, 7, none⟩ = some (.slice (some ⟨g2, 0, none⟩) v.h.ws.length (v.h.ws.length + 1)) := by rw [hwx]; simp [go_sem]
  have y0 : wx.cell? ⟨w.heap.size + 1, 0, none⟩ = some (.int .u32 v.h.id.1) := by rw [hwx]; simp [go_sem]
  have y1 : wx.cell? ⟨w.heap.size + 1, 1, none⟩ = some (.int .u32 v.h.id.2) := by rw [hwx]; simp [go_sem]
  have y2 : wx.cell? ⟨w.heap.size + 1, 2, none⟩ = some (.int .u32 v.h.home) := by rw [hwx]; simp [go_sem]
  have y3 : wx.cell? ⟨w.heap.size + 1, 3, none⟩ = some (.int .u64 v.h.w) := by rw [hwx]; simp [go_sem]
  have y4 : wx.cell? ⟨w.heap.size + 1, 4, none⟩ = some (.int .u32 v.h.l) := by rw [hwx]; simp [go_sem]
  have y5 : wx.cell? ⟨w.heap.size + 1, 5, none⟩ = some (.int .u32 v.h.n) := by rw [hwx]; simp [go_sem]
  have y6 : wx.cell? ⟨w.heap.size + 1, 6, none⟩ = some (.slice v.ra v.h.rs.length v.rc) := by rw [hwx]; simp [go_sem]
  have y7 : wx.cell? ⟨w.heap.size + 1, 7, none⟩ = some (.slice v.wa v.h.ws.length v.wc) := by rw [hwx]; simp [go_sem]
  have hrl := h.rl
  have hwl := h.wl
  have HBX := hid hbx
  have SM : Hid (Calls Tryz.prog 15 #[.agg #[.int .u32 v.h.id.1, .int .u32 v.h.id.2, .int .u32 v.h.home, .int .u64 v.h.w, .int .u32 v.h.l, .int .u32 v.h.n, .slice (some ⟨g1, 0, none⟩) v.h.rs.length (v.h.rs.length + 1), .slice (some ⟨g2, 0, none⟩) v.h.ws.length (v.h.ws.length + 1)], .agg #[.int .u32 v.h.id.1, .int .u32 v.h.id.2, .int .u32 v.h.home, .int .u64 v.h.w, .int .u32 v.h.l, .int .u32 v.h.n, .slice v.ra v.h.rs.length v.rc, .slice v.wa v.h.ws.length v.wc]] wx fun e w' => e = .returned (.bool true) ∧ Below wx.heap.size wx w') := same_is (x := v.roomy g1 g2) (y := v) (u := true) (by simp [Hv.roomy]) (hr.later hbx) (h.later hbx)
  clear hbx hf1 hf2 hm1 hm2
  go_enter Tryz.func9, Tryz.ntmps9
  go_upto_region 1 with fail
  rw [← hwx]
  clear hwx
  go_wp2_with fail
  refine SM.out.mono ?_
  rintro e w2 ⟨rfl, hb2⟩
  have y6 := cell_later hb2 y6
  have y7 := cell_later hb2 y7
  have hb02 : Below w.heap.size w w2 := Below.on HBX.out hb2
  have n0 := cell_later hb02 m0.1
  have n1 := cell_later hb02 m0.2
  have n2 := cell_later hb02 m1.1
  have n3 := cell_later hb02 m1.2.1
  have n4 := cell_later hb02 m1.2.2
  have HB2 := hid hb02
  clear SM m0 m1 hb02 hb2 x0 x1 x2 x3 x4 x5 x6 x7 y0 y1 y2 y3 y4 y5
  have he : (spareS == (⟨#[115, 112, 97, 114, 101]⟩ : ByteArray)) = true := by decide
  unfold spareS at n0 n2
  go_wp2_with fail
  go_ret
  exact ⟨rfl, HB2.out⟩
end Go.Proofs.YtgplnbdankfobaaGreatDoor.Lk
/- A step of the first loop: what is held and what is handed in. -/
namespace Go.Proofs.YtgplnbdankfobaaGreatDoor.Lk
open Go.RowKit Go.Sort
set_option linter.unusedVariables false

theorem cells_own {w : World} {B g n N k : Nat} {t : TypeId} {xs : List Value} (hB : B ≤ g) (hl : Lie w g t (N * k)) (hx : xs.length = n * k) (hn : n ≤ N) (hN : N ≤ maxLen) (hc : ∀ j v, xs[j]? = some v → w.cell? ⟨g, j, none⟩ = some v) :
    w.ownsRow B t k (.slice (some ⟨g, 0, none⟩) n N) n xs := by
  obtain ⟨cur, hh, hs⟩ := hl
  refine ⟨hx, .inr ⟨g, N, cur, rfl, hB, hh, hn, hN, hs, ?_⟩⟩
  apply List.ext_getElem?
  intro j
  rw [List.getElem?_take]
  by_cases hj : j < n * k
  · rw [if_pos hj]
    have hj' : j < xs.length := by omega
    have := hc j _ (List.getElem?_eq_getElem hj')
    simp only [World.cell?, hh] at this
    rw [List.getElem?_eq_getElem hj']
    simpa using this
  · rw [if_neg hj, List.getElem?_eq_none (by omega)]
theorem room2_own {w wr : World} {g : Nat} {xs : List T2} (h : Room2 w wr g xs) (hl : xs.length + 1 ≤ 4398046511104) : Fr2 w.heap.size wr (some ⟨g, 0, none⟩) (xs.length + 1) xs := by
  obtain ⟨f, h1, h2, _⟩ := h.cells
  refine cells_own h.low h.obj (flat2_len xs) (by omega) (by unfold maxLen; omega) (fun j v hj => ?_)
  have hjl : j < xs.length * 2 := by have := (List.getElem?_eq_some_iff.1 hj).1; rw [flat2_len] at this; exact this
  have hf := flat2_get xs (j / 2) (j % 2) (by omega) (by omega)
  rw [show j / 2 * 2 + j % 2 = j by omega, hj] at hf
  obtain ⟨c0, c1⟩ := h1 (j / 2) (by omega)
  rw [h2 (j / 2) (by omega)] at c0 c1
  have hm : j % 2 = 0 ∨ j % 2 = 1 := by omega
  rcases hm with e | e
  · rw [e] at hf
    rw [show j / 2 * 2 = j by omega] at c0
    rw [c0]; exact hf.symm
  · rw [e] at hf
    rw [show j / 2 * 2 + 1 = j by omega] at c1
    rw [c1]; exact hf.symm
theorem roomW_own {w wr : World} {g : Nat} {xs : List Wr} (h : RoomW w wr g xs) (hl : xs.length + 1 ≤ 3518437208883) : FrW w.heap.size wr (some ⟨g, 0, none⟩) (xs.length + 1) xs := by
  obtain ⟨f, h1, h2, _⟩ := h.cells
  refine cells_own h.low h.obj (flatW_len xs) (by omega) (by unfold maxLen; omega) (fun j v hj => ?_)
  have hjl : j < xs.length * 3 := by have := (List.getElem?_eq_some_iff.1 hj).1; rw [flatW_len] at this; exact this
  have hf := flatW_get xs (j / 3) (j % 3) (by omega) (by omega)
  rw [show j / 3 * 3 + j % 3 = j by omega, hj] at hf
  obtain ⟨c0, c1, c2⟩ := h1 (j / 3) (by omega)
  rw [h2 (j / 3) (by omega)] at c0 c1 c2
  have hm : j % 3 = 0 ∨ j % 3 = 1 ∨ j % 3 = 2 := by omega
  rcases hm with e | e | e
  · rw [e] at hf
    rw [show j / 3 * 3 = j by omega] at c0
    rw [c0]; exact hf.symm
  · rw [e] at hf
    rw [show j / 3 * 3 + 1 = j by omega] at c1
    rw [c1]; exact hf.symm
  · rw [e] at hf
    rw [show j / 3 * 3 + 2 = j by omega] at c2
    rw [c2]; exact hf.symm
theorem roomy_fresh {w wr : World} {v : Hv} {g1 g2 : Nat} (hv : v.h.rs.length + 1 ≤ 4398046511104 ∧ v.h.ws.length + 1 ≤ 3518437208883) (h1 : Room2 w wr g1 v.h.rs) (h2 : RoomW w wr g2 v.h.ws) : (v.roomy g1 g2).fresh w.heap.size wr :=
  ⟨room2_own h1 hv.1, roomW_own h2 hv.2⟩
/-- a row of held ones and a list lie in unlike blocks -/
theorem held_far {w : World} {B B' k c n : Nat} {a : Option Addr} {G : List Hv} {u : Hv} (h : OwnH B w (.slice a k c) n G) (hu : u.fresh B' w) {b : Nat} (hb : u.has b) : (Value.slice a k c).ownBlock ≠ some b := fun e => by
  obtain ⟨cur, hc⟩ := own_type h e
  rcases hb with hb | hb
  · obtain ⟨cur', hc'⟩ := own_type hu.r hb
    have := cells_ne hc hc'
    revert this; decide
  · obtain ⟨cur', hc'⟩ := own_type hu.w hb
    have := cells_ne hc hc'
    revert this; decide
theorem Hv.fresh.base {B C : Nat} {w : World} {v : Hv} (h : v.fresh B w) (hC : C ≤ B) : v.fresh C w := ⟨owns_base h.r hC, owns_base h.w hC⟩

/-- what stands at the head of a round -/
structure Fs (B : Nat) (w : World) (p : Nat) (m1 m2 : Option Nat) (V : List Hv) (I : It) (q : Nat) (a : Option Addr) (n c : Nat) (R : List Hv) (ga : Option Addr) (k gc : Nat) (G : List Hv) : Prop where
  pr : Pr B w p m1 m2 V I q a n c R
  gv : Gv B w ga k gc G
  sep : ∀ b, GB ga k gc G b → ¬ PB p m1 m2 V q a n c R b
theorem Fs.later {B : Nat} {w w' : World} {p : Nat} {m1 m2 : Option Nat} {V : List Hv} {I : It} {q : Nat} {a : Option Addr} {n c : Nat} {R : List Hv} {ga : Option Addr} {k gc : Nat} {G : List Hv} (h : Fs B w p m1 m2 V I q a n c R ga k gc G) (hb : Below w.heap.size w w') : Fs B w' p m1 m2 V I q a n c R ga k gc G :=
  ⟨h.pr.later hb, h.gv.later hb, h.sep⟩

/-- behind both Holds -/
theorem Fs.held {B : Nat} {w w2 w3 w4 : World} {p : Nat} {m1 m2 m1' m2' : Option Nat} {V V' : List Hv} {I I' : It} {q : Nat} {a a' : Option Addr} {n c n' c' : Nat} {R R' : List Hv} {ga : Option Addr} {k gc : Nat} {G : List Hv} {u : Hv} {x : Hd}
    (h : Fs B w p m1 m2 V I q a n c R ga k gc G) (hb : Below w.heap.size w w2) (hu : u.fresh w.heap.size w2)
    (T3 : Tb w3 p m1' m2' V' I') (e3 : V'.map Hv.h = holdM (V.map Hv.h) x) (o3 : Onl (Its p m1 m2) w2 w3) (i3 : ∀ b, Its p m1' m2' b → Its p m1 m2 b ∨ w2.heap.size ≤ b) (f3 : ∀ y ∈ V', y ∈ V ∨ y.fresh w2.heap.size w3)
    (R4 : RT B w4 q a' n' c' R') (e4 : R'.map Hv.h = holdM (R.map Hv.h) x) (o4 : Onl (RIt q a n c) w3 w4) (i4 : ∀ b, RIt q a' n' c' b → RIt q a n c b ∨ w3.heap.size ≤ b) (f4 : ∀ y ∈ R', y ∈ R ∨ y.low w3.heap.size) :
    Pr B w4 p m1' m2' V' I' q a' n' c' R' ∧ Gv B w4 ga k gc G ∧ u.fresh w.heap.size w4 ∧ (∀ b, PB p m1' m2' V' q a' n' c' R' b → PB p m1 m2 V q a n c R b ∨ w2.heap.size ≤ b) := by
  have P2 := h.pr.later hb
  have G2 := h.gv.later hb
  have T2 := P2.tb
  have R3 := P2.rt.prog T2 o3
  have hty3 : ∀ y ∈ V', y.typ w3 := fun y hy => by
    rcases f3 y hy with hy | hy
    · exact (P2.ty y hy).onl o3 T2.foreign
    · exact hy.typ
  have T4 := T3.ref hty3 R3 o4
  have hs23 := o3.size
  refine ⟨⟨T4, R4, by rw [e3, e4, h.pr.eq], fun y hy => (hty3 y hy).onl o4 R3.foreign⟩, ?_, ?_, fun b hb' => ?_⟩
  · have G3 := G2.off o3 (fun b hI hG => h.sep b hG (.inl hI))
    exact G3.off o4 (fun b hI hG => h.sep b hG (.inr (.inl hI)))
  · have u3 := hu.off o3 (fun b hb1 hI => by have h1 := (hu.has hb1).1; have h2 := h.pr.lt (.inl hI); omega)
    exact u3.off o4 (fun b hb1 hI => by have h1 := (hu.has hb1).1; have h2 := h.pr.lt (.inr (.inl hI)); omega)
  · rcases hb' with hI | hI | ⟨y, hy | hy, hyb⟩
    · rcases i3 b hI with h1 | h1
      · exact .inl (.inl h1)
      · exact .inr h1
    · rcases i4 b hI with h1 | h1
      · exact .inl (.inr (.inl h1))
      · exact .inr (Nat.le_trans hs23 h1)
    · rcases f3 y hy with h1 | h1
      · exact .inl (.inr (.inr ⟨y, .inl h1, hyb⟩))
      · exact .inr (h1.has hyb).1
    · rcases f4 y hy with h1 | h1
      · exact .inl (.inr (.inr ⟨y, .inr h1, hyb⟩))
      · exact .inr (Nat.le_trans hs23 (h1.has hyb))
/-- behind the append -/
theorem Fs.more {B : Nat} {w w2 w4 w5 w6 : World} {p : Nat} {m1 m2 m1' m2' : Option Nat} {V V' : List Hv} {I I' : It} {q : Nat} {a a' : Option Addr} {n c n' c' : Nat} {R R' : List Hv} {ga ga' : Option Addr} {k gc gc' : Nat} {G : List Hv} {u : Hv}
    (h : Fs B w p m1 m2 V I q a n c R ga k gc G) (hB : B ≤ w.heap.size) (hs : w.heap.size ≤ w2.heap.size) (hs2 : w2.heap.size ≤ w4.heap.size) (hu : u.fresh w.heap.size w2)
    (P4 : Pr B w4 p m1' m2' V' I' q a' n' c' R') (G4 : Gv B w4 ga k gc G) (u4 : u.fresh w.heap.size w4) (hp : ∀ b, PB p m1' m2' V' q a' n' c' R' b → PB p m1 m2 V q a n c R b ∨ w2.heap.size ≤ b)
    (hb : Below w4.heap.size w4 w5) (hown : OwnH B w6 (.slice ga' (k + 1) gc') (k + 1) (G ++ [u])) (hg : w5.grownBy w6 (Value.slice ga k gc).ownBlock) (hn : (Value.slice ga' (k + 1) gc').ownBlock = (Value.slice ga k gc).ownBlock ∨ ∃ z, (Value.slice ga' (k + 1) gc').ownBlock = some z ∧ w5.heap.size ≤ z) :
    Fs B w6 p m1' m2' V' I' q a' n' c' R' ga' (k + 1) gc' (G ++ [u]) := by
  have P5 := P4.later hb
  have G5 := G4.later hb
  have u5 := u4.later hb
  have ho := grown_onl hg
  have hold : ∀ b, GB ga k gc G b → ¬ PB p m1' m2' V' q a' n' c' R' b := fun b hG hP => by
    rcases hp b hP with h1 | h1
    · exact h.sep b hG h1
    · have := (h.gv.lt hG).2; omega
  refine ⟨P5.off ho (fun b e => hold b (.inl e)), ⟨hown, by rw [List.length_append, h.gv.len]; rfl, fun x hx => ?_, ?_⟩, fun b hG hP => ?_⟩
  · rcases List.mem_append.1 hx with hx | hx
    · exact (G5.fr x hx).off ho (fun b hb' => held_far G5.own (G5.fr x hx) hb')
    · obtain rfl := List.mem_singleton.1 hx
      exact (u5.off ho (fun b hb' => held_far G5.own u5 hb')).base hB
  · refine List.pairwise_append.2 ⟨h.gv.far, List.pairwise_singleton _ _, fun x hx y hy => ?_⟩
    obtain rfl := List.mem_singleton.1 hy
    exact Hv.far_of (h.gv.fr x hx) hu (Nat.le_refl _)
  · have hlt := P4.lt hP
    rcases hG with e | ⟨x, hx, hxb⟩
    · rcases hn with hn | ⟨z, hz, hz2⟩
      · exact hold b (.inl (hn.symm.trans e)) hP
      · rw [hz] at e
        injection e with e
        have := hb.size
        omega
    · rcases List.mem_append.1 hx with hx | hx
      · exact hold b (.inr ⟨x, hx, hxb⟩) hP
      · obtain rfl := List.mem_singleton.1 hx
        have h1 := hu.has hxb
        rcases hp b hP with h2 | h2
        · have := h.pr.lt h2; omega
        · omega
end Go.Proofs.YtgplnbdankfobaaGreatDoor.Lk
/- Get. -/
namespace Go.Proofs.YtgplnbdankfobaaGreatDoor.Lk
open Go.RowKit Go.Sort
set_option linter.unusedVariables false

theorem Hv.fresh.low {B B' : Nat} {w w' : World} {F : Nat → Prop} {v : Hv} (h : v.fresh B w) (ho : Onl F w w') (hF : ∀ g, F g → g < B) (hB : B' ≤ B) : v.fresh B' w' :=
  ⟨owns_base (owns_keep h.r fun g e => ho.block g (h.r.lt g e).2 (fun k => by have := hF g k; have := (h.r.lt g e).1; omega)) hB, owns_base (owns_keep h.w fun g e => ho.block g (h.w.lt g e).2 (fun k => by have := hF g k; have := (h.w.lt g e).1; omega)) hB⟩

set_option maxHeartbeats 2000000 in
theorem get_is {w : World} {p oo : Nat} {ty : TypeId} {m1 m2 : Option Nat} {V : List Hv} {I : It} (T : TbO w p oo ty m1 m2 V I) (i : Ix) :
    Calls Tryz.prog 14 #[.pointer (some ⟨p, oo, none⟩), ixv i] w fun e w' => ∃ u : Hv, e = .returned (.tuple #[.agg #[.int .u32 u.h.id.1, .int .u32 u.h.id.2, .int .u32 u.h.home, .int .u64 u.h.w, .int .u32 u.h.l, .int .u32 u.h.n, .slice u.ra u.h.rs.length u.rc, .slice u.wa u.h.ws.length u.wc], .bool (hasB (V.map Hv.h) i)]) ∧
      Hid (hasB (V.map Hv.h) i = true → u.h ∈ V.map Hv.h ∧ u.h.id = i) ∧ Hid (hasB (V.map Hv.h) i = false → u.h = Hv.zero.h) ∧ Hid (u.fresh w.heap.size w') ∧ Hid (u.ok w') ∧ Hid (Below w.heap.size w w') := by
  obtain ⟨ic, is⟩ := i
  obtain ⟨wx, hwx⟩ : ∃ wx, wx = (w.alloc (.cells #[.int .u32 ic, .int .u32 is] 25)).alloc (.cells #[.int .u32 0, .int .u32 0, .int .u32 0, .int .u64 0, .int .u32 0, .int .u32 0, .slice none 0 0, .slice none 0 0] 32) := ⟨_, rfl⟩
  have hbx : Below w.heap.size w wx := by rw [hwx]; exact Below.al (Below.al (Below.refl _ _) _) _
  have T0 := T.later hbx
  have c0 := T0.c0
  have x0 : wx.cell? ⟨w.heap.size, 0, none⟩ = some (.int .u32 ic) := by rw [hwx]; simp [go_sem]
  have x1 : wx.cell? ⟨w.heap.size, 1, none⟩ = some (.int .u32 is) := by rw [hwx]; simp [go_sem]
  have hz : wx.heap[w.heap.size + 1]? = some (.cells #[.int .u32 0, .int .u32 0, .int .u32 0, .int .u64 0, .int .u32 0, .int .u32 0, .slice none 0 0, .slice none 0 0] 32) := by
    rw [hwx, show w.heap.size + 1 = (w.alloc (.cells #[.int .u32 ic, .int .u32 is] 25)).heap.size by simp]
    exact (MapKept.heap_alloc _ _).1
  obtain ⟨v0, ok, hyes, hno, hlook⟩ := T0.held.lookT (P := Tryz.prog) ids Tryz.underlying54 zero_hv ⟨ic, is⟩
  have hok : ok = hasB (V.map Hv.h) ⟨ic, is⟩ := by
    cases ok with
    | true => exact (decide_eq_true (by rw [← prs_keys]; exact List.mem_map.2 ⟨_, hyes rfl, rfl⟩)).symm
    | false => exact (decide_eq_false (by have := (hno rfl).1; rwa [prs_keys] at this)).symm
  have hvv : (ok = true → v0 ∈ V ∧ v0.h.id = ⟨ic, is⟩) ∧ (ok = false → v0 = Hv.zero) := by
    refine ⟨fun e => ?_, fun e => (hno e).2⟩
    obtain ⟨v, hv, e⟩ := List.mem_map.1 (hyes e)
    injection e with e1 e2
    subst e2
    exact ⟨hv, e1⟩
  have hvo : v0.ok wx := by
    cases ok with
    | true => exact T0.rows v0 (hvv.1 rfl).1
    | false =>
      rw [hvv.2 rfl]
      exact ⟨fun i hi => by simp [Hv.zero] at hi, fun i hi => by simp [Hv.zero] at hi, by simp [Hv.zero], by simp [Hv.zero]⟩
  rw [← hok]
  have HVV := hid hvv
  have HVO := hid hvo
  have HT0 := hid T0
  have HBX := hid hbx
  have HZ := hid hz
  have hsx : w.heap.size + 1 < wx.heap.size := by rw [hwx]; simp
  simp only [Hv.val, ixv] at hlook
  have HLK := hid hlook
  clear hyes hno hok hvv hvo T T0 hbx hz hlook
  go_enter Tryz.func14, Tryz.ntmps14
  go_wp2_with fail
  rw [← hwx]
  clear hwx
  go_cut [6, 7] (fun s6 s7 wz => ∃ q : Nat, s6 = .pointer (some ⟨q, 0, none⟩) ∧ s7 = .bool ok ∧ Hid (∀ o u, (hcs v0)[o]? = some u → wz.cell? ⟨q, o, none⟩ = some u) ∧ Hid (Below wx.heap.size wx wz))
  case first =>
    go_region_held3 (fun w' => w'.cell? ⟨p, oo, none⟩ = some (.map m1) ∧ w'.cell? ⟨w.heap.size, 0, none⟩ = some (.int .u32 ic) ∧ w'.cell? ⟨w.heap.size, 1, none⟩ = some (.int .u32 is) ∧ (Instr.lookup 54 (.map m1) (.agg #[.int .u32 ic, .int .u32 is]) true).run Tryz.prog w' = .ok (.tuple #[.agg #[.int .u32 v0.h.id.1, .int .u32 v0.h.id.2, .int .u32 v0.h.home, .int .u64 v0.h.w, .int .u32 v0.h.l, .int .u32 v0.h.n, .slice v0.ra v0.h.rs.length v0.rc, .slice v0.wa v0.h.ws.length v0.wc], .bool ok]) w' ∧ Below wx.heap.size wx w')
      ((refine (fun (hB : Below wx.heap.size wx _) => ⟨cell_later hB c0, cell_later hB x0, cell_later hB x1, HLK.out _ (fun b e => hB.block b (HT0.out.held.lt b e)), hB⟩) ?_; (repeat (first | exact Below.refl _ _ | assumption | refine Below.drew ?_ | refine Below.al ?_ _ | refine Below.setCell ?_ (by first | exact Nat.le_refl _ | (simp; omega) | (simp; done)) _ | refine Below.on ?_ (by assumption)))))
      (fail)
    all_goals (try go_wp2_with fail)
    all_goals go_meet
    all_goals refine ⟨_, rfl, rfl, hid ?_, hid ?_⟩
    all_goals first
      | (refine box_cells (g := _) ?_
         first
         | exact (MapKept.heap_alloc _ _).1
         | (simp [hcs, World.drew, World.alloc]; done))
      | ((repeat (first | exact Below.refl _ _ | assumption | refine Below.drew ?_ | refine Below.al ?_ _ | refine Below.setCell ?_ (by first | exact Nat.le_refl _ | (simp; omega) | (simp; done)) _ | refine Below.on ?_ (by assumption))))
  case rest =>
    obtain ⟨q, rfl, rfl, HQ, HC⟩ := hcut
    rename World => wz
    have q0 := HQ.out 0 _ rfl
    have q1 := HQ.out 1 _ rfl
    have q2 := HQ.out 2 _ rfl
    have q3 := HQ.out 3 _ rfl
    have q4 := HQ.out 4 _ rfl
    have q5 := HQ.out 5 _ rfl
    have q6 := HQ.out 6 _ rfl
    have q7 := HQ.out 7 _ rfl
    have OW := hid (own_is (HVO.out.later HC.out))
    simp only [Hv.val] at OW
    have HB2 : Hid (Below w.heap.size w wz) := Below.on HBX.out HC.out
    have hzz := (HC.out.block _ hsx).trans HZ.out
    go_wp2_with fail
    refine OW.out.mono ?_
    rintro e w3 ⟨u, rfl, huh, huf, hb3⟩
    have hz3 : w3.heap[w.heap.size + 1]? = some (.cells #[.int .u32 0, .int .u32 0, .int .u32 0, .int .u64 0, .int .u32 0, .int .u32 0, .slice none 0 0, .slice none 0 0] 32) := (hb3.block _ (by have := HC.out.size; omega)).trans hzz
    have f3 : ∀ o, w3.frozen? ⟨w.heap.size + 1, o, none⟩ = false := fun o => by simp [World.frozen?, hz3]
    have HUH := hid huh
    have HUF := hid huf
    have HB3 : Hid (Below w.heap.size w w3) := Below.on HB2.out hb3
    have hsz3 : w.heap.size + 1 < wz.heap.size := Nat.lt_of_lt_of_le hsx HC.out.size
    clear OW hb3 hzz huh huf HQ
    have r0 : w3.cell? ⟨w.heap.size + 1, 0, none⟩ = some (.int .u32 0) := cell_of_obj hz3 rfl
    have r1 : w3.cell? ⟨w.heap.size + 1, 1, none⟩ = some (.int .u32 0) := cell_of_obj hz3 rfl
    have r2 : w3.cell? ⟨w.heap.size + 1, 2, none⟩ = some (.int .u32 0) := cell_of_obj hz3 rfl
    have r3 : w3.cell? ⟨w.heap.size + 1, 3, none⟩ = some (.int .u64 0) := cell_of_obj hz3 rfl
    have r4 : w3.cell? ⟨w.heap.size + 1, 4, none⟩ = some (.int .u32 0) := cell_of_obj hz3 rfl
    have r5 : w3.cell? ⟨w.heap.size + 1, 5, none⟩ = some (.int .u32 0) := cell_of_obj hz3 rfl
    have r6 : w3.cell? ⟨w.heap.size + 1, 6, none⟩ = some (.slice none 0 0) := cell_of_obj hz3 rfl
    have r7 : w3.cell? ⟨w.heap.size + 1, 7, none⟩ = some (.slice none 0 0) := cell_of_obj hz3 rfl
    have HH := hid hz3
    clear hz3
    go_wp2_with fail
    obtain ⟨w8, hw8⟩ : ∃ w8, w8 = (((((((w3.setCell ⟨w.heap.size + 1, 0, none⟩ (.int .u32 u.h.id.1)).setCell ⟨w.heap.size + 1, 1, none⟩ (.int .u32 u.h.id.2)).setCell ⟨w.heap.size + 1, 2, none⟩ (.int .u32 u.h.home)).setCell ⟨w.heap.size + 1, 3, none⟩ (.int .u64 u.h.w)).setCell ⟨w.heap.size + 1, 4, none⟩ (.int .u32 u.h.l)).setCell ⟨w.heap.size + 1, 5, none⟩ (.int .u32 u.h.n)).setCell ⟨w.heap.size + 1, 6, none⟩ (.slice u.ra u.h.rs.length u.rc)).setCell ⟨w.heap.size + 1, 7, none⟩ (.slice u.wa u.h.ws.length u.wc) := ⟨_, rfl⟩
    have hO8 : Onl (fun b => b = w.heap.size + 1) w3 w8 := by
      rw [hw8]
      repeat refine Onl.set ?_ (by rfl) _ _
      exact Onl.refl _ _
    have hb8 : Below w.heap.size w w8 := by
      rw [hw8]
      repeat refine Below.setCell ?_ (by exact Nat.le_succ _) _
      exact HB3.out
    have hblk8 : w8.heap[w.heap.size + 1]? = some (.cells #[.int .u32 u.h.id.1, .int .u32 u.h.id.2, .int .u32 u.h.home, .int .u64 u.h.w, .int .u32 u.h.l, .int .u32 u.h.n, .slice u.ra u.h.rs.length u.rc, .slice u.wa u.h.ws.length u.wc] 32) := by
      rw [hw8]
      exact heap_setCell_same _ _ _ _ _ _ (heap_setCell_same _ _ _ _ _ _ (heap_setCell_same _ _ _ _ _ _ (heap_setCell_same _ _ _ _ _ _ (heap_setCell_same _ _ _ _ _ _ (heap_setCell_same _ _ _ _ _ _ (heap_setCell_same _ _ _ _ _ _ (heap_setCell_same _ _ _ _ _ _ HH.out)))))))
    rw [← hw8]
    have t0 : w8.cell? ⟨w.heap.size + 1, 0, none⟩ = some (.int .u32 u.h.id.1) := cell_of_obj hblk8 rfl
    have t1 : w8.cell? ⟨w.heap.size + 1, 1, none⟩ = some (.int .u32 u.h.id.2) := cell_of_obj hblk8 rfl
    have t2 : w8.cell? ⟨w.heap.size + 1, 2, none⟩ = some (.int .u32 u.h.home) := cell_of_obj hblk8 rfl
    have t3 : w8.cell? ⟨w.heap.size + 1, 3, none⟩ = some (.int .u64 u.h.w) := cell_of_obj hblk8 rfl
    have t4 : w8.cell? ⟨w.heap.size + 1, 4, none⟩ = some (.int .u32 u.h.l) := cell_of_obj hblk8 rfl
    have t5 : w8.cell? ⟨w.heap.size + 1, 5, none⟩ = some (.int .u32 u.h.n) := cell_of_obj hblk8 rfl
    have t6 : w8.cell? ⟨w.heap.size + 1, 6, none⟩ = some (.slice u.ra u.h.rs.length u.rc) := cell_of_obj hblk8 rfl
    have t7 : w8.cell? ⟨w.heap.size + 1, 7, none⟩ = some (.slice u.wa u.h.ws.length u.wc) := cell_of_obj hblk8 rfl
    clear hw8 hblk8
    have hfr : u.fresh w.heap.size w8 := HUF.out.low hO8 (fun g e => by omega) (by omega)
    refine bodyPost_ret (v := .tuple #[.agg #[.int .u32 u.h.id.1, .int .u32 u.h.id.2, .int .u32 u.h.home, .int .u64 u.h.w, .int .u32 u.h.l, .int .u32 u.h.n, .slice u.ra u.h.rs.length u.rc, .slice u.wa u.h.ws.length u.wc], .bool ok]) (by simp [results, Tryz.results14, go_sem, t0, t1, t2, t3, t4, t5, t6, t7]) rfl ⟨u, rfl, ?_, ?_, hfr, hfr.ok (by rw [HUH.out]; exact HVO.out.rl) (by rw [HUH.out]; exact HVO.out.wl), hb8⟩
    · intro e
      obtain ⟨h1, h2⟩ := HVV.out.1 e
      exact ⟨by rw [HUH.out]; exact List.mem_map.2 ⟨_, h1, rfl⟩, by rw [HUH.out]; exact h2⟩
    · intro e
      rw [HUH.out, HVV.out.2 e]
end Go.Proofs.YtgplnbdankfobaaGreatDoor.Lk
/- A list that is held one behind the other, in plain words; a scene's cells. -/
namespace Go.Proofs.YtgplnbdankfobaaGreatDoor.Lk
open Go.RowKit Go.Sort Go.Lib
set_option linter.unusedVariables false

abbrev RowL (W : World) (a : Option Addr) (L : List Hv) : Prop := RowC Hv.zero hcs 8 W a L
theorem rowL_at {W w : World} {a : Option Addr} {L : List Hv} (h : RowL W a L) (hb : Below W.heap.size W w) {i : Nat} (hi : i < L.length) : ∃ b off, a = some ⟨b, off, none⟩ ∧ ∀ o u, (hcs (nthH L i))[o]? = some u → w.cell? ⟨b, off + i * 8 + o, none⟩ = some u := by
  obtain ⟨b, off, e, hc⟩ := h i hi
  exact ⟨b, off, e, fun o u ho => cell_later hb (hc o u ho)⟩
/-- one Hold behind the other -/
def setM (L : List Hv) : List Hd := L.foldl (fun M v => holdM M v.h) []
theorem nthH_take {L : List Hv} {k : Nat} (h : k < L.length) : L.take (k + 1) = L.take k ++ [nthH L k] := by
  rw [List.take_succ_eq_append_getElem h]; simp [nthH, h]
theorem setM_snoc (L : List Hv) (v : Hv) : setM (L ++ [v]) = holdM (setM L) v.h := by simp [setM, List.foldl_append]
theorem holdM_ge (M : List Hd) (h : Hd) : M.length ≤ (holdM M h).length := by
  unfold holdM
  split
  · omega
  · split <;> simp
theorem setM_le : ∀ (n : Nat) (L : List Hv), L.length = n → (setM L).length ≤ n
  | 0, L, h => by rw [List.eq_nil_of_length_eq_zero h]; simp [setM]
  | n + 1, L, h => by
    have e : L.take n ++ [nthH L n] = L := by rw [← nthH_take (by omega), ← h, List.take_length]
    have h1 := setM_le n (L.take n) (by simp; omega)
    have h2 := holdM_len (setM (L.take n)) (nthH L n).h
    rw [← setM_snoc, e] at h2
    omega
theorem setM_pos : ∀ (n : Nat) (L : List Hv), L.length = n + 1 → 0 < (setM L).length
  | 0, L, h => by
    match L, h with
    | [v], _ => simp [setM, holdM, confl]
  | n + 1, L, h => by
    have e : L.take (n + 1) ++ [nthH L (n + 1)] = L := by rw [← nthH_take (by omega), ← h, List.take_length]
    have h1 := setM_pos n (L.take (n + 1)) (by simp; omega)
    have h2 := holdM_ge (setM (L.take (n + 1))) (nthH L (n + 1)).h
    rw [← setM_snoc, e] at h2
    omega

/-- a scene's cells -/
abbrev scs (a : Option Addr) (c : Nat) (L : List Hv) (v : Hv) (s : T2) (tw tl tn : Int) : List Value := [.slice a L.length c, .int .u32 v.h.id.1, .int .u32 v.h.id.2, .int .u32 v.h.home, .int .u64 v.h.w, .int .u32 v.h.l, .int .u32 v.h.n, .slice v.ra v.h.rs.length v.rc, .slice v.wa v.h.ws.length v.wc, .string s.1, .string s.2, .int .u64 tw, .int .u32 tl, .int .u32 tn]
theorem setM_sum : ∀ (n : Nat) (L : List Hv), L.length = n → sumW (setM L) ≤ (L.map fun x => x.h.ws.length).sum
  | 0, L, h => by rw [List.eq_nil_of_length_eq_zero h]; simp [setM, sumW]
  | n + 1, L, h => by
    have e : L.take n ++ [nthH L n] = L := by rw [← nthH_take (by omega), ← h, List.take_length]
    have h1 := setM_sum n (L.take n) (by simp; omega)
    have h2 := holdM_sum (setM (L.take n)) (nthH L n).h
    rw [← setM_snoc, e] at h2
    have h3 : (L.map fun x => x.h.ws.length).sum = ((L.take n).map fun x => x.h.ws.length).sum + (nthH L n).h.ws.length := by
      conv => lhs; rw [← e]
      simp
    omega
/-- the ids of those that a predicate picks -/
theorem told_pick {L : List Hd} {D : List Ix} {q : Hd → Bool} (hr : L.Pairwise (fun x y => ltI x.id y.id = true)) (hD : D.Pairwise (fun x y => ltI x y = true)) (hm : ∀ i, i ∈ D ↔ ∃ h ∈ L, h.id = i ∧ q h = true) : D = (L.filter q).map Hd.id := by
  refine rise_uniq hD ?_ (fun i => ?_)
  · rw [List.pairwise_map]; exact hr.filter _
  · rw [hm i]
    constructor
    · rintro ⟨h, hh, rfl, hq⟩; exact List.mem_map.2 ⟨h, List.mem_filter.2 ⟨hh, hq⟩, rfl⟩
    · intro h
      obtain ⟨x, hx, rfl⟩ := List.mem_map.1 h
      obtain ⟨h1, h2⟩ := List.mem_filter.1 hx
      exact ⟨x, h1, rfl, h2⟩
end Go.Proofs.YtgplnbdankfobaaGreatDoor.Lk
/- What is told in order; rows that stay; short lists of held ones. -/
namespace Go.Proofs.YtgplnbdankfobaaGreatDoor.Lk
open Go.RowKit Go.Sort
set_option linter.unusedVariables false

theorem rowH_off {F : Nat → Prop} {B n c : Nat} {w w' : World} {a : Option Addr} {U : List Hv} (h : RowH B w a n c U) (hl : ∀ u ∈ U, u.low B) (ho : Onl F w w') (hF : ∀ b, F b → b < B) : RowH B w' a n c U :=
  ⟨owns_keep h.own fun g hg => ho.block g (h.own.lt g hg).2 (fun e => by have h1 := hF g e; have h2 := (h.own.lt g hg).1; omega), h.len, fun u hu => (h.ok u hu).off ho (fun b hb e => by have h1 := (hl u hu).has hb; have h2 := hF b e; omega)⟩
theorem flat_len (us : List Hv) : (us.flatMap hcs).length = us.length * 8 := by
  induction us with
  | nil => rfl
  | cons u us ih =>
    rw [List.flatMap_cons, List.length_append, ih]
    show 8 + us.length * 8 = (us.length + 1) * 8
    omega
theorem gv_row {B : Nat} {w : World} {us : List Hv} (hB : B ≤ w.heap.size) (hu : ∀ u ∈ us, u.fresh B w) (hf : us.Pairwise Hv.far) (hl : us.length ≤ 1048576) :
    Gv B (w.alloc (.cells (us.flatMap hcs).toArray 32)) (some ⟨w.heap.size, 0, none⟩) us.length us.length us := by
  have hb : Below w.heap.size w (w.alloc (.cells (us.flatMap hcs).toArray 32)) := Below.al (Below.refl _ _) _
  have hh : (w.alloc (.cells (us.flatMap hcs).toArray 32)).heap[w.heap.size]? = some (.cells (us.flatMap hcs).toArray 32) := (MapKept.heap_alloc _ _).1
  refine ⟨cells_own hB ⟨_, hh, by simpa using flat_len us⟩ (flat_len us) (Nat.le_refl _) (by unfold maxLen; omega) (fun j v hj => cell_of_obj hh (by simpa using hj)), rfl, fun u hu' => (hu u hu').later hb, hf⟩
/-- a list that All answered -/
theorem gv_all {B n c : Nat} {w w' : World} {a : Option Addr} {U : List Hv} (ho : OwnH B w (.slice a n c) n U) (hn : U.length = n) (hf : ∀ u ∈ U, u.fresh B w) (hp : U.Pairwise Hv.far) (hb : Below w.heap.size w w') : Gv B w' a n c U :=
  (Gv.mk ho hn hf hp).later hb
/-- how many ids there may be -/
theorem mem_len {L : List Hv} {U : List Hv} {x : Hv} (hM : ∀ h ∈ U.map Hv.h, h ∈ L.map Hv.h) (hL : ∀ y ∈ L, y.h.rs.length ≤ 1048576 ∧ y.h.ws.length ≤ 1048576) (hx : x ∈ U) : x.h.rs.length ≤ 1073741824 ∧ x.h.ws.length ≤ 1073741824 := by
  obtain ⟨y, hy, e⟩ := List.mem_map.1 (hM _ (List.mem_map.2 ⟨x, hx, rfl⟩))
  have := hL y hy
  rw [← e]
  omega
theorem holdM_mem {M : List Hd} {x h : Hd} (hh : h ∈ holdM M x) : h ∈ M ∨ h = x := by
  unfold holdM at hh
  split at hh
  · exact .inl hh
  · split at hh
    · exact .inl hh
    · rcases List.mem_append.1 hh with h1 | h1
      · exact .inl h1
      · exact .inr (List.mem_singleton.1 h1)
theorem setM_mem {L : List Hv} {x : Hd} (hx : x ∈ setM L) : x ∈ L.map Hv.h := by
  have : ∀ (n : Nat) (L : List Hv), L.length = n → ∀ h, h ∈ setM L → h ∈ L.map Hv.h := fun n => by
    induction n with
    | zero => intro L hl h hh; rw [List.eq_nil_of_length_eq_zero hl] at hh; simp [setM] at hh
    | succ n ih =>
      intro L hl h hh
      have e : L.take n ++ [nthH L n] = L := by rw [← nthH_take (by omega), ← hl, List.take_length]
      rw [← e, setM_snoc] at hh
      rw [← e, List.map_append]
      rcases holdM_mem hh with h1 | h1
      · exact List.mem_append.2 (.inl (ih _ (by simp; omega) h h1))
      · exact List.mem_append.2 (.inr (by simp [h1]))
  exact this _ L rfl _ hx
end Go.Proofs.YtgplnbdankfobaaGreatDoor.Lk
