import Derived.Test.YtogjhpknlopajaaXTold
import Derived.Test.YtogjhpknlopajaaXFresh
/- The script. -/
namespace Go.Proofs.Ytogjhpknlopajaa.Lg
open Go.RowKit Go.Sort Go.Shelf Go.Lib Lk
set_option linter.unusedVariables false

/-- a step of the script -/
structure Oq where
  κ : Int
  ι : Int
  e : En
  ap : Option Addr
  n : Nat
  c : Nat
  ns : List Int
def Oq.zero : Oq := ⟨0, 0, En.zero, none, 0, 0, []⟩
abbrev ocs (o : Oq) : List Value := [.int .i64 o.κ, .int .i64 o.ι, .int .u32 o.e.id.1, .int .u32 o.e.id.2, .int .u32 o.e.home, .int .i64 o.e.oc, .int .u64 o.e.w, .int .u32 o.e.l, .int .u32 o.e.n, .slice o.ap o.n o.c]
structure Oq.ok (w : World) (o : Oq) : Prop where
  row : RowI w o.ap o.ns
  len : o.ns.length = o.n
  le : o.n + 1 ≤ 17592186044416
theorem Oq.ok.later {w w' : World} {o : Oq} (h : o.ok w) (hb : Below w.heap.size w w') : o.ok w' := ⟨RowC.later h.row hb, h.len, h.le⟩
abbrev RowO (w : World) (a : Option Addr) (os : List Oq) : Prop := RowC Oq.zero ocs 10 w a os
def nthO (os : List Oq) (i : Nat) : Oq := (os[i]?).getD Oq.zero
theorem nthO_mem {os : List Oq} {i : Nat} (h : i < os.length) : nthO os i ∈ os := by
  have e : nthO os i = os[i] := by simp [nthO, h]
  rw [e]; exact List.getElem_mem _
theorem Part.bk {B : Nat} {w : World} {bk : Nat} {p q : Nat → Nat} (S : Part B 3 w bk p q) (hB : B ≤ w.heap.size) : Bk B w bk (fun i => ⟨p i, none, []⟩) (fun i => ⟨q i, none, 0, 0, []⟩) := by
  refine ⟨S.st, hB, S.lo, fun i hi b hb => ?_, fun i hi b hb => ?_⟩
  · rcases hb with e | e
    · have e : b = p i := e
      rw [e]; exact S.lp i hi
    · cases e
  · rcases hb with e | e
    · have e : b = q i := e
      rw [e]; exact S.lq i hi
    · cases e
set_option maxRecDepth 100000 in
set_option maxHeartbeats 4000000 in
theorem plays_is {w : World} {a : Option Addr} {m c : Nat} {os : List Oq} {kind : Int} (hrow : RowO w a os) (hn : os.length = m) (hl : m ≤ 3518437208881) (hok : ∀ o ∈ os, o.ok w) :
    Calls Try.prog 27 #[.slice a m c, .int .i64 kind] w fun r w' => r = .returned (.bool true) ∧ Below w.heap.size w w' := by
  have HR := hid hrow
  have HLN := hid hn
  have HOK := hid hok
  have FR := hid (fresh_is w)
  clear hrow hn hok
  go_enter Try.func27, Try.ntmps27
  go_wp2_with fail
  refine FR.out.mono ?_
  rintro r w1 ⟨p, q, rfl, HP, HB1⟩
  have HK : Hid (Bk w.heap.size w1 w.heap.size (fun i => ⟨p i, none, []⟩) (fun i => ⟨q i, none, 0, 0, []⟩)) := HP.out.bk HB1.out.size
  clear FR
  go_wp2_with fail
  go_loopg [7] m (fun g s7 wr => ∃ (k : Nat) (P : Nat → Ld) (R : Nat → Rd), k ≤ m ∧ g = m - k ∧ s7 = .int .i64 k ∧ Hid (Bk w.heap.size wr w.heap.size P R) ∧ Hid (lenP P ≤ k) ∧ Hid (Below w.heap.size w wr))
  case atStart => exact ⟨0, _, _, by omega, by omega, rfl, HK, hid (by simp [lenP]), HB1⟩
  case round =>
    obtain ⟨k, P, R, hk, rfl, rfl, HBK, HLP, HB⟩ := hrel
    by_cases hlt : k < m
    · obtain ⟨b, off, eb, hc⟩ := RowC.later HR.out HB.out k (by rw [HLN.out]; exact hlt)
      have hk1 : (k : Int) < (m : Int) := by omega
      obtain ⟨o, hoe⟩ : ∃ o, o = nthO os k := ⟨_, rfl⟩
      have hoe' : (os[k]?).getD Oq.zero = o := hoe.symm
      rw [hoe'] at hc
      have hmem : o ∈ os := by rw [hoe]; exact nthO_mem (by rw [HLN.out]; exact hlt)
      subst eb
      have g0 : wr.cell? ⟨b, off + k * 10, none⟩ = some (.int .i64 o.κ) := by have := hc 0 _ rfl; simpa using this
      have g1 : wr.cell? ⟨b, off + k * 10 + 1, none⟩ = some (.int .i64 o.ι) := by have := hc 1 _ rfl; simpa using this
      have g2 : wr.cell? ⟨b, off + k * 10 + 2, none⟩ = some (.int .u32 o.e.id.1) := by have := hc 2 _ rfl; simpa using this
      have g3 : wr.cell? ⟨b, off + k * 10 + 3, none⟩ = some (.int .u32 o.e.id.2) := by have := hc 3 _ rfl; simpa using this
      have g4 : wr.cell? ⟨b, off + k * 10 + 4, none⟩ = some (.int .u32 o.e.home) := by have := hc 4 _ rfl; simpa using this
      have g5 : wr.cell? ⟨b, off + k * 10 + 5, none⟩ = some (.int .i64 o.e.oc) := by have := hc 5 _ rfl; simpa using this
      have g6 : wr.cell? ⟨b, off + k * 10 + 6, none⟩ = some (.int .u64 o.e.w) := by have := hc 6 _ rfl; simpa using this
      have g7 : wr.cell? ⟨b, off + k * 10 + 7, none⟩ = some (.int .u32 o.e.l) := by have := hc 7 _ rfl; simpa using this
      have g8 : wr.cell? ⟨b, off + k * 10 + 8, none⟩ = some (.int .u32 o.e.n) := by have := hc 8 _ rfl; simpa using this
      have g9 : wr.cell? ⟨b, off + k * 10 + 9, none⟩ = some (.slice o.ap o.n o.c) := by have := hc 9 _ rfl; simpa using this
      obtain ⟨wx, hwx⟩ : ∃ wx, wx = wr.alloc (.cells #[.int .i64 o.κ, .int .i64 o.ι, .int .u32 o.e.id.1, .int .u32 o.e.id.2, .int .u32 o.e.home, .int .i64 o.e.oc, .int .u64 o.e.w, .int .u32 o.e.l, .int .u32 o.e.n, .slice o.ap o.n o.c] 95) := ⟨_, rfl⟩
      have HX : Hid (Below wr.heap.size wr wx) := by rw [hwx]; exact Below.al (Below.refl _ _) _
      have HWX : Hid (Below w.heap.size w wx) := Below.on HB.out HX.out
      have hoo := (HOK.out o hmem).later HWX.out
      have TOLD := hid (told_is (κ := o.κ) (ι := o.ι) (e := o.e) (c := o.c) (HBK.out.later HX.out) hoo.row hoo.len hoo.le (by have := HLP.out; omega))
      clear hc hoe hoe' hmem hoo
      go_wp2_with fail
      rw [← hwx]
      clear hwx g0 g1 g2 g3 g4 g5 g6 g7 g8 g9
      refine TOLD.out.mono ?_
      rintro r w2 ⟨rfl, P', R', HBK2, HLP2, HB2⟩
      have HLP3 : Hid (lenP P' ≤ k + 1) := hid (by have := HLP.out; have := HLP2.out; omega)
      have HB3 : Hid (Below w.heap.size w w2) := HWX.out.trans HB2.out
      clear TOLD
      go_wp2_with fail
      go_roundg (m - (k + 1))
      case measure => omega
      case rel => exact ⟨k + 1, P', R', by omega, rfl, by go_num, HBK2, HLP3, HB3⟩
    · obtain rfl : k = m := by omega
      go_wp2_with fail
      go_ret
      exact ⟨by simp, HB.out⟩
end Go.Proofs.Ytogjhpknlopajaa.Lg
