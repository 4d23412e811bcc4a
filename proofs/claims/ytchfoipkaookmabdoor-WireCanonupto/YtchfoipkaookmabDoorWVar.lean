import Derived.Test.YtchfoipkaookmabDoorWCopy
import Derived.Test.YtchfoipkaookmabDoorWRaw
import Derived.Test.YtchfoipkaookmabDoorWBits
import Derived.Deep.AppendLies
namespace Go.Proofs.YtchfoipkaookmabDoor
open Go.RowKit Go.Sort
set_option linter.unusedVariables false

theorem info_split {P : Program} {t : TypeId} {z : Value} {s n : Nat} (h : (P.info? t).map (fun i => (i.zero, i.size, i.bytes)) = some (some z, s, n)) :
    ∃ i, P.info? t = some i ∧ i.zero = some z ∧ i.size = s ∧ i.bytes = n := by
  obtain ⟨i0, hi, hz⟩ := Option.map_eq_some_iff.1 h
  injection hz with hz0 hz
  injection hz with hz1 hz2
  exact ⟨i0, hi, hz0, hz1, hz2⟩
theorem below_grown {w wa w1 : World} {row : Option Nat} (h : Below w.heap.size w wa) (k : wa.grownBy w1 row) (hr : ∀ g, row = some g → w.heap.size ≤ g) : Below w.heap.size w w1 :=
  ⟨k.os.trans h.os, k.tape.trans h.tape, k.output.trans h.output, Nat.le_trans h.size k.size, fun i hi => (k.block i (Nat.lt_of_lt_of_le hi h.size) (fun e => by have := hr i e.symm; omega)).trans (h.block i hi)⟩
theorem owns_al {w w' : World} {B size n : Nat} {e : TypeId} {v : Value} {xs : List Value} (h : w.ownsRow B e size v n xs) (hb : Below w.heap.size w w') : w'.ownsRow B e size v n xs := by
  obtain ⟨h1, h2 | ⟨g, cap, cur, hv, hg, hh, r⟩⟩ := h
  · exact ⟨h1, .inl h2⟩
  · refine ⟨h1, .inr ⟨g, cap, cur, hv, hg, ?_, r⟩⟩
    rw [hb.block g (by
      rcases Nat.lt_or_ge g w.heap.size with h | h
      · exact h
      · rw [Array.getElem?_eq_none h] at hh; cases hh)]
    exact hh
theorem owns_cells {w : World} {B n g cap : Nat} {e : TypeId} {xs : List Value} (h : w.ownsRow B e 1 (.slice (some ⟨g, 0, none⟩) n cap) n xs) : ∀ i v, xs[i]? = some v → w.cell? ⟨g, i, none⟩ = some v := by
  intro i v hv
  obtain ⟨h1, h2 | ⟨g', cap', cur, hs, hg, hh, hn, hc, hsz, hx⟩⟩ := h
  · cases h2.1
  · injection hs with e1 e2 e3
    injection e1 with e1
    injection e1 with e1
    subst e1
    have hi : i < xs.length := by
      rcases Nat.lt_or_ge i xs.length with h | h
      · exact h
      · rw [List.getElem?_eq_none h] at hv; cases hv
    rw [← hx, List.getElem?_take] at hv
    split at hv
    · simp [World.cell?, hh]
      simpa using hv
    · cases hv

/-- bytes gathered in a row of our own -/
structure GrowAt (w wr : World) (g cap : Nat) (pre : List Nat) : Prop where
  below : Below w.heap.size w wr
  own : wr.ownsRow w.heap.size 5 1 (.slice (some ⟨g, 0, none⟩) pre.length cap) pre.length (vals pre)

set_option maxHeartbeats 1000000 in
theorem var_any {w : World} {A : Nat → Prop} {b o : Nat} {bs : List Nat} {v : Nat} (h : EncAt w A b o bs) (hv : v < 18446744073709551616) (hA : ∀ k, A k → k < w.heap.size) (hl : bs.length + 10 ≤ 9223372036854775807) :
    Calls Tryd.prog 19 #[.pointer (some ⟨b, o, none⟩), .int .u64 (v : Int)] w fun e w' => e = .returned (.tuple #[]) ∧ Cel b o 2 w w' ∧ EncAt w' A b o (bs ++ vb v) := by
  obtain ⟨i0, hi, hz0, hz1, hz2⟩ := info_split Tryd.infoU8
  have H := hid h
  have HA := hid hA
  clear h hA
  obtain ⟨w1, hmk, hown, hgr⟩ := run_make_own (P := Tryd.prog) w w.heap.size 63 5 i0 (.int .u8 0) 1 Tryd.underlying63 hi hz0 hz1 .i64 .i64 10 (by rw [hz2]; omega) (by unfold maxLen; omega) (Nat.le_refl _)
  have R0 : GrowAt w w1 w.heap.size 10 [] := ⟨below_grown (Below.refl _ _) hgr (fun g e => by cases e), hown⟩
  replace hmk : (Instr.makeSlice 63 (.int .i64 0) (.int .i64 10)).run Tryd.prog w = .ok (.slice (some ⟨w.heap.size, 0, none⟩) 0 10) w1 := hmk
  clear hown hgr
  have HR := hid R0
  clear R0
  go_enter Tryd.func19, Tryd.ntmps19
  go_wp2_with fail
  go_loopg [1, 4] (vb v).length (fun n s1 s4 wr => ∃ (x g cap : Nat) (pre : List Nat), n = (vb x).length ∧ s1 = .int .u64 (x : Int) ∧ s4 = .slice (some ⟨g, 0, none⟩) pre.length cap ∧ Hid (vb v = pre ++ vb x ∧ x < 18446744073709551616 ∧ GrowAt w wr g cap pre))
  case atStart => exact ⟨v, w.heap.size, 10, [], rfl, rfl, rfl, rfl, hv, HR.out⟩
  case round =>
    obtain ⟨x, g, cap, pre, rfl, rfl, rfl, HH⟩ := hrel
    clear hmk HR
    obtain ⟨hpre, hx, hG⟩ := HH.out
    by_cases hlt : 128 ≤ x
    · have hvb : vb x = (x % 128 + 128) :: vb (x / 128) := vb_great (by omega)
      have hor := or128 (x % 256) (by omega)
      have hor2 : ((x % 256 % 128 + 128 : Nat) : Int) = ((x % 128 + 128 : Nat) : Int) := by congr 1; omega
      rw [hor2] at hor
      have hwr : IntKind.u8.wrap (x : Int) = ((x % 256 : Nat) : Int) := by simp [IntKind.wrap, IntKind.bits, IntKind.signed]
      obtain ⟨y, hy⟩ : ∃ y : Nat, y = x % 128 + 128 := ⟨_, rfl⟩
      rw [← hy] at hor hvb
      have hy' : y < 256 := by omega
      obtain ⟨z, hz⟩ : ∃ z : Nat, z = x % 256 := ⟨_, rfl⟩
      rw [← hz] at hor hwr
      have HSH : Hid ((x : Int) / 128 = ((x / 128 : Nat) : Int)) := (by omega : (x : Int) / 128 = ((x / 128 : Nat) : Int))
      have HV := hid hvb
      have HG := hid hG
      have HP := hid hpre
      have HX := hid hx
      have hn : pre.length + 1 ≤ 10 := by rw [hvb] at hpre; have := congrArg List.length hpre; simp at this; have := vb_len v 0 (by decide) (by unfold lim; omega); omega
      obtain ⟨wa, hwa⟩ : ∃ wa, wa = wr.alloc (.cells #[.int .u8 (y : Int)] 5) := ⟨_, rfl⟩
      have hba : Below wr.heap.size wr wa := by rw [hwa]; exact Below.al (Below.refl _ _) _
      have n0 : wa.cell? ⟨wr.heap.size, 0, none⟩ = some (.int .u8 (y : Int)) := by rw [hwa]; simp [go_sem]
      have Hwa := hid hwa
      have hsz : w.heap.size ≤ wa.heap.size := Nat.le_trans hG.below.size hba.size
      have hge : decide ((128 : Int) ≤ (x : Int)) = true := by simp; omega
      have HL := hid hlt
      clear hvb hG hpre HH hy hz hwa hor2 hlt hx
      go_wp2_with (at_builtin; rw [← Hwa.out]; refine wpList_append_lies _ rfl _ _ 63 rfl w.heap.size 5 i0 (.int .u8 0) 1 1 Tryd.underlying63 hi hz0 hz1 hz2 rfl (by decide) _ pre.length (vals pre) rfl (owns_al HG.out.own hba) ⟨wr.heap.size, 0, none⟩ 1 1 [.int .u8 (y : Int)] rfl rfl ?c1 ?c2 (by decide) ?c3 ?c4 ?c5 wa.heap.size rfl ?_)
      case c1 =>
        intro j u hj
        match j, hj with
        | 0, hj => simp at hj; subst hj; simpa [Addr.add] using n0
      case c2 => intro u hu; simp at hu; subst hu; rfl
      case c3 => unfold maxLen; omega
      case c4 => omega
      case c5 => exact hsz
      · intro g' cap' w2 hown hgrow hat hgl
        have hG' : GrowAt w w2 g' cap' (pre ++ [y]) := by
          refine ⟨below_grown (Below.on HG.out.below hba) hgrow (fun q e => ?_), ?_⟩
          · injection e with e; subst e; exact (HG.out.own.lt g rfl).1
          · rw [List.length_append]; simpa [vals] using hown
        have HG' := hid hG'
        clear hown hgrow hat hgl hG'
        go_wp2_with fail
        go_roundg (vb (x / 128)).length
        case measure => rw [HV.out]; simp
        case rel =>
          refine ⟨x / 128, g', cap', pre ++ [y], rfl, by rw [HSH.out], by simp, ?_, by have := HX.out; omega, HG'.out⟩
          rw [HP.out, HV.out]; simp
    · have hvb : vb x = [x] := vb_small (by omega)
      have hwr : IntKind.u8.wrap (x : Int) = (x : Int) := by simp [IntKind.wrap, IntKind.bits, IntKind.signed]; omega
      have HG := hid hG
      have HP := hid hpre
      have hn : pre.length + 1 ≤ 10 := by rw [hvb] at hpre; have := congrArg List.length hpre; simp at this; have := vb_len v 0 (by decide) (by unfold lim; omega); omega
      obtain ⟨wa, hwa⟩ : ∃ wa, wa = wr.alloc (.cells #[.int .u8 (x : Int)] 5) := ⟨_, rfl⟩
      have hba : Below wr.heap.size wr wa := by rw [hwa]; exact Below.al (Below.refl _ _) _
      have n0 : wa.cell? ⟨wr.heap.size, 0, none⟩ = some (.int .u8 (x : Int)) := by rw [hwa]; simp [go_sem]
      have Hwa := hid hwa
      have hsz : w.heap.size ≤ wa.heap.size := Nat.le_trans hG.below.size hba.size
      have hge : decide ((128 : Int) ≤ (x : Int)) = false := by simp; omega
      have HX : Hid (x < 128) := (by omega : x < 128)
      have HV := hid hvb
      clear hvb hG hpre HH hwa hlt hx
      go_wp2_with (at_builtin; rw [← Hwa.out]; refine wpList_append_lies _ rfl _ _ 63 rfl w.heap.size 5 i0 (.int .u8 0) 1 1 Tryd.underlying63 hi hz0 hz1 hz2 rfl (by decide) _ pre.length (vals pre) rfl (owns_al HG.out.own hba) ⟨wr.heap.size, 0, none⟩ 1 1 [.int .u8 (x : Int)] rfl rfl ?c1 ?c2 (by decide) ?c3 ?c4 ?c5 wa.heap.size rfl ?_)
      case c1 =>
        intro j u hj
        match j, hj with
        | 0, hj => simp at hj; subst hj; simpa [Addr.add] using n0
      case c2 => intro u hu; simp at hu; subst hu; rfl
      case c3 => unfold maxLen; omega
      case c4 => omega
      case c5 => exact hsz
      · intro g' cap' w2 hown hgrow hat hgl
        have hG' : GrowAt w w2 g' cap' (pre ++ [x]) := by
          refine ⟨below_grown (Below.on HG.out.below hba) hgrow (fun q e => ?_), ?_⟩
          · injection e with e; subst e; exact (HG.out.own.lt g rfl).1
          · rw [List.length_append]; simpa [vals] using hown
        have HP' : Hid (vb v = pre ++ [x]) := (by show vb v = pre ++ [x]; rw [HP.out, HV.out])
        have hcv := run_convert_bytes_arg (P := Tryd.prog) w2 63 5 Tryd.underlying63 Tryd.underlying5 g' 0 (pre.length + 1) cap' ((vb v).map Int.ofNat) (by rw [HP'.out]; simp) (fun i hi => by
          rw [Nat.zero_add]
          refine owns_cells hG'.own i _ ?_
          have : i < (pre ++ [x]).length := by simpa using hi
          rw [HP'.out]
          simp only [vals, List.getElem?_map, List.getD]
          rw [List.getElem?_eq_getElem this]
          rfl) 9 Tryd.underlying9
        rw [strOfNums_nats] at hcv
        have HE : Hid (EncAt w2 A b o bs) := H.out.later hG'.below
        have HAA : Hid (∀ k, A k → k < w2.heap.size) := fun k hk => Nat.lt_of_lt_of_le (HA.out k hk) hG'.below.size
        have HB := hid hG'.below
        have HL : Hid (bs.length + (vb v).length ≤ 9223372036854775807) := (by have := vb_len v 0 (by decide) (by unfold lim; omega); show bs.length + (vb v).length ≤ 9223372036854775807; omega)
        clear hown hgrow hat hgl hG' HG HP HP' HV H HA hba n0 Hwa
        go_wp2_with (go_at_call 25; refine (raw_any HE.out (vb_byte v) HAA.out HL.out).mono ?_; rintro e w3 ⟨rfl, hc3, he3⟩; have HC := hid hc3; have HE3 := hid he3; clear hc3 he3)
        go_end0
        exact ⟨rfl, (Cel.of_below HB.out).trans HC.out, HE3.out⟩

end Go.Proofs.YtchfoipkaookmabDoor
