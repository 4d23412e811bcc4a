import Derived.Test.YthenfioddnkjbaaGreatDoorRxLine
import Derived.Test.YthenfioddnkjbaaGreatDoorSnRefW
import Derived.Test.YthenfioddnkjbaaGreatDoorRdRead
/- The document's Parse. -/
namespace Go.Proofs.YthenfioddnkjbaaGreatDoor.Rt
open Go.RowKit Go.Sort
set_option linter.unusedVariables false

def Sd.cf (s : Sd) (a : Option Addr) (c : Nat) : Cf := ⟨s.v 0, s.v 1, a, c, s.sp.map ofNats, s.v 2, s.v 3, s.v 4⟩
/-- within the limits that Parse itself asks for -/
def Sd.in4 (s : Sd) : Bool := wiB (s.v 0) 1 6 && wiB (s.v 1) 1 6 && wiB (s.v 2) 0 1048576 && wiB (s.v 3) 0 16
/-- Parse's number -/
def docA : Option Sd → Nat
  | .none => 120
  | some s => if s.once then (if s.ov = false ∧ s.in4 = true ∧ (s.cf none 0).okB = true then 0 else 1) else 120
def RParP (wg : World) (o : Option Sd) (e : Ending) (w' : World) : Prop := Below wg.heap.size wg w' ∧ ((docA o = 0 ∧ ∃ s a c, o = some s ∧ e = .returned (.tuple #[(s.cf a c).val, .int .i64 0]) ∧ (∀ g o, a = some ⟨g, o, none⟩ → wg.heap.size ≤ g) ∧ RowS w' a (s.sp.map ofNats)) ∨ (docA o ≠ 0 ∧ e = .returned (.tuple #[zeroC, .int .i64 (docA o : Nat)])))
theorem rwithin_nat {n l m : Nat} (hn : n < 18446744073709551616) (hl : l ≤ 1048576) (hm : m ≤ 1048576) (w : World) :
    Calls Tryz.prog 61 #[.int .u64 (n : Int), .int .i64 (l : Int), .int .i64 (m : Int)] w fun e w' => e = .returned (.bool (wiB (n : Int) l m)) ∧ w' = w := by
  have e1 : IntKind.u64.wrap (l : Int) = (l : Int) := by rw [IntKind.wrap_u64]; omega
  have e2 : IntKind.u64.wrap (m : Int) = (m : Int) := by rw [IntKind.wrap_u64]; omega
  have hu : wiB (n : Int) l m = (decide (l ≤ n) && decide (n ≤ m)) := by
    unfold wiB
    congr 1
    · rw [decide_eq_decide]; omega
    · rw [decide_eq_decide]; omega
  rw [hu]
  clear hu
  cases h1 : decide (l ≤ n)
  all_goals
    generalize hd : decide (n ≤ m) = b
    go_enter Tryz.func61, Tryz.ntmps61
    go_wp2_with fail
    go_ret
    exact ⟨rfl, rfl⟩
theorem rwithin_is {n : Nat} {l m : Int} (hn : n < 18446744073709551616) (hl : 0 ≤ l ∧ l ≤ 1048576) (hm : 0 ≤ m ∧ m ≤ 1048576) (w : World) :
    Calls Tryz.prog 61 #[.int .u64 (n : Int), .int .i64 l, .int .i64 m] w fun e w' => e = .returned (.bool (wiB (n : Int) l m)) ∧ w' = w := by
  obtain ⟨l', rfl⟩ := Int.eq_ofNat_of_zero_le hl.1
  obtain ⟨m', rfl⟩ := Int.eq_ofNat_of_zero_le hm.1
  exact rwithin_nat hn (by omega) (by omega) w
theorem w64 {n : Nat} (h : n ≤ 1048576) : wrap64 (n : Int) = (n : Int) := by
  unfold wrap64; omega
theorem docA_some {s : Sd} (h : s.once = true) : docA (some s) = if s.ov = false ∧ s.in4 = true ∧ (s.cf none 0).okB = true then 0 else 1 := by
  show (if s.once = true then _ else 120) = _
  rw [h]; rfl
theorem cf_ok (s : Sd) (a : Option Addr) (c : Nat) : (s.cf a c).okB = (s.cf none 0).okB := rfl
set_option maxRecDepth 100000 in
set_option maxHeartbeats 4000000 in
theorem rparse_long {w : World} {t : ByteArray} (ht : 600 < t.size) (hb : t.size ≤ 9223372036854775807) :
    Calls Tryz.prog 14 #[.string t] w (RParP w none) := by
  have h6 : (600 : Int) < (t.size : Int) := by omega
  go_enter Tryz.func14, Tryz.ntmps14
  go_wp2_with fail
  refine bodyPost_ret (v := .tuple #[zeroC, .int .i64 120]) (by simp [results, Tryz.results14, go_sem, zeroC]) rfl ⟨by (repeat (first | with_reducible exact Below.refl _ _ | with_reducible assumption | with_reducible refine Below.drew ?_ | with_reducible refine Below.al ?_ _ | with_reducible refine Below.setCell ?_ (by first | exact Nat.le_refl _ | (simp; omega) | (simp; done)) _ | with_reducible refine Below.on ?_ (by assumption))), .inr ⟨by decide, rfl⟩⟩
theorem lns_le : ∀ (l : List UInt8), ∀ x ∈ lns l, x.length ≤ l.length
  | [], x, h => by simp [lns] at h; subst h; exact Nat.le_refl _
  | b :: l, x, h => by
    have ih := lns_le l
    rw [lns] at h
    split at h
    · rcases List.mem_cons.1 h with rfl | h
      · simp
      · have := ih x h; simp; omega
    · split at h
      · rename_i y r e
        rw [e] at ih
        rcases List.mem_cons.1 h with rfl | h
        · have := ih y (by simp); simp; omega
        · have := ih x (by simp [h]); simp; omega
      · simp at h; subst h; simp
theorem own_rows {w : World} {B : Nat} {a : Option Addr} {c : Nat} {A : List ByteArray} (h : w.ownsRow B 9 1 (.slice a A.length c) A.length (flatS A)) (k : Nat) (hk : k < A.length) : ∃ g, a = some ⟨g, 0, none⟩ ∧ B ≤ g ∧ w.cell? ⟨g, k, none⟩ = some (.string (nthB A k)) := by
  have h' := h
  obtain ⟨_, ⟨e, h0⟩ | ⟨g, cap, cur, e, _⟩⟩ := h
  · omega
  · injection e with e1 e2 e3
    subst e1
    refine ⟨g, rfl, (World.ownsRow.lt h' g rfl).1, ?_⟩
    rw [World.ownsRow.cellAt h' k (by omega)]
    simp [nthB, flatS, hk]
theorem line_short {A : List ByteArray} {l : List UInt8} (hA : A.map (·.data.toList) = lns l) {k : Nat} (hk : k < A.length) : (nthB A k).size ≤ l.length := by
  have e : nthB A k = A[k] := by simp [nthB, hk]
  rw [Lib.size_eq]
  refine lns_le l _ ?_
  rw [← hA, e]
  exact List.mem_map.2 ⟨A[k], List.getElem_mem hk, rfl⟩
/-- behind k lines -/
structure Lr (w w1 wr : World) (p k : Nat) (A : List ByteArray) (o : Option Sd) (s : Sd) (v : Value) : Prop where
  st : StS w w1 wr p s v
  eq : docR ((A.drop k).map (·.data.toList)) s = o
  sp : s.sp.length ≤ k
  t : ∀ j, s.t j ≤ k
theorem Lr.zero {w w1 wr : World} {p : Nat} {A : List ByteArray} {v : Value} (h : StS w w1 wr p Sd.none v) : Lr w w1 wr p 0 A (docR (A.map (·.data.toList)) Sd.none) Sd.none v := ⟨h, rfl, Nat.le_refl _, fun _ => Nat.le_refl _⟩
theorem drop_nth {A : List ByteArray} {k : Nat} (hk : k < A.length) : (A.drop k).map (·.data.toList) = (nthB A k).data.toList :: (A.drop (k + 1)).map (·.data.toList) := by
  rw [List.drop_eq_getElem_cons hk]
  have e : nthB A k = A[k] := by simp [nthB, hk]
  rw [List.map_cons, e]
theorem docL_up {s s' : Sd} {l : List UInt8} (h : docL s l = some s') : s'.sp.length ≤ s.sp.length + 1 ∧ ∀ j, s'.t j ≤ s.t j + 1 := by
  unfold docL at h
  split at h
  · injection h with h; subst h; exact ⟨Nat.le_succ _, fun j => Nat.le_succ _⟩
  · split at h
    · cases hn : num (tailB l) with
      | none => rw [hn] at h; cases h
      | some o =>
        rw [hn] at h
        cases o with
        | none => injection h with h; subst h; refine ⟨Nat.le_succ _, fun j => ?_⟩; simp only [Sd.num]; split <;> omega
        | some n => injection h with h; subst h; refine ⟨Nat.le_succ _, fun j => ?_⟩; simp only [Sd.num]; split <;> omega
    · split at h
      · cases hu : unword ((tailB l).map UInt8.toNat) with
        | none => rw [hu] at h; cases h
        | some x => rw [hu] at h; injection h with h; subst h; exact ⟨by simp [Sd.split], fun j => Nat.le_succ _⟩
      · cases h
theorem Lr.next {w w1 wr wr' : World} {p k : Nat} {A : List ByteArray} {o : Option Sd} {s s' : Sd} {v v' : Value} (h : Lr w w1 wr p k A o s v) (hk : k < A.length) (hd : docL s (nthB A k).data.toList = some s') (hs : StS w w1 wr' p s' v') : Lr w w1 wr' p (k + 1) A o s' v' := by
  have h1 := h.eq
  rw [drop_nth hk, docR, hd] at h1
  have h2 := docL_up hd
  exact ⟨hs, h1, by have := h.sp; omega, fun j => by have := h2.2 j; have := h.t j; omega⟩
theorem Lr.bad {w w1 wr : World} {p k : Nat} {A : List ByteArray} {o : Option Sd} {s : Sd} {v : Value} (h : Lr w w1 wr p k A o s v) (hk : k < A.length) (hd : docL s (nthB A k).data.toList = none) : o = none := by
  have h1 := h.eq
  rw [drop_nth hk, docR, hd] at h1
  exact h1.symm
theorem Lr.end {w w1 wr : World} {p : Nat} {A : List ByteArray} {o : Option Sd} {s : Sd} {v : Value} (h : Lr w w1 wr p A.length A o s v) : o = some s := by
  have h1 := h.eq
  rw [List.drop_length] at h1
  exact h1.symm
set_option maxRecDepth 100000 in
set_option maxHeartbeats 4000000 in
theorem rparse_is {w : World} {t : ByteArray} {l : List UInt8} (hl : l = t.data.toList) (ht : t.size ≤ 600) :
    Calls Tryz.prog 14 #[.string t] w (RParP w (docR (lns l) Sd.none)) := by
  have h6 : ¬ (600 : Int) < (t.size : Int) := by omega
  obtain ⟨wd, hwd⟩ : ∃ wd, wd = (w.alloc (.cells #[.int .i64 0, .int .i64 0, .slice none 0 0, .int .i64 0, .int .i64 0, .int .u64 0] 26)).alloc (.cells #[.int .i64 0, .int .i64 0, .int .i64 0, .int .i64 0, .int .i64 0, .int .u64 0, .int .u64 0, .int .u64 0, .int .u64 0, .int .u64 0, .bool false, .slice none 0 0] 105) := ⟨_, rfl⟩
  have hsd : wd.heap.size = w.heap.size + 1 + 1 := by rw [hwd]; simp
  have hbd : Below w.heap.size w wd := by rw [hwd]; (repeat (first | with_reducible exact Below.refl _ _ | with_reducible assumption | with_reducible refine Below.drew ?_ | with_reducible refine Below.al ?_ _ | with_reducible refine Below.setCell ?_ (by first | exact Nat.le_refl _ | (simp; omega) | (simp; done)) _ | with_reducible refine Below.on ?_ (by assumption)))
  have hS0 : StS w wd wd (w.heap.size + 1) Sd.none (.slice none 0 0) := by
    refine ⟨⟨fun k hk => ?_, fun k hk => ?_, ?_, ?_⟩, fun o => ?_, World.ownsRow_nil _ _ _ _, Onl.refl _ _, hbd, fun k => by simp [Sd.none], by omega, by omega⟩
    · rw [hwd]
      match k, hk with
      | 0, _ | 1, _ | 2, _ | 3, _ | 4, _ => simp [go_sem, Sd.none]
    · rw [hwd]
      match k, hk with
      | 0, _ | 1, _ | 2, _ | 3, _ | 4, _ => simp [go_sem, Sd.none]
    · rw [hwd]; simp [go_sem, Sd.none]
    · rw [hwd]; simp [go_sem]
    · rw [hwd]; simp [go_sem]
  have HZ : Hid (BoxC wd w.heap.size ⟨0, 0, none, 0, [], 0, 0, 0⟩ ∧ ∀ o, wd.frozen? ⟨w.heap.size, o, none⟩ = false) := hid (by
    rw [hwd]
    refine ⟨?_, fun o => by simp [go_sem]⟩
    constructor <;> simp [go_sem])
  have HLN := hid (rlines_is hl (by omega) wd)
  have HL := hid hl
  have HS0 := hid hS0
  have HSD := hid hsd
  clear hl hS0 hsd hbd
  go_enter Tryz.func14, Tryz.ntmps14
  go_wp2_with fail
  rw [← hwd]
  clear hwd
  refine HLN.out.mono ?_
  rintro e w1 ⟨⟨a, c, A, rfl, hA, hAl, hrow⟩, hb1⟩
  have HA : Hid (A.map (·.data.toList) = lns l) := hA
  have HRW : Hid (∀ k, k < A.length → ∃ g, a = some ⟨g, 0, none⟩ ∧ wd.heap.size ≤ g ∧ w1.cell? ⟨g, k, none⟩ = some (.string (nthB A k)) ∧ (nthB A k).size ≤ 1000) := hid (fun k hk => by
    obtain ⟨g, h1, h2, h3⟩ := own_rows hrow k hk
    have h4 := line_short HA.out hk
    have h5 : t.size = l.length := by rw [HL.out, Lib.size_eq]
    exact ⟨g, h1, h2, h3, by omega⟩)
  have hs1 : StS w w1 w1 (w.heap.size + 1) Sd.none (.slice none 0 0) := by
    have h1 := HS0.out.later hb1
    exact ⟨h1.box, h1.loose, World.ownsRow_nil _ _ _ _, Onl.refl _ _, h1.bel, h1.num, h1.ltw, h1.gp⟩
  have HS1 := hid hs1
  have HZ1 : Hid (BoxC w1 w.heap.size ⟨0, 0, none, 0, [], 0, 0, 0⟩ ∧ ∀ o, w1.frozen? ⟨w.heap.size, o, none⟩ = false) := hid ⟨HZ.out.1.later hb1, fun o => (hb1.frozen (p := ⟨w.heap.size, o, none⟩) (by show w.heap.size < wd.heap.size; rw [HSD.out]; omega)).trans (HZ.out.2 o)⟩
  have HC : Hid (∀ wz, Onl (fun k => k = w.heap.size + 1) w1 wz → BoxC wz w.heap.size ⟨0, 0, none, 0, [], 0, 0, 0⟩ ∧ (∀ o, wz.frozen? ⟨w.heap.size, o, none⟩ = false)) := hid (fun wz h => by
    obtain ⟨⟨z0, z1, z2, z3, z4, z5⟩, zf⟩ := HZ1.out
    have hn : ¬ (w.heap.size = w.heap.size + 1) := by omega
    have hlw : w.heap.size < w1.heap.size := World.block_lt_of_cell? _ _ z0
    exact ⟨⟨h.cell hn z0, h.cell hn z1, h.cell hn z2, h.cell hn z3, h.cell hn z4, h.cell hn z5⟩, h.loose hn hlw zf⟩)
  rw [← HA.out]
  clear hA hs1 HZ HS0 HLN hrow hb1
  go_wp2_with fail
  go_loopg [6] A.length (fun g s6 wr => ∃ k : Nat, k ≤ A.length ∧ g = A.length - k ∧ s6 = .int .i64 k ∧ ∃ s v, Hid (Lr w w1 wr (w.heap.size + 1) k A (docR (A.map (·.data.toList)) Sd.none) s v))
  case atStart => exact ⟨0, by omega, by omega, rfl, Sd.none, _, hid (Lr.zero HS1.out)⟩
  case round =>
    obtain ⟨k, hk, rfl, rfl, s, v, HR⟩ := hrel
    by_cases hlt : k < A.length
    · obtain ⟨g, rfl, hg, hc, hsz⟩ := HRW.out k hlt
      have hgp : g ≠ w.heap.size + 1 := by have := HSD.out; omega
      have c0 := HR.out.st.onl.cell (F := fun k => k = w.heap.size + 1) hgp hc
      obtain ⟨L, hL⟩ : ∃ L, L = nthB A k := ⟨_, rfl⟩
      rw [← hL] at c0 hsz
      have HNX := hid (fun s' wr' v' => HR.out.next (s' := s') (wr' := wr') (v' := v') hlt)
      have HBD := hid (HR.out.bad hlt)
      rw [← hL] at HNX HBD
      clear hc hL
      by_cases hsk : L.data.toList = [] ∨ L.data.toList.head? = some 35
      · have HD : Hid (docL s L.data.toList = some s) := by show docL _ _ = _; unfold docL; rw [if_pos hsk]
        cases h1 : L.toList.isEmpty
        · have h0 : L.data.toList.head? = some 35 := hsk.resolve_left (fun e => by rw [ByteArray.toList_eq, e] at h1; cases h1)
          have hix := index_bytes (t := L) (k := 0) (c := 35) (by rw [← List.head?_eq_getElem?]; exact h0)
          replace hix : ∀ w, (Instr.index 9 (.string L) (.int .i64 0)).run Tryz.prog w = .ok (.int .u8 35) w := hix
          clear hsk h0
          go_wp2_with fail
          go_roundg (A.length - (k + 1))
          case measure => omega
          case rel => exact ⟨k + 1, by omega, rfl, by go_num, s, v, hid (HNX.out s wr v HD.out HR.out.st)⟩
        · clear hsk
          go_wp2_with fail
          go_roundg (A.length - (k + 1))
          case measure => omega
          case rel => exact ⟨k + 1, by omega, rfl, by go_num, s, v, hid (HNX.out s wr v HD.out HR.out.st)⟩
      · have HLI := hid (rline_is (L := L) rfl hsk HR.out.st hsz (by have := HR.out.sp; omega) (fun j => by have := HR.out.t j; omega))
        have h1 : L.toList.isEmpty = false := by
          cases h : L.toList.isEmpty
          · rfl
          · exact absurd (.inl (by rw [← ByteArray.toList_eq]; exact List.isEmpty_iff.1 h)) hsk
        obtain ⟨ch, hch⟩ : ∃ ch, L.data.toList[0]? = some ch := by
          cases e : L.data.toList with
          | nil => rw [ByteArray.toList_eq, e] at h1; cases h1
          | cons b r => exact ⟨b, rfl⟩
        have hix := index_bytes (t := L) (k := 0) hch
        replace hix : ∀ w, (Instr.index 9 (.string L) (.int .i64 0)).run Tryz.prog w = .ok (.int .u8 (ch.toNat : Int)) w := hix
        have hne : ((ch.toNat : Int) != 35) = true := by
          rw [bne_iff_ne]; intro h; apply hsk; right
          rw [List.head?_eq_getElem?, hch]; congr 1; apply UInt8.toNat_inj.1
          have : (35 : UInt8).toNat = 35 := rfl
          omega
        have heq : ((ch.toNat : Int) == 35) = false := by simpa [bne] using hne
        clear hsk hch
        go_wp2_with fail
        refine HLI.out.mono ?_
        rintro e w2 (⟨s', v', hd, rfl, hst⟩ | ⟨hd, rfl, hb2, ho2⟩)
        · have HQ := hid (HNX.out s' w2 v' hd hst)
          clear hd hst
          go_wp2_with fail
          go_roundg (A.length - (k + 1))
          case measure => omega
          case rel => exact ⟨k + 1, by omega, rfl, by go_num, s', v', HQ⟩
        · have HON := hid ho2
          have HBW := hid hb2
          have HNO := hid (HBD.out hd)
          clear hd hb2 ho2
          obtain ⟨⟨z0, z1, z2, z3, z4, z5⟩, zf⟩ := HC.out _ HON.out
          simp only [List.length_nil] at z0 z1 z2 z3 z4 z5
          go_wp2_with fail
          refine bodyPost_ret (v := .tuple #[zeroC, .int .i64 120]) (by simp [results, Tryz.results14, go_sem, zeroC, z0, z1, z2, z3, z4, z5]) rfl ⟨?_, .inr ?_⟩
          · have hB := HBW.out
            (repeat (first | with_reducible exact Below.refl _ _ | with_reducible assumption | with_reducible refine Below.drew ?_ | with_reducible refine Below.al ?_ _ | with_reducible refine Below.setCell ?_ (by first | exact Nat.le_refl _ | (simp; omega) | (simp; done)) _ | with_reducible refine Below.on ?_ (by assumption)))
          · rw [← HA.out, HNO.out]; exact ⟨by decide, rfl⟩
    · obtain rfl : k = A.length := by omega
      have HE := hid HR.out.end
      have HST := hid HR.out.st
      have HT1 := hid HR.out.t
      have HSP := hid HR.out.sp
      clear HR HRW
      go_wp2_with fail
      go_loopg [8] 5 (fun g s8 wr' => ∃ j : Nat, j ≤ 5 ∧ g = 5 - j ∧ s8 = .int .i64 j ∧ wr' = wr ∧ Hid (∀ i, i < j → s.t i = 1))
      case atStart => exact ⟨0, by omega, by omega, rfl, rfl, hid (fun i hi => by omega)⟩
      case round =>
        obtain ⟨j, hj, rfl, rfl, rfl, HJ⟩ := hrel
        by_cases hj5 : j < 5
        · have ix1 := at_times (p := w.heap.size + 1) hj5
          have k1 := HST.out.box.t j hj5
          by_cases ht1 : s.t j = 1
          · rw [ht1] at k1
            go_wp2_with fail
            go_roundg (5 - (j + 1))
            case measure => omega
            case rel => exact ⟨j + 1, by omega, rfl, by go_num, rfl, hid (fun i hi => by
              by_cases e : i = j
              · rw [e]; exact ht1
              · exact HJ.out i (by omega))⟩
          · have hne : ((s.t j : Int) != 1) = true := by rw [bne_iff_ne]; omega
            have heq : ((s.t j : Int) == 1) = false := by rw [beq_eq_false_iff_ne]; omega
            have HNO : Hid (docA (docR (lns l) Sd.none) = 120) := by
              show docA _ = _
              rw [← HA.out, HE.out]
              have : s.once = false := by
                have h1 : decide (s.t j = 1) = false := by simp; exact ht1
                unfold Sd.once
                match j, hj5 with
                | 0, _ | 1, _ | 2, _ | 3, _ | 4, _ => simp only [h1, Bool.and_false, Bool.false_and]
              show (if s.once = true then _ else 120) = 120
              rw [this]; rfl
            have HON := hid HST.out.onl
            have HBW := hid HST.out.bel
            clear ht1
            obtain ⟨⟨z0, z1, z2, z3, z4, z5⟩, zf⟩ := HC.out _ HON.out
            simp only [List.length_nil] at z0 z1 z2 z3 z4 z5
            go_wp2_with fail
            refine bodyPost_ret (v := .tuple #[zeroC, .int .i64 120]) (by simp [results, Tryz.results14, go_sem, zeroC, z0, z1, z2, z3, z4, z5]) rfl ⟨?_, .inr ?_⟩
            · have hB := HBW.out
              (repeat (first | with_reducible exact Below.refl _ _ | with_reducible assumption | with_reducible refine Below.drew ?_ | with_reducible refine Below.al ?_ _ | with_reducible refine Below.setCell ?_ (by first | exact Nat.le_refl _ | (simp; omega) | (simp; done)) _ | with_reducible refine Below.on ?_ (by assumption)))
            · rw [HNO.out]; exact ⟨by decide, rfl⟩
        · obtain rfl : j = 5 := by omega
          have HON1 : Hid (s.once = true) := by
            show s.once = true
            unfold Sd.once
            rw [HJ.out 0 (by omega), HJ.out 1 (by omega), HJ.out 2 (by omega), HJ.out 3 (by omega), HJ.out 4 (by omega)]
            rfl
          have WI : Hid (∀ (n : Nat) (l m : Int) (ws : World), n < 18446744073709551616 → (0 ≤ l ∧ l ≤ 1048576) → (0 ≤ m ∧ m ≤ 1048576) → Calls Tryz.prog 61 #[.int .u64 (n : Int), .int .i64 l, .int .i64 m] ws fun e w' => e = .returned (.bool (wiB (n : Int) l m)) ∧ w' = ws) := hid (fun n l m ws h1 h2 h3 => rwithin_is h1 h2 h3 ws)
          have k10 := HST.out.box.ov
          have k5 := HST.out.box.vl 0 (by omega)
          have k6 := HST.out.box.vl 1 (by omega)
          have k7 := HST.out.box.vl 2 (by omega)
          have k8 := HST.out.box.vl 3 (by omega)
          have k9 := HST.out.box.vl 4 (by omega)
          have k11 := HST.out.box.sp
          have n0 := HST.out.num 0
          have n1 := HST.out.num 1
          have n2 := HST.out.num 2
          have n3 := HST.out.num 3
          have HON := hid HST.out.onl
          have HBW := hid HST.out.bel
          obtain ⟨⟨z0, z1, z2, z3, z4, z5⟩, zf⟩ := HC.out _ HON.out
          simp only [List.length_nil] at z0 z1 z2 z3 z4 z5
          simp only [Nat.add_zero, Nat.reduceAdd] at k5 k6 k7 k8 k9
          cases hov : s.ov
          · rw [hov] at k10
            cases h0 : wiB (s.v 0 : Int) 1 6
            · have HNO : Hid (docA (docR (lns l) Sd.none) = 1) := by
                show docA _ = _
                rw [← HA.out, HE.out, docA_some HON1.out, if_neg (by simp [Sd.in4, h0])]
              go_wp2_with (go_at_call 61; refine (WI.out _ _ _ _ (by assumption) (by decide) (by decide)).mono ?_; rintro e w2 ⟨rfl, rfl⟩)
              refine bodyPost_ret (v := .tuple #[zeroC, .int .i64 1]) (by simp [results, Tryz.results14, go_sem, zeroC, z0, z1, z2, z3, z4, z5]) rfl ⟨?_, .inr ?_⟩
              · have hB := HBW.out
                (repeat (first | with_reducible exact Below.refl _ _ | with_reducible assumption | with_reducible refine Below.drew ?_ | with_reducible refine Below.al ?_ _ | with_reducible refine Below.setCell ?_ (by first | exact Nat.le_refl _ | (simp; omega) | (simp; done)) _ | with_reducible refine Below.on ?_ (by assumption)))
              · rw [HNO.out]; exact ⟨by decide, rfl⟩
            · cases h1 : wiB (s.v 1 : Int) 1 6
              · have HNO : Hid (docA (docR (lns l) Sd.none) = 1) := by
                  show docA _ = _
                  rw [← HA.out, HE.out, docA_some HON1.out, if_neg (by simp [Sd.in4, h1])]
                go_wp2_with (go_at_call 61; refine (WI.out _ _ _ _ (by assumption) (by decide) (by decide)).mono ?_; rintro e w2 ⟨rfl, rfl⟩)
                refine bodyPost_ret (v := .tuple #[zeroC, .int .i64 1]) (by simp [results, Tryz.results14, go_sem, zeroC, z0, z1, z2, z3, z4, z5]) rfl ⟨?_, .inr ?_⟩
                · have hB := HBW.out
                  (repeat (first | with_reducible exact Below.refl _ _ | with_reducible assumption | with_reducible refine Below.drew ?_ | with_reducible refine Below.al ?_ _ | with_reducible refine Below.setCell ?_ (by first | exact Nat.le_refl _ | (simp; omega) | (simp; done)) _ | with_reducible refine Below.on ?_ (by assumption)))
                · rw [HNO.out]; exact ⟨by decide, rfl⟩
              · cases h2 : wiB (s.v 2 : Int) 0 1048576
                · have HNO : Hid (docA (docR (lns l) Sd.none) = 1) := by
                    show docA _ = _
                    rw [← HA.out, HE.out, docA_some HON1.out, if_neg (by simp [Sd.in4, h2])]
                  go_wp2_with (go_at_call 61; refine (WI.out _ _ _ _ (by assumption) (by decide) (by decide)).mono ?_; rintro e w2 ⟨rfl, rfl⟩)
                  refine bodyPost_ret (v := .tuple #[zeroC, .int .i64 1]) (by simp [results, Tryz.results14, go_sem, zeroC, z0, z1, z2, z3, z4, z5]) rfl ⟨?_, .inr ?_⟩
                  · have hB := HBW.out
                    (repeat (first | with_reducible exact Below.refl _ _ | with_reducible assumption | with_reducible refine Below.drew ?_ | with_reducible refine Below.al ?_ _ | with_reducible refine Below.setCell ?_ (by first | exact Nat.le_refl _ | (simp; omega) | (simp; done)) _ | with_reducible refine Below.on ?_ (by assumption)))
                  · rw [HNO.out]; exact ⟨by decide, rfl⟩
                · cases h3 : wiB (s.v 3 : Int) 0 16
                  · have HNO : Hid (docA (docR (lns l) Sd.none) = 1) := by
                      show docA _ = _
                      rw [← HA.out, HE.out, docA_some HON1.out, if_neg (by simp [Sd.in4, h3])]
                    go_wp2_with (go_at_call 61; refine (WI.out _ _ _ _ (by assumption) (by decide) (by decide)).mono ?_; rintro e w2 ⟨rfl, rfl⟩)
                    refine bodyPost_ret (v := .tuple #[zeroC, .int .i64 1]) (by simp [results, Tryz.results14, go_sem, zeroC, z0, z1, z2, z3, z4, z5]) rfl ⟨?_, .inr ?_⟩
                    · have hB := HBW.out
                      (repeat (first | with_reducible exact Below.refl _ _ | with_reducible assumption | with_reducible refine Below.drew ?_ | with_reducible refine Below.al ?_ _ | with_reducible refine Below.setCell ?_ (by first | exact Nat.le_refl _ | (simp; omega) | (simp; done)) _ | with_reducible refine Below.on ?_ (by assumption)))
                    · rw [HNO.out]; exact ⟨by decide, rfl⟩
                  · have b0 : (s.v 0 : Int) ≤ 6 := by unfold wiB at h0; simp at h0; omega
                    have b1 : (s.v 1 : Int) ≤ 6 := by unfold wiB at h1; simp at h1; omega
                    have b2 : (s.v 2 : Int) ≤ 1048576 := by unfold wiB at h2; simp at h2; omega
                    have b3 : (s.v 3 : Int) ≤ 16 := by unfold wiB at h3; simp at h3; omega
                    have e0 : wrap64 (s.v 0 : Int) = (s.v 0 : Int) := w64 (by omega)
                    have e1 : wrap64 (s.v 1 : Int) = (s.v 1 : Int) := w64 (by omega)
                    have e2 : wrap64 (s.v 2 : Int) = (s.v 2 : Int) := w64 (by omega)
                    have e3 : wrap64 (s.v 3 : Int) = (s.v 3 : Int) := w64 (by omega)
                    obtain ⟨va, vc, hva, hbase, hrow⟩ := row_owned HST.out.row
                    subst hva
                    have HIN : Hid (s.in4 = true) := by show s.in4 = true; simp [Sd.in4, h0, h1, h2, h3]
                    have HBS := hid hbase
                    have HROW := hid hrow
                    have HLW : Hid (s.sp.length ≤ 1001) := hid (by have := HSP.out; omega)
                    obtain ⟨n, hn⟩ : ∃ n, n = s.sp.length := ⟨_, rfl⟩
                    rw [← hn] at k11
                    clear hbase hrow
                    have HV : Hid (∀ wz, Below wr.heap.size wr wz → Calls Tryz.prog 62 #[.agg #[.int .i64 (s.v 0 : Int), .int .i64 (s.v 1 : Int), .slice va s.sp.length vc, .int .i64 (s.v 2 : Int), .int .i64 (s.v 3 : Int), .int .u64 (s.v 4 : Int)]] wz fun e w' => e = .returned (.bool (s.cf none 0).okB) ∧ Below wz.heap.size wz w') := hid (fun wz hb => by
                      have hok : (s.cf va vc).Ok wz := ⟨HROW.out.later hb, by show (s.sp.map ofNats).length ≤ _; rw [List.length_map]; have := HLW.out; omega, by show _ ≤ (s.v 0 : Int) ∧ (s.v 0 : Int) ≤ _; omega⟩
                      have h := rvalid_is hok (cf_ok s va vc)
                      have e : (s.cf va vc).val = .agg #[.int .i64 (s.v 0 : Int), .int .i64 (s.v 1 : Int), .slice va s.sp.length vc, .int .i64 (s.v 2 : Int), .int .i64 (s.v 3 : Int), .int .u64 (s.v 4 : Int)] := by
                        show Value.agg #[_, _, .slice va (s.sp.map ofNats).length vc, _, _, _] = _
                        rw [List.length_map]; rfl
                      rw [e] at h
                      exact h)
                    have HVAL : Hid ((s.cf va vc).val = .agg #[.int .i64 (s.v 0 : Int), .int .i64 (s.v 1 : Int), .slice va s.sp.length vc, .int .i64 (s.v 2 : Int), .int .i64 (s.v 3 : Int), .int .u64 (s.v 4 : Int)]) := by
                      show Value.agg #[_, _, .slice va (s.sp.map ofNats).length vc, _, _, _] = _
                      rw [List.length_map]; rfl
                    go_wp2_with (go_at_call 61; refine (WI.out _ _ _ _ (by assumption) (by decide) (by decide)).mono ?_; rintro e w2 ⟨rfl, rfl⟩)
                    clear k5 k6 k7 k8 k9 k10 k11 n0 n1 n2 n3 e0 e1 e2 e3 b0 b1 b2 b3 h0 h1 h2 h3
                    obtain ⟨wb, hwb⟩ : ∃ wb, wb = w2.alloc (.cells #[.int .i64 (s.v 0 : Int), .int .i64 (s.v 1 : Int), .slice va s.sp.length vc, .int .i64 (s.v 2 : Int), .int .i64 (s.v 3 : Int), .int .u64 (s.v 4 : Int)] 26) := ⟨_, rfl⟩
                    rw [← hwb]
                    have hbb : Below w2.heap.size w2 wb := by rw [hwb]; (repeat (first | with_reducible exact Below.refl _ _ | with_reducible assumption | with_reducible refine Below.drew ?_ | with_reducible refine Below.al ?_ _ | with_reducible refine Below.setCell ?_ (by first | exact Nat.le_refl _ | (simp; omega) | (simp; done)) _ | with_reducible refine Below.on ?_ (by assumption)))
                    have hX : BoxC wb w2.heap.size ⟨s.v 0, s.v 1, va, vc, s.sp.map ofNats, s.v 2, s.v 3, s.v 4⟩ := by
                      rw [hwb]
                      constructor <;> simp [go_sem]
                    refine (HV.out wb hbb).mono ?_
                    rintro e w3 ⟨rfl, hb3⟩
                    obtain ⟨x0, x1, x2, x3, x4, x5⟩ := hX.later hb3
                    simp only [List.length_map] at x2
                    simp only at x0 x1 x3 x4 x5
                    have hb23 := Below.on hbb hb3
                    have HON3 : Hid (Onl (fun k => k = w.heap.size + 1) w1 w3) := hid (HON.out.on hb23)
                    have HBW3 : Hid (Below w.heap.size w w3) := hid (Below.on HBW.out hb23)
                    have HROW3 : Hid (RowS w3 va (s.sp.map ofNats)) := hid (HROW.out.later hb23)
                    have HLT : Hid (w.heap.size < w2.heap.size ∧ w2.heap.size < w3.heap.size) := hid ⟨World.block_lt_of_cell? _ _ z0, World.block_lt_of_cell? _ _ x0⟩
                    clear z0 z1 z2 z3 z4 z5 zf hX hbb hb3 hb23 hwb HV
                    obtain ⟨⟨z0, z1, z2, z3, z4, z5⟩, zf⟩ := HC.out _ HON3.out
                    simp only [List.length_nil] at z0 z1 z2 z3 z4 z5
                    cases hok : (s.cf none 0).okB
                    · have HNO : Hid (docA (docR (lns l) Sd.none) = 1) := by
                        show docA _ = _
                        rw [← HA.out, HE.out, docA_some HON1.out, if_neg (by simp [hok])]
                      go_wp2_with fail
                      refine bodyPost_ret (v := .tuple #[zeroC, .int .i64 1]) (by simp [results, Tryz.results14, go_sem, zeroC, z0, z1, z2, z3, z4, z5]) rfl ⟨?_, .inr ?_⟩
                      · have hB := HBW3.out
                        (repeat (first | with_reducible exact Below.refl _ _ | with_reducible assumption | with_reducible refine Below.drew ?_ | with_reducible refine Below.al ?_ _ | with_reducible refine Below.setCell ?_ (by first | exact Nat.le_refl _ | (simp; omega) | (simp; done)) _ | with_reducible refine Below.on ?_ (by assumption)))
                      · rw [HNO.out]; exact ⟨by decide, rfl⟩
                    · have HNO : Hid (docA (docR (lns l) Sd.none) = 0) := by
                        show docA _ = _
                        rw [← HA.out, HE.out, docA_some HON1.out, if_pos ⟨hov, HIN.out, hok⟩]
                      go_wp2_with fail
                      refine bodyPost_ret (v := .tuple #[(s.cf va vc).val, .int .i64 0]) (by rw [HVAL.out]; simp [results, Tryz.results14, go_sem, z0, z1, z2, z3, z4, z5]) rfl ⟨?_, .inl ⟨HNO.out, s, va, vc, by rw [← HA.out, HE.out], rfl, fun g o e => ?_, ?_⟩⟩
                      · have hB := HBW3.out
                        (repeat (first | with_reducible exact Below.refl _ _ | with_reducible assumption | with_reducible refine Below.drew ?_ | with_reducible refine Below.al ?_ _ | with_reducible refine Below.setCell ?_ (by first | exact Nat.le_refl _ | (simp; omega) | (simp; done)) _ | with_reducible refine Below.on ?_ (by assumption)))
                      · have h1 := HBS.out g o e
                        have h2 := HS1.out.bel.size
                        omega
                      · intro i hi
                        obtain ⟨bb, off, e1, e2⟩ := HROW3.out i hi
                        refine ⟨bb, off, e1, ?_⟩
                        have h1 := HBS.out bb off e1
                        have h2 := HS1.out.lt
                        repeat (with_reducible refine cell_setc (by simp only [ne_eq, Addr.mk.injEq]; omega) ?_)
                        exact e2
          · rw [hov] at k10
            have HNO : Hid (docA (docR (lns l) Sd.none) = 1) := by
              show docA _ = _
              rw [← HA.out, HE.out, docA_some HON1.out, if_neg (by simp [hov])]
            go_wp2_with (fail)
            refine bodyPost_ret (v := .tuple #[zeroC, .int .i64 1]) (by simp [results, Tryz.results14, go_sem, zeroC, z0, z1, z2, z3, z4, z5]) rfl ⟨?_, .inr ?_⟩
            · have hB := HBW.out
              (repeat (first | with_reducible exact Below.refl _ _ | with_reducible assumption | with_reducible refine Below.drew ?_ | with_reducible refine Below.al ?_ _ | with_reducible refine Below.setCell ?_ (by first | exact Nat.le_refl _ | (simp; omega) | (simp; done)) _ | with_reducible refine Below.on ?_ (by assumption)))
            · rw [HNO.out]; exact ⟨by decide, rfl⟩
end Go.Proofs.YthenfioddnkjbaaGreatDoor.Rt
/- Parse answers alike, plain. -/
namespace Go.Proofs.YthenfioddnkjbaaGreatDoor.Rt
set_option linter.unusedVariables false

/-- the program's Parse's number -/
def parA (r : Nat × Dr) : Nat := if r.1 = 0 then (if (r.2.cf none 0).okB = true then 0 else 1) else if r.1 = 1 then 120 else 1
theorem small_wi (n l : Nat) {m : Nat} (hm : m ≤ 1048576) : wiB ((smallN n : Nat) : Int) l m = wiB (n : Int) l m := by
  unfold wiB smallN
  by_cases h : n ≤ 1048577
  · rw [if_pos h]
  · rw [if_neg h]
    have h1 : decide (((1048577 : Nat) : Int) ≤ (m : Int)) = false := by simp; omega
    have h2 : decide ((n : Int) ≤ (m : Int)) = false := by simp; omega
    rw [h1, h2, Bool.and_false, Bool.and_false]
theorem small_id {n l m : Nat} (hm : m ≤ 1048576) (h : wiB (n : Int) l m = true) : smallN n = n := by
  unfold wiB at h
  simp only [Bool.and_eq_true, decide_eq_true_eq] at h
  exact if_pos (by omega)
theorem rel_v {d : Dr} {s : Sd} (h : Rel d false s) (hw : d.whole = true) {k : Nat} (hk : k < 5) : (d.f k).getD 0 = s.v k := by
  have h1 : (d.f k).isSome = true := by
    unfold Dr.whole at hw
    simp only [Bool.and_eq_true] at hw
    obtain ⟨⟨⟨⟨a, b⟩, c⟩, e⟩, f⟩ := hw
    match k, hk with
    | 0, _ => exact a
    | 1, _ => exact b
    | 2, _ => exact c
    | 3, _ => exact e
    | 4, _ => exact f
  obtain ⟨x, hx⟩ := Option.isSome_iff_exists.1 h1
  rw [hx, h.v rfl k hk x hx]; rfl
theorem rel_cf {d : Dr} {s : Sd} (h : Rel d false s) (hw : d.whole = true) (hi : s.in4 = true) (a : Option Addr) (c : Nat) : d.cf a c = s.cf a c := by
  unfold Sd.in4 at hi
  simp only [Bool.and_eq_true] at hi
  obtain ⟨⟨⟨h0, h1⟩, h2⟩, h3⟩ := hi
  unfold Dr.cf Sd.cf
  rw [rel_v h hw (by omega : 0 < 5), rel_v h hw (by omega : 1 < 5), rel_v h hw (by omega : 2 < 5), rel_v h hw (by omega : 3 < 5), rel_v h hw (by omega : 4 < 5), h.sp]
  rw [small_id (l := 1) (m := 6) (by omega) h0, small_id (l := 1) (m := 6) (by omega) h1, small_id (l := 0) (m := 1048576) (by omega) h2, small_id (l := 0) (m := 16) (by omega) h3]
theorem rel_not {d : Dr} {s : Sd} (h : Rel d false s) (hw : d.whole = true) (hi : s.in4 = false) : (d.cf none 0).okB = false := by
  have e0 := small_wi (s.v 0) 1 (m := 6) (by omega)
  have e1 := small_wi (s.v 1) 1 (m := 6) (by omega)
  have e2 := small_wi (s.v 2) 0 (m := 1048576) (by omega)
  have e3 := small_wi (s.v 3) 0 (m := 16) (by omega)
  have hc : wiB ((smallN (s.v 2) : Nat) : Int) 256 1048576 = true → wiB ((smallN (s.v 2) : Nat) : Int) 0 1048576 = true := by
    unfold wiB; simp only [Bool.and_eq_true, decide_eq_true_eq]; omega
  unfold Dr.cf Cf.okB
  rw [rel_v h hw (by omega : 0 < 5), rel_v h hw (by omega : 1 < 5), rel_v h hw (by omega : 2 < 5), rel_v h hw (by omega : 3 < 5)]
  unfold Sd.in4 at hi
  simp only at e0 e1 e2 e3 ⊢
  cases hz : (wiB ((smallN (s.v 0) : Nat) : Int) 1 6 && wiB ((smallN (s.v 1) : Nat) : Int) 1 6 && wiB ((smallN (s.v 2) : Nat) : Int) 256 1048576 && wiB ((smallN (s.v 3) : Nat) : Int) 0 16)
  · rfl
  · exfalso
    simp only [Bool.and_eq_true] at hz
    obtain ⟨⟨⟨z0, z1⟩, z2⟩, z3⟩ := hz
    have z2 := hc z2
    have f0 : wiB (s.v 0 : Int) 1 6 = true := by rw [← z0]; exact e0.symm
    have f1 : wiB (s.v 1 : Int) 1 6 = true := by rw [← z1]; exact e1.symm
    have f2 : wiB (s.v 2 : Int) 0 1048576 = true := by rw [← z2]; exact e2.symm
    have f3 : wiB (s.v 3 : Int) 0 16 = true := by rw [← z3]; exact e3.symm
    rw [f0, f1, f2, f3] at hi
    cases hi
/-- both answer the same -/
theorem par_doc (ls : List (List UInt8)) : docA (docR ls Sd.none) = parA (runL ls Dr.none false) ∧ (docA (docR ls Sd.none) = 0 → ∃ s, docR ls Sd.none = some s ∧ ∀ a c, (runL ls Dr.none false).2.cf a c = s.cf a c) := by
  obtain ⟨h1, h2⟩ := run_doc ls Dr.none false Sd.none Rel.none
  generalize runL ls Dr.none false = r at h1 h2
  cases hd : docR ls Sd.none with
  | none =>
    rw [hd] at h1
    have h1 : r.1 = 1 := h1
    refine ⟨?_, fun h => by cases h⟩
    unfold parA
    rw [h1]; rfl
  | some s =>
    rw [hd] at h1 h2
    have h1 : r.1 = if s.once then (if s.ov then 2 else 0) else 1 := h1
    cases ho : s.once with
    | false =>
      rw [ho] at h1
      have h1 : r.1 = 1 := h1
      have e : docA (some s) = 120 := by show (if s.once = true then _ else 120) = 120; rw [ho]; rfl
      rw [e]
      refine ⟨?_, fun h => by cases h⟩
      unfold parA
      rw [h1]; rfl
    | true =>
      rw [ho] at h1
      rw [docA_some ho]
      cases hv : s.ov with
      | true =>
        rw [hv] at h1
        have h1 : r.1 = 2 := h1
        refine ⟨?_, fun h => by simp at h⟩
        unfold parA
        rw [h1]; rfl
      | false =>
        rw [hv] at h1
        have h1 : r.1 = 0 := h1
        obtain ⟨s', e, hR, hW⟩ := h2 h1
        injection e with e
        subst e
        unfold parA
        rw [h1, if_pos rfl]
        cases hi : s.in4 with
        | true =>
          have hcf := rel_cf hR hW hi
          rw [hcf none 0]
          refine ⟨?_, fun _ => ⟨s, rfl, hcf⟩⟩
          cases (s.cf none 0).okB <;> rfl
        | false =>
          rw [rel_not hR hW hi]
          exact ⟨by simp, fun h => by simp at h⟩
end Go.Proofs.YthenfioddnkjbaaGreatDoor.Rt
