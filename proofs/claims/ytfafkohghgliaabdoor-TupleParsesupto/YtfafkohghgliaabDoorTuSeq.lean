import Derived.Test.YtfafkohghgliaabDoorTuRng
import Derived.Test.YtfafkohghgliaabDoorTuEsc
import Derived.Test.YtfafkohghgliaabDoorTuT
import Derived.Test.YtfafkohghgliaabDoorTuRoom
import Derived.Test.YtfafkohghgliaabDoorShelf
/- strings.SplitSeq at a blank. -/
namespace Go.Proofs.YtfafkohghgliaabDoor.Tu
open Go.RowKit Go.Sort Go.Shelf Go.Proofs.YtfafkohghgliaabDoor Go.Proofs.YtfafkohghgliaabDoor.Rt Go.Proofs.YtfafkohghgliaabDoor.Gt
set_option linter.unusedVariables false
set_option linter.unusedSectionVars false
set_option maxRecDepth 100000
attribute [local go_sem] Oper.semAt_some

abbrev SPL1 : Nat := 80
theorem ixc_none {c : UInt8} : ∀ {l : List UInt8}, c ∉ l → Lib.indexByte l c = -1
  | [], _ => rfl
  | b :: l, h => by
    have hb : b ≠ c := fun e => h (by simp [e])
    have ih := ixc_none (l := l) (fun e => h (List.mem_cons_of_mem _ e))
    simp [Lib.indexByte, hb, ih]
theorem ixc_at {c : UInt8} : ∀ {a t : List UInt8}, c ∉ a → Lib.indexByte (a ++ c :: t) c = a.length
  | [], t, _ => by simp [Lib.indexByte]
  | b :: a, t, h => by
    have hb : b ≠ c := fun e => h (by simp [e])
    have ih := ixc_at (a := a) (t := t) (fun e => h (List.mem_cons_of_mem _ e))
    have hn : ((a.length : Int) == -1) = false := by rw [beq_eq_false_iff_ne]; omega
    simp only [List.cons_append, Lib.indexByte, ih, hn]
    simp [hb]
theorem mem32 {l : List Nat} (h8 : B8 l) : (32 : UInt8) ∈ l.map UInt8.ofNat ↔ 32 ∈ l := by
  constructor
  · intro h
    obtain ⟨b, hb, e⟩ := List.mem_map.1 h
    have : b = 32 := by
      have := congrArg UInt8.toNat e
      simpa [Nat.mod_eq_of_lt (h8 b hb)] using this
    rw [← this]; exact hb
  · intro h
    exact List.mem_map.2 ⟨32, h, rfl⟩
theorem ix32_none {l : List Nat} (h8 : B8 l) (h : 32 ∉ l) : Lib.indexByte (ofNats l).data.toList 32 = -1 := by
  show Lib.indexByte (l.map UInt8.ofNat) 32 = -1
  exact ixc_none (fun e => h ((mem32 h8).1 e))
theorem ix32_at {p t : List Nat} (h8 : B8 p) (h : 32 ∉ p) : Lib.indexByte (ofNats (p ++ 32 :: t)).data.toList 32 = p.length := by
  show Lib.indexByte ((p ++ 32 :: t).map UInt8.ofNat) 32 = _
  rw [List.map_append, List.map_cons]
  show Lib.indexByte (p.map UInt8.ofNat ++ 32 :: t.map UInt8.ofNat) 32 = _
  rw [ixc_at (fun e => h ((mem32 h8).1 e)), List.length_map]
/-- the iterator's three boxes: the rest of the text, the blank, 0 -/
structure Bx3 (W : World) (Bs : Nat) (q : List Nat) : Prop where
  s : W.heap[Bs]? = some (.cells #[.string (ofNats q)] 9 (0, 0))
  sep : W.heap[Bs + 1]? = some (.cells #[.string ⟨#[32]⟩] 9 (0, 0))
  sav : W.heap[Bs + 2]? = some (.cells #[.int .i64 0] 3 (0, 0))
theorem Bx3.kept {W W' : World} {Bs : Nat} {q : List Nat} (h : Bx3 W Bs q) (k : Kb Bs W W') : Bx3 W' Bs q :=
  ⟨(k Bs (Nat.le_refl _) (by omega)).trans h.s, (k (Bs + 1) (by omega) (by omega)).trans h.sep, (k (Bs + 2) (by omega) (by omega)).trans h.sav⟩
theorem Bx3.put {W : World} {Bs : Nat} {q : List Nat} (h : Bx3 W Bs q) {z : ByteArray} {t : List Nat} (e : z = ofNats t) : Bx3 (W.setCell ⟨Bs, 0, none⟩ (.string z)) Bs t := by
  subst e
  refine ⟨?_, (Below.heap_setCell _ _ _ _ (by simp)).trans h.sep, (Below.heap_setCell _ _ _ _ (by simp)).trans h.sav⟩
  have := heap_setCell_same W Bs 0 _ _ (.string (ofNats t)) h.s
  simpa using this
def nthW (ws : List (List Nat)) (i : Nat) : List Nat := ws.getD i []
theorem drop_nth {ws r : List (List Nat)} {k : Nat} {a : List Nat} (h : ws.drop k = a :: r) : k < ws.length ∧ nthW ws k = a ∧ ws.drop (k + 1) = r := by
  have hl : k < ws.length := by
    rcases Nat.lt_or_ge k ws.length with h' | h'
    · exact h'
    · rw [List.drop_eq_nil_of_le h'] at h; cases h
  rw [List.drop_eq_getElem_cons hl] at h
  injection h with h1 h2
  exact ⟨hl, by simp [nthW, hl, h1], h2⟩

set_option maxHeartbeats 1000000 in
theorem seq_in (n : Nat) (hn : 1 ≤ n) (l Bs : Nat) (s : List Nat) (h8 : B8 s) (hl : s.length ≤ 67108864) (J Jx : Nat → World → Prop) (hJ : Ab Bs J)
    (hY : ∀ i W, J i W → i < (fld s).length → YieldAt Fence.wide (n - 1) Tryd.prog l #[.string (ofNats (nthW (fld s) i))] W fun e W' => (e = .returned (.bool true) ∧ J (i + 1) W' ∧ Kb Bs W W') ∨ (e = .returned (.bool false) ∧ Jx (i + 1) W'))
    (W : World) (hB : Bx3 W Bs s) (h0 : J 0 W) :
    CallsIn Fence.wide n Tryd.prog SPL1 #[.func (.yield l) #[] #[], .pointer (some ⟨Bs + 1, 0, none⟩), .pointer (some ⟨Bs, 0, none⟩), .pointer (some ⟨Bs + 2, 0, none⟩)] W fun e W' => (∃ v, e = .returned v) ∧ (J (fld s).length W' ∨ (∃ i, i < (fld s).length ∧ Jx (i + 1) W')) := by
  have HY := hid hY
  have HJ := hid hJ
  have H0 := hid h0
  have HB := hid hB
  have H8 := hid h8
  obtain ⟨nn, hnn⟩ : ∃ nn, nn = s.length := ⟨_, rfl⟩
  have HN := hid hnn
  rw [← hnn] at hl
  have c1 : W.cell? ⟨Bs + 1, 0, none⟩ = some (.string ⟨#[32]⟩) := by rw [Lib.cell_of_heap hB.sep]; rfl
  clear hY hJ h0 hB h8 hnn
  refine callsIn_of_wp Tryd.func80 rfl trivial ?_ rfl
  simp only [Tryd.ntmps80, List.size_toArray, List.length_cons, List.length_nil, Nat.reduceAdd, Nat.reduceSub, Array.replicate_succ, Array.replicate_zero, List.push_toArray, List.append_toArray, List.nil_append, List.cons_append]
  gi_wp2
  gi_loopg [7, 8] nn (fun g s7 s8 wr => ∃ (k : Nat) (q : List Nat), q.length ≤ nn ∧ g = q.length ∧ Hid (B8 q) ∧ Hid ((fld s).drop k = fld q) ∧ Hid (Bx3 wr Bs q) ∧ Hid (J k wr))
  case atStart =>
    exact ⟨0, s, by rw [HN.out]; exact Nat.le_refl _, HN.out, H8, hid rfl, HB, H0⟩
  case round =>
    obtain ⟨k, q, hq, rfl, HQ8, HD, HX, HJk⟩ := hrel
    clear c1
    have d0 : wr.cell? ⟨Bs, 0, none⟩ = some (.string (ofNats q)) := by rw [Lib.cell_of_heap HX.out.s]; rfl
    have d1 : wr.cell? ⟨Bs + 1, 0, none⟩ = some (.string ⟨#[32]⟩) := by rw [Lib.cell_of_heap HX.out.sep]; rfl
    have d2 : wr.cell? ⟨Bs + 2, 0, none⟩ = some (.int .i64 0) := by rw [Lib.cell_of_heap HX.out.sav]; rfl
    by_cases hm : 32 ∈ q
    · obtain ⟨a, t, rfl, ha⟩ : ∃ a t, q = a ++ 32 :: t ∧ 32 ∉ a := List.eq_append_cons_of_mem hm
      obtain ⟨hk, hnt, hdr⟩ := drop_nth (HD.out.trans (fld_cons t ha))
      have a8 : B8 a := fun x hx => HQ8.out x (List.mem_append_left _ hx)
      have t8 : B8 t := fun x hx => HQ8.out x (List.mem_append_right _ (List.mem_cons_of_mem _ hx))
      have hix := fun w => Tryd.strings_Index_one (ofNats (a ++ 32 :: t)) 32 w
      rw [ix32_at a8 ha] at hix
      obtain ⟨m, hm'⟩ : ∃ m, m = a.length := ⟨_, rfl⟩
      rw [← hm'] at hix
      have hsz : (ofNats (a ++ 32 :: t)).size = m + (t.length + 1) := by rw [ofNats_size, List.length_append, hm']; rfl
      have hx1 : (ofNats (a ++ 32 :: t)).extract 0 m = ofNats a := by rw [ofNats_extract HQ8.out, hm', List.take_left, List.drop_zero]
      have hx2 : (ofNats (a ++ 32 :: t)).extract (m + 1) (m + (t.length + 1)) = ofNats t := by
        rw [ofNats_extract HQ8.out, List.take_of_length_le (by rw [List.length_append, hm']; simp)]
        rw [show a ++ 32 :: t = (a ++ [32]) ++ t by simp, List.drop_left' (by simp [hm'])]
      have hml : m + (t.length + 1) ≤ 67108864 := by rw [List.length_append, List.length_cons, ← hm'] at hq; omega
      have htl : t.length < (a ++ 32 :: t).length := by rw [List.length_append, List.length_cons]; omega
      have htn : t.length ≤ nn := by omega
      have hR0 := HY.out k wr HJk.out hk
      rw [hnt] at hR0
      obtain ⟨b, hb⟩ : ∃ b, b = ofNats (a ++ 32 :: t) := ⟨_, rfl⟩
      obtain ⟨z, hz⟩ : ∃ z, z = ofNats a := ⟨_, rfl⟩
      obtain ⟨y, hy'⟩ : ∃ y, y = ofNats t := ⟨_, rfl⟩
      have HI : ∀ w, Hid (Calls Tryd.prog 82 #[.string b, .string ⟨#[32]⟩] w fun e w' => e = .returned (.int .i64 (m : Int)) ∧ w' = w) := by rw [hb]; exact fun w => hid (hix w)
      have HY2 := hid hy'
      rw [← hb] at d0 hsz hx1 hx2
      rw [← hz] at hx1 hR0
      rw [← hy'] at hx2
      have HBE := hid hb
      obtain ⟨fn, tmps, assign, body, hy, hR⟩ := hR0
      have HDR := hid hdr
      clear hb hz hy' hm hm' hix hnt hdr ha a8
      gi_wp2_with (refine ⟨trivial, ?_⟩; gi_at_call 82; refine (callsIn_wide.2 (HI _).out).mono ?_; rintro e w2 ⟨rfl, hw⟩; replace hw := hw.symm; subst hw)
      refine hR.mono ?_
      rintro e W3 (⟨rfl, hJ3, hk3⟩ | ⟨rfl, hJx3⟩)
      · have HX3 := hid (HX.out.kept hk3)
        have HJ3 := hid hJ3
        have e0 : W3.cell? ⟨Bs, 0, none⟩ = some (.string b) := by rw [Lib.cell_of_heap HX3.out.s, HBE.out]; rfl
        have e1 : W3.cell? ⟨Bs + 1, 0, none⟩ = some (.string ⟨#[32]⟩) := by rw [Lib.cell_of_heap HX3.out.sep]; rfl
        have f0 : W3.frozen? ⟨Bs, 0, none⟩ = false := Lib.frozen_of_heap HX3.out.s 0
        clear hJ3 hk3 hR hy
        gi_wp2
        gi_roundg (t.length)
        case measure => exact htl
        case rel => exact ⟨k + 1, t, htn, rfl, hid t8, HDR, hid (HX3.out.put HY2.out), hid (HJ.out _ _ _ (some Bs) HJ3.out (grownBy_setCell' W3 Bs _) (.inr rfl))⟩
      · have HX3 := hid hJx3
        clear hJx3
        gi_wp2
        first | go_end0 | refine bodyPost_ret (results_none rfl _ _ _) rfl ?_
        exact ⟨⟨_, rfl⟩, .inr ⟨k, hk, HX3.out⟩⟩
    · obtain ⟨hk, hnt, hdr⟩ := drop_nth (HD.out.trans (fld_one hm))
      have hix := fun w => Tryd.strings_Index_one (ofNats q) 32 w
      rw [ix32_none HQ8.out hm] at hix
      have hR0 := HY.out k wr HJk.out hk
      rw [hnt] at hR0
      obtain ⟨b, hb⟩ : ∃ b, b = ofNats q := ⟨_, rfl⟩
      have HI : ∀ w, Hid (Calls Tryd.prog 82 #[.string b, .string ⟨#[32]⟩] w fun e w' => e = .returned (.int .i64 (-1)) ∧ w' = w) := by rw [hb]; exact fun w => hid (hix w)
      rw [← hb] at d0 hR0
      obtain ⟨fn, tmps, assign, body, hy, hR⟩ := hR0
      have HKN : Hid (k + 1 = (fld s).length) := by
        show _ = _
        have := List.drop_eq_nil_iff.1 hdr
        omega
      clear hb hix hnt hdr hm
      gi_wp2_with (refine ⟨trivial, ?_⟩; gi_at_call 82; refine (callsIn_wide.2 (HI _).out).mono ?_; rintro e w2 ⟨rfl, hw⟩; replace hw := hw.symm; subst hw)
      refine hR.mono ?_
      rintro e W3 (⟨rfl, hJ3, hk3⟩ | ⟨rfl, hJx3⟩)
      · have HJ3 := hid hJ3
        clear hJ3 hk3
        gi_wp2
        first | go_end0 | refine bodyPost_ret (results_none rfl _ _ _) rfl ?_
        exact ⟨⟨_, rfl⟩, .inl (by rw [← HKN.out]; exact HJ3.out)⟩
      · have HX3 := hid hJx3
        clear hJx3
        gi_wp2
        first | go_end0 | refine bodyPost_ret (results_none rfl _ _ _) rfl ?_
        exact ⟨⟨_, rfl⟩, .inr ⟨k, hk, HX3.out⟩⟩
end Go.Proofs.YtfafkohghgliaabDoor.Tu
