import Derived.Test.YtpnbgdbkiokooaaFkBo
/- The law's books: one step, done and counted. -/
namespace Go.Proofs.Ytpnbgdbkiokooaa.Fl
open Go.RowKit Go.Sort Go.Proofs.Ytpnbgdbkiokooaa
set_option linter.unusedVariables false

structure Sp where
  k : Int
  o : Int
  i : Int
  v : Value
  l : List ByteArray
abbrev Sp.val (s : Sp) : Value := .agg #[.int .i64 s.k, .int .i64 s.o, .int .i64 s.i, s.v]
/-- the flight and the tally, as they are now -/
def Bn (W w : World) (p q : Nat) (xs : List ByteArray) (T : Tl) : Prop := ∃ v vt vn, Bm W w w p q v vt vn v vt vn xs T
theorem Bs.bn {W w0 w : World} {p q : Nat} {v0 vt0 vn0 : Value} {xs : List ByteArray} {T : Tl} (h : Bs W w0 w p q v0 vt0 vn0 xs T) : Bn W w p q xs T := by
  obtain ⟨v, vt, vn, h⟩ := h
  exact ⟨v, vt, vn, h.again⟩
theorem Tg.sm {T : Tl} {xs : List ByteArray} (h : Tg T xs) (hx : xs.length ≤ 1099511627776) : Sm T := sm_of h.nod h.val fun m => by
  have := cnt_bd m xs
  omega
/-- one text more, or one less -/
theorem Tg.one {T : Tl} {xs ys : List ByteArray} (h : Tg T xs) {m : ByteArray} {b : Int} (hy : ∀ k, cnt k ys = cnt k xs + if m = k then b else 0) : Tg (addT T m b) ys := ⟨nod_add h.nod _ _, fun k => by rw [val_add, h.val, hy]⟩
theorem Tg.mem {T : Tl} {xs : List ByteArray} (h : Tg T xs) {m : ByteArray} (hm : m ∈ xs) : m ∈ ky T := mem_of_val (by
  rw [h.val]
  have := cnt_pos hm
  omega)
theorem len_in {T : Tl} {m : ByteArray} (b : Int) (h : m ∈ ky T) : (addT T m b).length = T.length := by
  have h := congrArg List.length (ky_in T m b h)
  rw [List.length_map, List.length_map] at h
  exact h
theorem nthT_mem {xs : List ByteArray} {i : Nat} (h : i < xs.length) : nthT xs i ∈ xs := List.mem_iff_getElem?.2 ⟨i, nthT_get h⟩
/-- what a step leaves -/
def Aft (W w : World) (p q : Nat) (xs : List ByteArray) (T : Tl) (n : Nat) : Prop := ∃ xs' T', Bn W w p q xs' T' ∧ Tg T' xs' ∧ xs'.length ≤ xs.length + n + 1 ∧ T'.length ≤ T.length + n
/-- the box of a step -/
structure Bx (W wb : World) (p q : Nat) (v vt vn : Value) (b0 : Nat) (s : Sp) : Prop where
  x0 : ∀ w1 xs T, Bs W wb w1 p q v vt vn xs T → w1.cell? ⟨b0, 0, none⟩ = some (.int .i64 s.k)
  x2 : ∀ w1 xs T, Bs W wb w1 p q v vt vn xs T → w1.cell? ⟨b0, 2, none⟩ = some (.int .i64 s.i)
  x3 : ∀ w1 xs T, Bs W wb w1 p q v vt vn xs T → w1.cell? ⟨b0, 3, none⟩ = some s.v
theorem box_is {W w : World} {p q : Nat} {v vt vn : Value} {xs : List ByteArray} {T : Tl} (h : Bm W w w p q v vt vn v vt vn xs T) (s : Sp) {wb : World} (hwb : wb = w.alloc (.cells #[.int .i64 s.k, .int .i64 s.o, .int .i64 s.i, s.v] 34)) : Bm W wb wb p q v vt vn v vt vn xs T ∧ Bx W wb p q v vt vn w.heap.size s := by
  have hb : Below w.heap.size w wb := by rw [hwb]; exact Below.al (Below.refl _ _) _
  have hq : wb.heap[w.heap.size]? = some (.cells #[.int .i64 s.k, .int .i64 s.o, .int .i64 s.i, s.v] 34 (0, 0)) := by rw [hwb]; exact World.alloc_heap_new _ _
  have hn : ¬ It2 p q v vt vn w.heap.size := by
    rintro (hk | hk)
    · have := (h.fl.its hk).2; omega
    · have := (h.ta.its hk).2; omega
  refine ⟨(h.later hb).again, fun w1 xs T hs => ?_, fun w1 xs T hs => ?_, fun w1 xs T hs => ?_⟩
  · obtain ⟨_, _, _, hs⟩ := hs; exact hs.onl.cell hn (cell_obj hq rfl)
  · obtain ⟨_, _, _, hs⟩ := hs; exact hs.onl.cell hn (cell_obj hq rfl)
  · obtain ⟨_, _, _, hs⟩ := hs; exact hs.onl.cell hn (cell_obj hq rfl)

set_option maxRecDepth 16000 in
set_option maxHeartbeats 8000000 in
theorem books_send_A {W w : World} {p q : Nat} {v vt vn : Value} {xs : List ByteArray} {T : Tl} (h : Bm W w w p q v vt vn v vt vn xs T) (hg : Tg T xs) (s : Sp) (hs : Rd W s.v s.l) (hx : xs.length ≤ 1073741824) (hT : T.length ≤ 1073741824) (hsl : s.l.length ≤ 1073741824) (hv0 : s.i < 0) (hk : s.k = 1) :
    Calls Try.prog 7 #[pt q, pt p, s.val] w fun e w' => e = .returned (.bool true) ∧ Hid (Aft W w' p q xs T s.l.length) := by
  obtain ⟨wb, hwb⟩ : ∃ wb, wb = w.alloc (.cells #[.int .i64 s.k, .int .i64 s.o, .int .i64 s.i, s.v] 34) := ⟨_, rfl⟩
  obtain ⟨hb, hbx⟩ := box_is h s hwb
  have HBX := hid hbx
  have HS0 : Hid (Bs W wb wb p q v vt vn xs T) := ⟨v, vt, vn, hb⟩
  have HG := hid hg
  have HS := hid hs
  have HWB := hid hwb
  have HX := hid hx
  have HT := hid hT
  have HSL := hid hsl
  have x0 := hbx.x0 _ _ _ HS0.out
  have x2 := hbx.x2 _ _ _ HS0.out
  have x3 := hbx.x3 _ _ _ HS0.out
  have HLEN := hid HS0.out.len
  obtain ⟨b0, hb0⟩ : ∃ b0, b0 = w.heap.size := ⟨_, rfl⟩
  rw [← hb0] at x0 x2 x3 HBX
  have HB0 := hid hb0
  obtain ⟨a, c, hv, _⟩ := hs
  obtain ⟨sk, so, si, sv, sl⟩ := s
  simp only at hv0 hv x0 x2 x3 HBX HS HWB HSL ⊢
  have hk : sk = 1 := hk
  subst hk
  subst hv
  obtain ⟨n, hn⟩ : ∃ n, n = xs.length := ⟨_, rfl⟩
  have HN := hid hn
  rw [← hn] at HLEN
  try rw [← hn] at hv0
  obtain ⟨ln, hln⟩ : ∃ ln, ln = sl.length := ⟨_, rfl⟩
  have RDL : Hid (∀ wr, Below W.heap.size W wr → ∀ i, i < ln → ∃ g off, a = some ⟨g, off, none⟩ ∧ wr.cell? ⟨g, off + i, none⟩ = some (.string (nthT sl i))) := fun wr hb i hi => by
    obtain ⟨a2, c2, e, hrd⟩ := HS.out.later hb
    injection e with e1 _ _
    obtain ⟨g, off, e2, y⟩ := hrd i _ (nthT_get (by omega))
    exact ⟨g, off, e1.trans e2, y⟩
  have HLN := hid hln
  rw [← hln] at x3 HBX HS HSL HWB ⊢
  have hn30 : n ≤ 1073741824 := by rw [hn]; exact hx
  have hl30 : ln ≤ 1073741824 := HSL.out
  have k0 : decide (si < 0) = true := by simpa using hv0
  have k1 : (si < 0) = True := eq_true hv0
  have k2 : (0 ≤ si) = False := eq_false (by omega)
  clear h hb hbx hg hwb hx hT hsl hb0 hn hln
  go_enter Try.func7, Try.ntmps7
  go_wp2_with fail
  rw [← HWB.out, ← HB0.out]
  refine HLEN.out.mono ?_
  rintro e w' ⟨rfl, rfl⟩
  clear HLEN
  have HSE := hid (HS0.out.send (HS.out.later (by obtain ⟨_, _, _, hB⟩ := HS0.out; exact hB.bl)) (by have h1 := HN.out; have h2 := HLN.out; omega))
  go_wp2_with fail
  refine HSE.out.mono ?_
  rintro e w1 ⟨rfl, HS1⟩
  clear HSE x0 x2
  go_wp2_with fail
  go_loopg [9] ln (fun g s9 wr => ∃ i : Nat, i ≤ ln ∧ g = ln - i ∧ s9 = .int .i64 i ∧ Hid (Bs W w' wr p q v vt vn (xs ++ sl) (addL T (sl.take i) 1)))
  case atStart => exact ⟨0, by omega, by omega, rfl, HS1.out⟩
  case round =>
    obtain ⟨i, hi, rfl, rfl, HSI⟩ := hrel
    clear x3
    have y3 := HBX.out.x3 _ _ _ HSI.out
    by_cases hlt : i < ln
    · have hlt' : i < sl.length := by rw [← HLN.out]; exact hlt
      obtain ⟨gb, off, rfl, y0⟩ := RDL.out wr (by obtain ⟨_, _, _, hB⟩ := HSI.out; exact hB.bl) i hlt
      have hadd := hid (HSI.out.add (nthT sl i) 1 (by omega) (sm_of (nod_addL 1 _ HG.out.nod) (fun m => by rw [val_addL, HG.out.val]) (fun m => by
        have h1 := cnt_bd m xs
        have h2 := cnt_take_le m sl i
        have h3 := cnt_bd m sl
        have h4 := HX.out
        have h5 := HLN.out
        omega)) (by
        have h1 := len_addL 1 (sl.take i) T
        have h2 := HT.out
        have h3 : (sl.take i).length ≤ sl.length := List.length_take_le' _ _
        have h4 := HLN.out
        omega))
      have e3 : addT (addL T (sl.take i) 1) (nthT sl i) 1 = addL T (sl.take (i + 1)) 1 := by
        rw [List.take_add_one, nthT_get hlt']
        exact (addL_snoc _ _ _ _).symm
      rw [e3] at hadd
      generalize nthT sl i = t at y0 hadd
      clear e3
      go_wp2_with fail
      refine hadd.out.mono ?_
      rintro e w2 ⟨rfl, HS2⟩
      go_wp2_with fail
      go_roundg (ln - (i + 1))
      case measure => omega
      case rel => exact ⟨i + 1, by omega, rfl, by go_num, HS2.out⟩
    · obtain rfl : ln = i := by omega
      have HLEN2 : Hid (∀ wz, Below wr.heap.size wr wz → Calls Try.prog 10 #[pt p] wz fun e w2 => e = .returned (.int .i64 ((n : Int) + (ln : Int))) ∧ w2 = wz) := fun wz hb => by
        have h1 := (HSI.out.later hb).len
        rw [List.length_append, ← HN.out, ← HLN.out] at h1
        exact h1
      have k1 : IntKind.i64.wrap ((n : Int) + (ln : Int)) = (n : Int) + (ln : Int) := by rw [IntKind.wrap_i64]; omega
      clear hlt hi
      go_wp2_with fail
      go_region_held3 (fun ws => ws.cell? ⟨b0, 3, none⟩ = some (.slice a ln c) ∧ Below wr.heap.size wr ws)
        ((refine (fun (hO : Below wr.heap.size wr _) => ⟨cell_later hO y3, hO⟩) ?_; (repeat (first | with_reducible exact Below.refl _ _ | with_reducible assumption | with_reducible refine Below.drew ?_ | with_reducible refine Below.al ?_ _ | with_reducible refine Below.setCell ?_ (by first | exact Nat.le_refl _ | (simp; omega) | (simp; done)) _ | with_reducible refine Below.on ?_ (by assumption)))))
        (first | (go_at_call 10; refine (HLEN2.out _ (by (repeat (first | with_reducible exact Below.refl _ _ | with_reducible assumption | with_reducible refine Below.drew ?_ | with_reducible refine Below.al ?_ _ | with_reducible refine Below.setCell ?_ (by first | exact Nat.le_refl _ | (simp; omega) | (simp; done)) _ | with_reducible refine Below.on ?_ (by assumption))))).mono ?_; rintro e w2 ⟨rfl, hw2⟩; have hb2 : Below wr.heap.size wr w2 := (by rw [hw2]; (repeat (first | with_reducible exact Below.refl _ _ | with_reducible assumption | with_reducible refine Below.drew ?_ | with_reducible refine Below.al ?_ _ | with_reducible refine Below.setCell ?_ (by first | exact Nat.le_refl _ | (simp; omega) | (simp; done)) _ | with_reducible refine Below.on ?_ (by assumption))))))
      all_goals go_wp2_with fail
      all_goals go_ret
      have hts : sl.take ln = sl := by rw [HLN.out]; exact List.take_of_length_le (Nat.le_refl _)
      have HE := HSI.out
      rw [hts] at HE
      refine ⟨rfl, xs ++ sl, addL T sl 1, (HE.later (Below.drew (Below.refl _ _))).bn, ⟨nod_addL 1 _ HG.out.nod, fun m => by rw [val_addL, HG.out.val, cnt_app]; omega⟩, by rw [List.length_append]; have := HLN.out; omega, ?_⟩
      have h1 := len_addL 1 sl T
      have h2 := HLN.out
      omega

set_option maxRecDepth 16000 in
set_option maxHeartbeats 8000000 in
theorem books_send_B {W w : World} {p q : Nat} {v vt vn : Value} {xs : List ByteArray} {T : Tl} (h : Bm W w w p q v vt vn v vt vn xs T) (hg : Tg T xs) (s : Sp) (hs : Rd W s.v s.l) (hx : xs.length ≤ 1073741824) (hT : T.length ≤ 1073741824) (hsl : s.l.length ≤ 1073741824) (hv0 : 0 ≤ s.i ∧ s.i < (xs.length : Int)) (hk : s.k = 1) :
    Calls Try.prog 7 #[pt q, pt p, s.val] w fun e w' => e = .returned (.bool true) ∧ Hid (Aft W w' p q xs T s.l.length) := by
  obtain ⟨wb, hwb⟩ : ∃ wb, wb = w.alloc (.cells #[.int .i64 s.k, .int .i64 s.o, .int .i64 s.i, s.v] 34) := ⟨_, rfl⟩
  obtain ⟨hb, hbx⟩ := box_is h s hwb
  have HBX := hid hbx
  have HS0 : Hid (Bs W wb wb p q v vt vn xs T) := ⟨v, vt, vn, hb⟩
  have HG := hid hg
  have HS := hid hs
  have HWB := hid hwb
  have HX := hid hx
  have HT := hid hT
  have HSL := hid hsl
  have x0 := hbx.x0 _ _ _ HS0.out
  have x2 := hbx.x2 _ _ _ HS0.out
  have x3 := hbx.x3 _ _ _ HS0.out
  have HLEN := hid HS0.out.len
  obtain ⟨b0, hb0⟩ : ∃ b0, b0 = w.heap.size := ⟨_, rfl⟩
  rw [← hb0] at x0 x2 x3 HBX
  have HB0 := hid hb0
  obtain ⟨a, c, hv, _⟩ := hs
  obtain ⟨sk, so, si, sv, sl⟩ := s
  simp only at hv0 hv x0 x2 x3 HBX HS HWB HSL ⊢
  have hk : sk = 1 := hk
  subst hk
  subst hv
  obtain ⟨n, hn⟩ : ∃ n, n = xs.length := ⟨_, rfl⟩
  have HN := hid hn
  rw [← hn] at HLEN
  try rw [← hn] at hv0
  obtain ⟨ln, hln⟩ : ∃ ln, ln = sl.length := ⟨_, rfl⟩
  have RDL : Hid (∀ wr, Below W.heap.size W wr → ∀ i, i < ln → ∃ g off, a = some ⟨g, off, none⟩ ∧ wr.cell? ⟨g, off + i, none⟩ = some (.string (nthT sl i))) := fun wr hb i hi => by
    obtain ⟨a2, c2, e, hrd⟩ := HS.out.later hb
    injection e with e1 _ _
    obtain ⟨g, off, e2, y⟩ := hrd i _ (nthT_get (by omega))
    exact ⟨g, off, e1.trans e2, y⟩
  have HLN := hid hln
  rw [← hln] at x3 HBX HS HSL HWB ⊢
  have hn30 : n ≤ 1073741824 := by rw [hn]; exact hx
  have hl30 : ln ≤ 1073741824 := HSL.out
  obtain ⟨j, hj⟩ : ∃ j : Nat, si = (j : Int) := ⟨si.toNat, by omega⟩
  subst hj
  have hjn : j < n := by omega
  have k1 : ((j : Int) < (n : Int)) = True := eq_true hv0.2
  have k2 : decide ((j : Int) < (n : Int)) = true := by simpa using hjn
  clear h hb hbx hg hwb hx hT hsl hb0 hn hln
  go_enter Try.func7, Try.ntmps7
  go_wp2_with fail
  rw [← HWB.out, ← HB0.out]
  refine HLEN.out.mono ?_
  rintro e w' ⟨rfl, rfl⟩
  clear HLEN
  have HSE := hid (HS0.out.send (HS.out.later (by obtain ⟨_, _, _, hB⟩ := HS0.out; exact hB.bl)) (by have h1 := HN.out; have h2 := HLN.out; omega))
  go_wp2_with fail
  refine HSE.out.mono ?_
  rintro e w1 ⟨rfl, HS1⟩
  clear HSE x0 x2
  go_wp2_with fail
  go_loopg [9] ln (fun g s9 wr => ∃ i : Nat, i ≤ ln ∧ g = ln - i ∧ s9 = .int .i64 i ∧ Hid (Bs W w' wr p q v vt vn (xs ++ sl) (addL T (sl.take i) 1)))
  case atStart => exact ⟨0, by omega, by omega, rfl, HS1.out⟩
  case round =>
    obtain ⟨i, hi, rfl, rfl, HSI⟩ := hrel
    clear x3
    have y3 := HBX.out.x3 _ _ _ HSI.out
    by_cases hlt : i < ln
    · have hlt' : i < sl.length := by rw [← HLN.out]; exact hlt
      obtain ⟨gb, off, rfl, y0⟩ := RDL.out wr (by obtain ⟨_, _, _, hB⟩ := HSI.out; exact hB.bl) i hlt
      have hadd := hid (HSI.out.add (nthT sl i) 1 (by omega) (sm_of (nod_addL 1 _ HG.out.nod) (fun m => by rw [val_addL, HG.out.val]) (fun m => by
        have h1 := cnt_bd m xs
        have h2 := cnt_take_le m sl i
        have h3 := cnt_bd m sl
        have h4 := HX.out
        have h5 := HLN.out
        omega)) (by
        have h1 := len_addL 1 (sl.take i) T
        have h2 := HT.out
        have h3 : (sl.take i).length ≤ sl.length := List.length_take_le' _ _
        have h4 := HLN.out
        omega))
      have e3 : addT (addL T (sl.take i) 1) (nthT sl i) 1 = addL T (sl.take (i + 1)) 1 := by
        rw [List.take_add_one, nthT_get hlt']
        exact (addL_snoc _ _ _ _).symm
      rw [e3] at hadd
      generalize nthT sl i = t at y0 hadd
      clear e3
      go_wp2_with fail
      refine hadd.out.mono ?_
      rintro e w2 ⟨rfl, HS2⟩
      go_wp2_with fail
      go_roundg (ln - (i + 1))
      case measure => omega
      case rel => exact ⟨i + 1, by omega, rfl, by go_num, HS2.out⟩
    · obtain rfl : ln = i := by omega
      have HLEN2 : Hid (∀ wz, Below wr.heap.size wr wz → Calls Try.prog 10 #[pt p] wz fun e w2 => e = .returned (.int .i64 ((n : Int) + (ln : Int))) ∧ w2 = wz) := fun wz hb => by
        have h1 := (HSI.out.later hb).len
        rw [List.length_append, ← HN.out, ← HLN.out] at h1
        exact h1
      have k1 : IntKind.i64.wrap ((n : Int) + (ln : Int)) = (n : Int) + (ln : Int) := by rw [IntKind.wrap_i64]; omega
      clear hlt hi
      go_wp2_with fail
      go_region_held3 (fun ws => ws.cell? ⟨b0, 3, none⟩ = some (.slice a ln c) ∧ Below wr.heap.size wr ws)
        ((refine (fun (hO : Below wr.heap.size wr _) => ⟨cell_later hO y3, hO⟩) ?_; (repeat (first | with_reducible exact Below.refl _ _ | with_reducible assumption | with_reducible refine Below.drew ?_ | with_reducible refine Below.al ?_ _ | with_reducible refine Below.setCell ?_ (by first | exact Nat.le_refl _ | (simp; omega) | (simp; done)) _ | with_reducible refine Below.on ?_ (by assumption)))))
        (first | (go_at_call 10; refine (HLEN2.out _ (by (repeat (first | with_reducible exact Below.refl _ _ | with_reducible assumption | with_reducible refine Below.drew ?_ | with_reducible refine Below.al ?_ _ | with_reducible refine Below.setCell ?_ (by first | exact Nat.le_refl _ | (simp; omega) | (simp; done)) _ | with_reducible refine Below.on ?_ (by assumption))))).mono ?_; rintro e w2 ⟨rfl, hw2⟩; have hb2 : Below wr.heap.size wr w2 := (by rw [hw2]; (repeat (first | with_reducible exact Below.refl _ _ | with_reducible assumption | with_reducible refine Below.drew ?_ | with_reducible refine Below.al ?_ _ | with_reducible refine Below.setCell ?_ (by first | exact Nat.le_refl _ | (simp; omega) | (simp; done)) _ | with_reducible refine Below.on ?_ (by assumption))))))
      all_goals go_wp2_with fail
      all_goals go_ret
      have hts : sl.take ln = sl := by rw [HLN.out]; exact List.take_of_length_le (Nat.le_refl _)
      have HE := HSI.out
      rw [hts] at HE
      refine ⟨rfl, xs ++ sl, addL T sl 1, (HE.later (Below.drew (Below.refl _ _))).bn, ⟨nod_addL 1 _ HG.out.nod, fun m => by rw [val_addL, HG.out.val, cnt_app]; omega⟩, by rw [List.length_append]; have := HLN.out; omega, ?_⟩
      have h1 := len_addL 1 sl T
      have h2 := HLN.out
      omega

set_option maxRecDepth 16000 in
set_option maxHeartbeats 8000000 in
theorem books_send_C {W w : World} {p q : Nat} {v vt vn : Value} {xs : List ByteArray} {T : Tl} (h : Bm W w w p q v vt vn v vt vn xs T) (hg : Tg T xs) (s : Sp) (hs : Rd W s.v s.l) (hx : xs.length ≤ 1073741824) (hT : T.length ≤ 1073741824) (hsl : s.l.length ≤ 1073741824) (hv0 : (xs.length : Int) ≤ s.i) (hk : s.k = 1) :
    Calls Try.prog 7 #[pt q, pt p, s.val] w fun e w' => e = .returned (.bool true) ∧ Hid (Aft W w' p q xs T s.l.length) := by
  obtain ⟨wb, hwb⟩ : ∃ wb, wb = w.alloc (.cells #[.int .i64 s.k, .int .i64 s.o, .int .i64 s.i, s.v] 34) := ⟨_, rfl⟩
  obtain ⟨hb, hbx⟩ := box_is h s hwb
  have HBX := hid hbx
  have HS0 : Hid (Bs W wb wb p q v vt vn xs T) := ⟨v, vt, vn, hb⟩
  have HG := hid hg
  have HS := hid hs
  have HWB := hid hwb
  have HX := hid hx
  have HT := hid hT
  have HSL := hid hsl
  have x0 := hbx.x0 _ _ _ HS0.out
  have x2 := hbx.x2 _ _ _ HS0.out
  have x3 := hbx.x3 _ _ _ HS0.out
  have HLEN := hid HS0.out.len
  obtain ⟨b0, hb0⟩ : ∃ b0, b0 = w.heap.size := ⟨_, rfl⟩
  rw [← hb0] at x0 x2 x3 HBX
  have HB0 := hid hb0
  obtain ⟨a, c, hv, _⟩ := hs
  obtain ⟨sk, so, si, sv, sl⟩ := s
  simp only at hv0 hv x0 x2 x3 HBX HS HWB HSL ⊢
  have hk : sk = 1 := hk
  subst hk
  subst hv
  obtain ⟨n, hn⟩ : ∃ n, n = xs.length := ⟨_, rfl⟩
  have HN := hid hn
  rw [← hn] at HLEN
  try rw [← hn] at hv0
  obtain ⟨ln, hln⟩ : ∃ ln, ln = sl.length := ⟨_, rfl⟩
  have RDL : Hid (∀ wr, Below W.heap.size W wr → ∀ i, i < ln → ∃ g off, a = some ⟨g, off, none⟩ ∧ wr.cell? ⟨g, off + i, none⟩ = some (.string (nthT sl i))) := fun wr hb i hi => by
    obtain ⟨a2, c2, e, hrd⟩ := HS.out.later hb
    injection e with e1 _ _
    obtain ⟨g, off, e2, y⟩ := hrd i _ (nthT_get (by omega))
    exact ⟨g, off, e1.trans e2, y⟩
  have HLN := hid hln
  rw [← hln] at x3 HBX HS HSL HWB ⊢
  have hn30 : n ≤ 1073741824 := by rw [hn]; exact hx
  have hl30 : ln ≤ 1073741824 := HSL.out
  have k0 : decide (si < 0) = false := by simp; omega
  have k1 : (si < 0) = False := eq_false (by omega)
  have k2 : (0 ≤ si) = True := eq_true (by omega)
  have k3 : (si < (n : Int)) = False := eq_false (by omega)
  have k4 : decide (si < (n : Int)) = false := by simpa using hv0
  clear h hb hbx hg hwb hx hT hsl hb0 hn hln
  go_enter Try.func7, Try.ntmps7
  go_wp2_with fail
  rw [← HWB.out, ← HB0.out]
  refine HLEN.out.mono ?_
  rintro e w' ⟨rfl, rfl⟩
  clear HLEN
  have HSE := hid (HS0.out.send (HS.out.later (by obtain ⟨_, _, _, hB⟩ := HS0.out; exact hB.bl)) (by have h1 := HN.out; have h2 := HLN.out; omega))
  go_wp2_with fail
  refine HSE.out.mono ?_
  rintro e w1 ⟨rfl, HS1⟩
  clear HSE x0 x2
  go_wp2_with fail
  go_loopg [9] ln (fun g s9 wr => ∃ i : Nat, i ≤ ln ∧ g = ln - i ∧ s9 = .int .i64 i ∧ Hid (Bs W w' wr p q v vt vn (xs ++ sl) (addL T (sl.take i) 1)))
  case atStart => exact ⟨0, by omega, by omega, rfl, HS1.out⟩
  case round =>
    obtain ⟨i, hi, rfl, rfl, HSI⟩ := hrel
    clear x3
    have y3 := HBX.out.x3 _ _ _ HSI.out
    by_cases hlt : i < ln
    · have hlt' : i < sl.length := by rw [← HLN.out]; exact hlt
      obtain ⟨gb, off, rfl, y0⟩ := RDL.out wr (by obtain ⟨_, _, _, hB⟩ := HSI.out; exact hB.bl) i hlt
      have hadd := hid (HSI.out.add (nthT sl i) 1 (by omega) (sm_of (nod_addL 1 _ HG.out.nod) (fun m => by rw [val_addL, HG.out.val]) (fun m => by
        have h1 := cnt_bd m xs
        have h2 := cnt_take_le m sl i
        have h3 := cnt_bd m sl
        have h4 := HX.out
        have h5 := HLN.out
        omega)) (by
        have h1 := len_addL 1 (sl.take i) T
        have h2 := HT.out
        have h3 : (sl.take i).length ≤ sl.length := List.length_take_le' _ _
        have h4 := HLN.out
        omega))
      have e3 : addT (addL T (sl.take i) 1) (nthT sl i) 1 = addL T (sl.take (i + 1)) 1 := by
        rw [List.take_add_one, nthT_get hlt']
        exact (addL_snoc _ _ _ _).symm
      rw [e3] at hadd
      generalize nthT sl i = t at y0 hadd
      clear e3
      go_wp2_with fail
      refine hadd.out.mono ?_
      rintro e w2 ⟨rfl, HS2⟩
      go_wp2_with fail
      go_roundg (ln - (i + 1))
      case measure => omega
      case rel => exact ⟨i + 1, by omega, rfl, by go_num, HS2.out⟩
    · obtain rfl : ln = i := by omega
      have HLEN2 : Hid (∀ wz, Below wr.heap.size wr wz → Calls Try.prog 10 #[pt p] wz fun e w2 => e = .returned (.int .i64 ((n : Int) + (ln : Int))) ∧ w2 = wz) := fun wz hb => by
        have h1 := (HSI.out.later hb).len
        rw [List.length_append, ← HN.out, ← HLN.out] at h1
        exact h1
      have k1 : IntKind.i64.wrap ((n : Int) + (ln : Int)) = (n : Int) + (ln : Int) := by rw [IntKind.wrap_i64]; omega
      clear hlt hi
      go_wp2_with fail
      go_region_held3 (fun ws => ws.cell? ⟨b0, 3, none⟩ = some (.slice a ln c) ∧ Below wr.heap.size wr ws)
        ((refine (fun (hO : Below wr.heap.size wr _) => ⟨cell_later hO y3, hO⟩) ?_; (repeat (first | with_reducible exact Below.refl _ _ | with_reducible assumption | with_reducible refine Below.drew ?_ | with_reducible refine Below.al ?_ _ | with_reducible refine Below.setCell ?_ (by first | exact Nat.le_refl _ | (simp; omega) | (simp; done)) _ | with_reducible refine Below.on ?_ (by assumption)))))
        (first | (go_at_call 10; refine (HLEN2.out _ (by (repeat (first | with_reducible exact Below.refl _ _ | with_reducible assumption | with_reducible refine Below.drew ?_ | with_reducible refine Below.al ?_ _ | with_reducible refine Below.setCell ?_ (by first | exact Nat.le_refl _ | (simp; omega) | (simp; done)) _ | with_reducible refine Below.on ?_ (by assumption))))).mono ?_; rintro e w2 ⟨rfl, hw2⟩; have hb2 : Below wr.heap.size wr w2 := (by rw [hw2]; (repeat (first | with_reducible exact Below.refl _ _ | with_reducible assumption | with_reducible refine Below.drew ?_ | with_reducible refine Below.al ?_ _ | with_reducible refine Below.setCell ?_ (by first | exact Nat.le_refl _ | (simp; omega) | (simp; done)) _ | with_reducible refine Below.on ?_ (by assumption))))))
      all_goals go_wp2_with fail
      all_goals go_ret
      have hts : sl.take ln = sl := by rw [HLN.out]; exact List.take_of_length_le (Nat.le_refl _)
      have HE := HSI.out
      rw [hts] at HE
      refine ⟨rfl, xs ++ sl, addL T sl 1, (HE.later (Below.drew (Below.refl _ _))).bn, ⟨nod_addL 1 _ HG.out.nod, fun m => by rw [val_addL, HG.out.val, cnt_app]; omega⟩, by rw [List.length_append]; have := HLN.out; omega, ?_⟩
      have h1 := len_addL 1 sl T
      have h2 := HLN.out
      omega
end Go.Proofs.Ytpnbgdbkiokooaa.Fl
