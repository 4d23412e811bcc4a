import Derived.Test.YtpnbgdbkiokooaaFkBooks
/- The other kinds of a step. -/
namespace Go.Proofs.Ytpnbgdbkiokooaa.Fl
open Go.RowKit Go.Sort Go.Proofs.Ytpnbgdbkiokooaa
set_option linter.unusedVariables false

set_option maxRecDepth 16000 in
set_option maxHeartbeats 8000000 in
theorem books_take_B {W w : World} {p q : Nat} {v vt vn : Value} {xs : List ByteArray} {T : Tl} (h : Bm W w w p q v vt vn v vt vn xs T) (hg : Tg T xs) (s : Sp) (hs : Rd W s.v s.l) (hx : xs.length ≤ 1073741824) (hT : T.length ≤ 1073741824) (hsl : s.l.length ≤ 1073741824) (hv0 : 0 ≤ s.i ∧ s.i < (xs.length : Int)) (hk : s.k = 4) :
    Calls Try.prog 7 #[pt q, pt p, s.val] w fun e w' => e = .returned (.bool true) ∧ Hid (Aft W w' p q xs T s.l.length) := by
  obtain ⟨wb, hwb⟩ : ∃ wb, wb = w.alloc (.cells #[.int .i64 s.k, .int .i64 s.o, .int .i64 s.i, s.v] 34) := ⟨_, rfl⟩
  obtain ⟨hb, hbx⟩ := box_is h s hwb
  have HBX := hid hbx
  have HS0 : Hid (Bs W wb wb p q v vt vn xs T) := ⟨v, vt, vn, hb⟩
  have HG := hid hg
  have HS := hid hs
  have HWB := hid hwb
  have HX := hid hx
  have HT := hid hT
  have HSL := hid hsl
  have x0 := hbx.x0 _ _ _ HS0.out
  have x2 := hbx.x2 _ _ _ HS0.out
  have x3 := hbx.x3 _ _ _ HS0.out
  have HLEN := hid HS0.out.len
  obtain ⟨b0, hb0⟩ : ∃ b0, b0 = w.heap.size := ⟨_, rfl⟩
  rw [← hb0] at x0 x2 x3 HBX
  have HB0 := hid hb0
  obtain ⟨a, c, hv, _⟩ := hs
  obtain ⟨sk, so, si, sv, sl⟩ := s
  simp only at hv0 hv x0 x2 x3 HBX HS HWB HSL ⊢
  have hk : sk = 4 := hk
  subst hk
  subst hv
  obtain ⟨n, hn⟩ : ∃ n, n = xs.length := ⟨_, rfl⟩
  have HN := hid hn
  rw [← hn] at HLEN
  try rw [← hn] at hv0
  obtain ⟨ln, hln⟩ : ∃ ln, ln = sl.length := ⟨_, rfl⟩
  have RDL : Hid (∀ wr, Below W.heap.size W wr → ∀ i, i < ln → ∃ g off, a = some ⟨g, off, none⟩ ∧ wr.cell? ⟨g, off + i, none⟩ = some (.string (nthT sl i))) := fun wr hb i hi => by
    obtain ⟨a2, c2, e, hrd⟩ := HS.out.later hb
    injection e with e1 _ _
    obtain ⟨g, off, e2, y⟩ := hrd i _ (nthT_get (by omega))
    exact ⟨g, off, e1.trans e2, y⟩
  have HLN := hid hln
  rw [← hln] at x3 HBX HS HSL HWB ⊢
  have hn30 : n ≤ 1073741824 := by rw [hn]; exact hx
  have hl30 : ln ≤ 1073741824 := HSL.out
  obtain ⟨j, hj⟩ : ∃ j : Nat, si = (j : Int) := ⟨si.toNat, by omega⟩
  subst hj
  have hjn : j < n := by omega
  have k1 : ((j : Int) < (n : Int)) = True := eq_true hv0.2
  have k2 : decide ((j : Int) < (n : Int)) = true := by simpa using hjn
  have hjx : j < xs.length := by rw [← HN.out]; exact hjn
  have HC := hid (HS0.out.take_in j (by have := HN.out; omega))
  have HQQ : Hid (∀ k, cnt k (xs.eraseIdx j) = cnt k xs + if nthT xs j = k then (-1) else 0) := fun k => by
    rw [cnt_erase k xs j hjx]; split <;> omega
  have HYL : Hid (((xs.eraseIdx j).length : Int) = (n : Int) - 1) := by
    have h1 := HN.out
    show _ = _
    rw [List.length_eraseIdx, if_pos hjx]
    omega
  have HMEM := hid (HG.out.mem (nthT_mem hjx))
  have HADD : Hid (∀ w1, Bs W wb w1 p q v vt vn (xs.eraseIdx j) T → Calls Try.prog 6 #[pt q, .string (nthT xs j), .int .i64 (-1)] w1 fun e w2 => e = .returned (.tuple #[]) ∧ Hid (Bs W wb w2 p q v vt vn (xs.eraseIdx j) (addT T (nthT xs j) (-1)))) := fun w1 h1 =>
    h1.add _ _ (by omega) (HG.out.sm (by have := HX.out; omega)) (by have := HT.out; omega)
  have HLEN2 : Hid (∀ w1 T', Bs W wb w1 p q v vt vn (xs.eraseIdx j) T' → Calls Try.prog 10 #[pt p] w1 fun e w2 => e = .returned (.int .i64 ((n : Int) - 1)) ∧ w2 = w1) := fun w1 T' h1 => by
    have h2 := h1.len
    rw [HYL.out] at h2
    exact h2
  have k5 : IntKind.i64.wrap ((n : Int) - 1) = (n : Int) - 1 := by rw [IntKind.wrap_i64]; omega
  have HEND : Hid (∀ w2, Bs W wb w2 p q v vt vn (xs.eraseIdx j) (addT T (nthT xs j) (-1)) → Aft W w2 p q xs T ln) := fun w2 h2 => ⟨_, _, h2.bn, HG.out.one HQQ.out, by have h1 := HYL.out; have h3 := HN.out; omega, by rw [len_in _ HMEM.out]; omega⟩
  obtain ⟨ys, hys⟩ : ∃ ys, ys = xs.eraseIdx j := ⟨_, rfl⟩
  rw [← hys] at HC HADD HLEN2 HEND
  generalize nthT xs j = t at HC HADD HEND
  generalize addT T t (-1) = T2 at HADD HEND
  clear HQQ HYL HMEM hys x3
  clear h hb hbx hg hwb hx hT hsl hb0 hn hln
  go_enter Try.func7, Try.ntmps7
  go_wp2_with fail
  rw [← HWB.out, ← HB0.out]
  refine HLEN.out.mono ?_
  rintro e w' ⟨rfl, rfl⟩
  go_wp2_with fail
  refine HC.out.mono ?_
  rintro e w1 ⟨rfl, HS1⟩
  go_wp2_with fail
  refine (HADD.out w1 HS1.out).mono ?_
  rintro e w2 ⟨rfl, HS2⟩
  go_wp2_with fail
  refine (HLEN2.out w2 _ HS2.out).mono ?_
  rintro e w3 ⟨rfl, rfl⟩
  go_wp2_with fail
  go_ret
  exact ⟨rfl, HEND.out _ HS2.out⟩

set_option maxRecDepth 16000 in
set_option maxHeartbeats 8000000 in
theorem books_take_A {W w : World} {p q : Nat} {v vt vn : Value} {xs : List ByteArray} {T : Tl} (h : Bm W w w p q v vt vn v vt vn xs T) (hg : Tg T xs) (s : Sp) (hs : Rd W s.v s.l) (hx : xs.length ≤ 1073741824) (hT : T.length ≤ 1073741824) (hsl : s.l.length ≤ 1073741824) (hv0 : s.i < 0) (hk : s.k = 4) :
    Calls Try.prog 7 #[pt q, pt p, s.val] w fun e w' => e = .returned (.bool true) ∧ Hid (Aft W w' p q xs T s.l.length) := by
  obtain ⟨wb, hwb⟩ : ∃ wb, wb = w.alloc (.cells #[.int .i64 s.k, .int .i64 s.o, .int .i64 s.i, s.v] 34) := ⟨_, rfl⟩
  obtain ⟨hb, hbx⟩ := box_is h s hwb
  have HBX := hid hbx
  have HS0 : Hid (Bs W wb wb p q v vt vn xs T) := ⟨v, vt, vn, hb⟩
  have HG := hid hg
  have HS := hid hs
  have HWB := hid hwb
  have HX := hid hx
  have HT := hid hT
  have HSL := hid hsl
  have x0 := hbx.x0 _ _ _ HS0.out
  have x2 := hbx.x2 _ _ _ HS0.out
  have x3 := hbx.x3 _ _ _ HS0.out
  have HLEN := hid HS0.out.len
  obtain ⟨b0, hb0⟩ : ∃ b0, b0 = w.heap.size := ⟨_, rfl⟩
  rw [← hb0] at x0 x2 x3 HBX
  have HB0 := hid hb0
  obtain ⟨a, c, hv, _⟩ := hs
  obtain ⟨sk, so, si, sv, sl⟩ := s
  simp only at hv0 hv x0 x2 x3 HBX HS HWB HSL ⊢
  have hk : sk = 4 := hk
  subst hk
  subst hv
  obtain ⟨n, hn⟩ : ∃ n, n = xs.length := ⟨_, rfl⟩
  have HN := hid hn
  rw [← hn] at HLEN
  try rw [← hn] at hv0
  obtain ⟨ln, hln⟩ : ∃ ln, ln = sl.length := ⟨_, rfl⟩
  have RDL : Hid (∀ wr, Below W.heap.size W wr → ∀ i, i < ln → ∃ g off, a = some ⟨g, off, none⟩ ∧ wr.cell? ⟨g, off + i, none⟩ = some (.string (nthT sl i))) := fun wr hb i hi => by
    obtain ⟨a2, c2, e, hrd⟩ := HS.out.later hb
    injection e with e1 _ _
    obtain ⟨g, off, e2, y⟩ := hrd i _ (nthT_get (by omega))
    exact ⟨g, off, e1.trans e2, y⟩
  have HLN := hid hln
  rw [← hln] at x3 HBX HS HSL HWB ⊢
  have hn30 : n ≤ 1073741824 := by rw [hn]; exact hx
  have hl30 : ln ≤ 1073741824 := HSL.out
  have k0 : decide (si < 0) = true := by simpa using hv0
  have k1 : (si < 0) = True := eq_true hv0
  have k2 : (0 ≤ si) = False := eq_false (by omega)
  have HC := hid (HS0.out.take_out si (by have := HN.out; omega))
  have HEND : Hid (Aft W wb p q xs T ln) := ⟨xs, T, HS0.out.bn, HG.out, by omega, by omega⟩
  clear x3
  clear h hb hbx hg hwb hx hT hsl hb0 hn hln
  go_enter Try.func7, Try.ntmps7
  go_wp2_with fail
  rw [← HWB.out, ← HB0.out]
  refine HLEN.out.mono ?_
  rintro e w' ⟨rfl, rfl⟩
  go_wp2_with fail
  refine HC.out.mono ?_
  rintro e w1 ⟨rfl, rfl⟩
  go_wp2_with fail
  refine HLEN.out.mono ?_
  rintro e w3 ⟨rfl, rfl⟩
  go_wp2_with fail
  go_ret
  exact ⟨rfl, HEND.out⟩

set_option maxRecDepth 16000 in
set_option maxHeartbeats 8000000 in
theorem books_take_C {W w : World} {p q : Nat} {v vt vn : Value} {xs : List ByteArray} {T : Tl} (h : Bm W w w p q v vt vn v vt vn xs T) (hg : Tg T xs) (s : Sp) (hs : Rd W s.v s.l) (hx : xs.length ≤ 1073741824) (hT : T.length ≤ 1073741824) (hsl : s.l.length ≤ 1073741824) (hv0 : (xs.length : Int) ≤ s.i) (hk : s.k = 4) :
    Calls Try.prog 7 #[pt q, pt p, s.val] w fun e w' => e = .returned (.bool true) ∧ Hid (Aft W w' p q xs T s.l.length) := by
  obtain ⟨wb, hwb⟩ : ∃ wb, wb = w.alloc (.cells #[.int .i64 s.k, .int .i64 s.o, .int .i64 s.i, s.v] 34) := ⟨_, rfl⟩
  obtain ⟨hb, hbx⟩ := box_is h s hwb
  have HBX := hid hbx
  have HS0 : Hid (Bs W wb wb p q v vt vn xs T) := ⟨v, vt, vn, hb⟩
  have HG := hid hg
  have HS := hid hs
  have HWB := hid hwb
  have HX := hid hx
  have HT := hid hT
  have HSL := hid hsl
  have x0 := hbx.x0 _ _ _ HS0.out
  have x2 := hbx.x2 _ _ _ HS0.out
  have x3 := hbx.x3 _ _ _ HS0.out
  have HLEN := hid HS0.out.len
  obtain ⟨b0, hb0⟩ : ∃ b0, b0 = w.heap.size := ⟨_, rfl⟩
  rw [← hb0] at x0 x2 x3 HBX
  have HB0 := hid hb0
  obtain ⟨a, c, hv, _⟩ := hs
  obtain ⟨sk, so, si, sv, sl⟩ := s
  simp only at hv0 hv x0 x2 x3 HBX HS HWB HSL ⊢
  have hk : sk = 4 := hk
  subst hk
  subst hv
  obtain ⟨n, hn⟩ : ∃ n, n = xs.length := ⟨_, rfl⟩
  have HN := hid hn
  rw [← hn] at HLEN
  try rw [← hn] at hv0
  obtain ⟨ln, hln⟩ : ∃ ln, ln = sl.length := ⟨_, rfl⟩
  have RDL : Hid (∀ wr, Below W.heap.size W wr → ∀ i, i < ln → ∃ g off, a = some ⟨g, off, none⟩ ∧ wr.cell? ⟨g, off + i, none⟩ = some (.string (nthT sl i))) := fun wr hb i hi => by
    obtain ⟨a2, c2, e, hrd⟩ := HS.out.later hb
    injection e with e1 _ _
    obtain ⟨g, off, e2, y⟩ := hrd i _ (nthT_get (by omega))
    exact ⟨g, off, e1.trans e2, y⟩
  have HLN := hid hln
  rw [← hln] at x3 HBX HS HSL HWB ⊢
  have hn30 : n ≤ 1073741824 := by rw [hn]; exact hx
  have hl30 : ln ≤ 1073741824 := HSL.out
  have k0 : decide (si < 0) = false := by simp; omega
  have k1 : (si < 0) = False := eq_false (by omega)
  have k2 : (0 ≤ si) = True := eq_true (by omega)
  have k3 : (si < (n : Int)) = False := eq_false (by omega)
  have k4 : decide (si < (n : Int)) = false := by simpa using hv0
  have HC := hid (HS0.out.take_out si (by have := HN.out; omega))
  have HEND : Hid (Aft W wb p q xs T ln) := ⟨xs, T, HS0.out.bn, HG.out, by omega, by omega⟩
  clear x3
  clear h hb hbx hg hwb hx hT hsl hb0 hn hln
  go_enter Try.func7, Try.ntmps7
  go_wp2_with fail
  rw [← HWB.out, ← HB0.out]
  refine HLEN.out.mono ?_
  rintro e w' ⟨rfl, rfl⟩
  go_wp2_with fail
  refine HC.out.mono ?_
  rintro e w1 ⟨rfl, rfl⟩
  go_wp2_with fail
  refine HLEN.out.mono ?_
  rintro e w3 ⟨rfl, rfl⟩
  go_wp2_with fail
  go_ret
  exact ⟨rfl, HEND.out⟩

set_option maxRecDepth 16000 in
set_option maxHeartbeats 8000000 in
theorem books_drop_B {W w : World} {p q : Nat} {v vt vn : Value} {xs : List ByteArray} {T : Tl} (h : Bm W w w p q v vt vn v vt vn xs T) (hg : Tg T xs) (s : Sp) (hs : Rd W s.v s.l) (hx : xs.length ≤ 1073741824) (hT : T.length ≤ 1073741824) (hsl : s.l.length ≤ 1073741824) (hv0 : 0 ≤ s.i ∧ s.i < (xs.length : Int)) (hk : s.k = 5) :
    Calls Try.prog 7 #[pt q, pt p, s.val] w fun e w' => e = .returned (.bool true) ∧ Hid (Aft W w' p q xs T s.l.length) := by
  obtain ⟨wb, hwb⟩ : ∃ wb, wb = w.alloc (.cells #[.int .i64 s.k, .int .i64 s.o, .int .i64 s.i, s.v] 34) := ⟨_, rfl⟩
  obtain ⟨hb, hbx⟩ := box_is h s hwb
  have HBX := hid hbx
  have HS0 : Hid (Bs W wb wb p q v vt vn xs T) := ⟨v, vt, vn, hb⟩
  have HG := hid hg
  have HS := hid hs
  have HWB := hid hwb
  have HX := hid hx
  have HT := hid hT
  have HSL := hid hsl
  have x0 := hbx.x0 _ _ _ HS0.out
  have x2 := hbx.x2 _ _ _ HS0.out
  have x3 := hbx.x3 _ _ _ HS0.out
  have HLEN := hid HS0.out.len
  obtain ⟨b0, hb0⟩ : ∃ b0, b0 = w.heap.size := ⟨_, rfl⟩
  rw [← hb0] at x0 x2 x3 HBX
  have HB0 := hid hb0
  obtain ⟨a, c, hv, _⟩ := hs
  obtain ⟨sk, so, si, sv, sl⟩ := s
  simp only at hv0 hv x0 x2 x3 HBX HS HWB HSL ⊢
  have hk : sk = 5 := hk
  subst hk
  subst hv
  obtain ⟨n, hn⟩ : ∃ n, n = xs.length := ⟨_, rfl⟩
  have HN := hid hn
  rw [← hn] at HLEN
  try rw [← hn] at hv0
  obtain ⟨ln, hln⟩ : ∃ ln, ln = sl.length := ⟨_, rfl⟩
  have RDL : Hid (∀ wr, Below W.heap.size W wr → ∀ i, i < ln → ∃ g off, a = some ⟨g, off, none⟩ ∧ wr.cell? ⟨g, off + i, none⟩ = some (.string (nthT sl i))) := fun wr hb i hi => by
    obtain ⟨a2, c2, e, hrd⟩ := HS.out.later hb
    injection e with e1 _ _
    obtain ⟨g, off, e2, y⟩ := hrd i _ (nthT_get (by omega))
    exact ⟨g, off, e1.trans e2, y⟩
  have HLN := hid hln
  rw [← hln] at x3 HBX HS HSL HWB ⊢
  have hn30 : n ≤ 1073741824 := by rw [hn]; exact hx
  have hl30 : ln ≤ 1073741824 := HSL.out
  obtain ⟨j, hj⟩ : ∃ j : Nat, si = (j : Int) := ⟨si.toNat, by omega⟩
  subst hj
  have hjn : j < n := by omega
  have k1 : ((j : Int) < (n : Int)) = True := eq_true hv0.2
  have k2 : decide ((j : Int) < (n : Int)) = true := by simpa using hjn
  have hjx : j < xs.length := by rw [← HN.out]; exact hjn
  have HC := hid (HS0.out.drop_in j (by have := HN.out; omega))
  have HLK := hid (HS0.out.look_in j hjx)
  have HQQ : Hid (∀ k, cnt k (xs.eraseIdx j) = cnt k xs + if nthT xs j = k then (-1) else 0) := fun k => by
    rw [cnt_erase k xs j hjx]; split <;> omega
  have HYL : Hid (((xs.eraseIdx j).length : Int) = (n : Int) + -1) := by
    have h1 := HN.out
    show _ = _
    rw [List.length_eraseIdx, if_pos hjx]
    omega
  have HMEM := hid (HG.out.mem (nthT_mem hjx))
  have HADD : Hid (∀ w1, Bs W wb w1 p q v vt vn (xs.eraseIdx j) T → Calls Try.prog 6 #[pt q, .string (nthT xs j), .int .i64 (-1)] w1 fun e w2 => e = .returned (.tuple #[]) ∧ Hid (Bs W wb w2 p q v vt vn (xs.eraseIdx j) (addT T (nthT xs j) (-1)))) := fun w1 h1 =>
    h1.add _ _ (by omega) (HG.out.sm (by have := HX.out; omega)) (by have := HT.out; omega)
  have HLEN2 : Hid (∀ w1 T', Bs W wb w1 p q v vt vn (xs.eraseIdx j) T' → Calls Try.prog 10 #[pt p] w1 fun e w2 => e = .returned (.int .i64 ((n : Int) + -1)) ∧ w2 = w1) := fun w1 T' h1 => by
    have h2 := h1.len
    rw [HYL.out] at h2
    exact h2
  have k5 : IntKind.i64.wrap ((n : Int) + -1) = (n : Int) + -1 := by rw [IntKind.wrap_i64]; omega
  have HEND : Hid (∀ w2, Bs W wb w2 p q v vt vn (xs.eraseIdx j) (addT T (nthT xs j) (-1)) → Aft W w2 p q xs T ln) := fun w2 h2 => ⟨_, _, h2.bn, HG.out.one HQQ.out, by have h1 := HYL.out; have h3 := HN.out; omega, by rw [len_in _ HMEM.out]; omega⟩
  obtain ⟨ys, hys⟩ : ∃ ys, ys = xs.eraseIdx j := ⟨_, rfl⟩
  rw [← hys] at HC HADD HLEN2 HEND
  generalize nthT xs j = t at HC HADD HEND HLK
  generalize addT T t (-1) = T2 at HADD HEND
  clear HQQ HYL HMEM hys x3
  clear h hb hbx hg hwb hx hT hsl hb0 hn hln
  go_enter Try.func7, Try.ntmps7
  go_wp2_with fail
  rw [← HWB.out, ← HB0.out]
  refine HLEN.out.mono ?_
  rintro e w' ⟨rfl, rfl⟩
  go_wp2_with fail
  refine HLK.out.mono ?_
  rintro e w1 ⟨rfl, rfl⟩
  go_wp2_with fail
  refine HC.out.mono ?_
  rintro e w1 ⟨rfl, HS1⟩
  go_wp2_with fail
  refine (HADD.out w1 HS1.out).mono ?_
  rintro e w2 ⟨rfl, HS2⟩
  go_wp2_with fail
  refine (HLEN2.out w2 _ HS2.out).mono ?_
  rintro e w3 ⟨rfl, rfl⟩
  go_wp2_with fail
  go_ret
  exact ⟨rfl, HEND.out _ HS2.out⟩

set_option maxRecDepth 16000 in
set_option maxHeartbeats 8000000 in
theorem books_drop_A {W w : World} {p q : Nat} {v vt vn : Value} {xs : List ByteArray} {T : Tl} (h : Bm W w w p q v vt vn v vt vn xs T) (hg : Tg T xs) (s : Sp) (hs : Rd W s.v s.l) (hx : xs.length ≤ 1073741824) (hT : T.length ≤ 1073741824) (hsl : s.l.length ≤ 1073741824) (hv0 : s.i < 0) (hk : s.k = 5) :
    Calls Try.prog 7 #[pt q, pt p, s.val] w fun e w' => e = .returned (.bool true) ∧ Hid (Aft W w' p q xs T s.l.length) := by
  obtain ⟨wb, hwb⟩ : ∃ wb, wb = w.alloc (.cells #[.int .i64 s.k, .int .i64 s.o, .int .i64 s.i, s.v] 34) := ⟨_, rfl⟩
  obtain ⟨hb, hbx⟩ := box_is h s hwb
  have HBX := hid hbx
  have HS0 : Hid (Bs W wb wb p q v vt vn xs T) := ⟨v, vt, vn, hb⟩
  have HG := hid hg
  have HS := hid hs
  have HWB := hid hwb
  have HX := hid hx
  have HT := hid hT
  have HSL := hid hsl
  have x0 := hbx.x0 _ _ _ HS0.out
  have x2 := hbx.x2 _ _ _ HS0.out
  have x3 := hbx.x3 _ _ _ HS0.out
  have HLEN := hid HS0.out.len
  obtain ⟨b0, hb0⟩ : ∃ b0, b0 = w.heap.size := ⟨_, rfl⟩
  rw [← hb0] at x0 x2 x3 HBX
  have HB0 := hid hb0
  obtain ⟨a, c, hv, _⟩ := hs
  obtain ⟨sk, so, si, sv, sl⟩ := s
  simp only at hv0 hv x0 x2 x3 HBX HS HWB HSL ⊢
  have hk : sk = 5 := hk
  subst hk
  subst hv
  obtain ⟨n, hn⟩ : ∃ n, n = xs.length := ⟨_, rfl⟩
  have HN := hid hn
  rw [← hn] at HLEN
  try rw [← hn] at hv0
  obtain ⟨ln, hln⟩ : ∃ ln, ln = sl.length := ⟨_, rfl⟩
  have RDL : Hid (∀ wr, Below W.heap.size W wr → ∀ i, i < ln → ∃ g off, a = some ⟨g, off, none⟩ ∧ wr.cell? ⟨g, off + i, none⟩ = some (.string (nthT sl i))) := fun wr hb i hi => by
    obtain ⟨a2, c2, e, hrd⟩ := HS.out.later hb
    injection e with e1 _ _
    obtain ⟨g, off, e2, y⟩ := hrd i _ (nthT_get (by omega))
    exact ⟨g, off, e1.trans e2, y⟩
  have HLN := hid hln
  rw [← hln] at x3 HBX HS HSL HWB ⊢
  have hn30 : n ≤ 1073741824 := by rw [hn]; exact hx
  have hl30 : ln ≤ 1073741824 := HSL.out
  have k0 : decide (si < 0) = true := by simpa using hv0
  have k1 : (si < 0) = True := eq_true hv0
  have k2 : (0 ≤ si) = False := eq_false (by omega)
  have HC := hid (HS0.out.drop_out si (by have := HN.out; omega))
  have HLK := hid (HS0.out.look_out si (by have := HN.out; omega))
  have HEND : Hid (Aft W wb p q xs T ln) := ⟨xs, T, HS0.out.bn, HG.out, by omega, by omega⟩
  clear x3
  clear h hb hbx hg hwb hx hT hsl hb0 hn hln
  go_enter Try.func7, Try.ntmps7
  go_wp2_with fail
  rw [← HWB.out, ← HB0.out]
  refine HLEN.out.mono ?_
  rintro e w' ⟨rfl, rfl⟩
  go_wp2_with fail
  refine HLK.out.mono ?_
  rintro e w1 ⟨rfl, rfl⟩
  go_wp2_with fail
  refine HC.out.mono ?_
  rintro e w1 ⟨rfl, rfl⟩
  go_wp2_with fail
  refine HLEN.out.mono ?_
  rintro e w3 ⟨rfl, rfl⟩
  go_wp2_with fail
  go_ret
  exact ⟨rfl, HEND.out⟩

set_option maxRecDepth 16000 in
set_option maxHeartbeats 8000000 in
theorem books_drop_C {W w : World} {p q : Nat} {v vt vn : Value} {xs : List ByteArray} {T : Tl} (h : Bm W w w p q v vt vn v vt vn xs T) (hg : Tg T xs) (s : Sp) (hs : Rd W s.v s.l) (hx : xs.length ≤ 1073741824) (hT : T.length ≤ 1073741824) (hsl : s.l.length ≤ 1073741824) (hv0 : (xs.length : Int) ≤ s.i) (hk : s.k = 5) :
    Calls Try.prog 7 #[pt q, pt p, s.val] w fun e w' => e = .returned (.bool true) ∧ Hid (Aft W w' p q xs T s.l.length) := by
  obtain ⟨wb, hwb⟩ : ∃ wb, wb = w.alloc (.cells #[.int .i64 s.k, .int .i64 s.o, .int .i64 s.i, s.v] 34) := ⟨_, rfl⟩
  obtain ⟨hb, hbx⟩ := box_is h s hwb
  have HBX := hid hbx
  have HS0 : Hid (Bs W wb wb p q v vt vn xs T) := ⟨v, vt, vn, hb⟩
  have HG := hid hg
  have HS := hid hs
  have HWB := hid hwb
  have HX := hid hx
  have HT := hid hT
  have HSL := hid hsl
  have x0 := hbx.x0 _ _ _ HS0.out
  have x2 := hbx.x2 _ _ _ HS0.out
  have x3 := hbx.x3 _ _ _ HS0.out
  have HLEN := hid HS0.out.len
  obtain ⟨b0, hb0⟩ : ∃ b0, b0 = w.heap.size := ⟨_, rfl⟩
  rw [← hb0] at x0 x2 x3 HBX
  have HB0 := hid hb0
  obtain ⟨a, c, hv, _⟩ := hs
  obtain ⟨sk, so, si, sv, sl⟩ := s
  simp only at hv0 hv x0 x2 x3 HBX HS HWB HSL ⊢
  have hk : sk = 5 := hk
  subst hk
  subst hv
  obtain ⟨n, hn⟩ : ∃ n, n = xs.length := ⟨_, rfl⟩
  have HN := hid hn
  rw [← hn] at HLEN
  try rw [← hn] at hv0
  obtain ⟨ln, hln⟩ : ∃ ln, ln = sl.length := ⟨_, rfl⟩
  have RDL : Hid (∀ wr, Below W.heap.size W wr → ∀ i, i < ln → ∃ g off, a = some ⟨g, off, none⟩ ∧ wr.cell? ⟨g, off + i, none⟩ = some (.string (nthT sl i))) := fun wr hb i hi => by
    obtain ⟨a2, c2, e, hrd⟩ := HS.out.later hb
    injection e with e1 _ _
    obtain ⟨g, off, e2, y⟩ := hrd i _ (nthT_get (by omega))
    exact ⟨g, off, e1.trans e2, y⟩
  have HLN := hid hln
  rw [← hln] at x3 HBX HS HSL HWB ⊢
  have hn30 : n ≤ 1073741824 := by rw [hn]; exact hx
  have hl30 : ln ≤ 1073741824 := HSL.out
  have k0 : decide (si < 0) = false := by simp; omega
  have k1 : (si < 0) = False := eq_false (by omega)
  have k2 : (0 ≤ si) = True := eq_true (by omega)
  have k3 : (si < (n : Int)) = False := eq_false (by omega)
  have k4 : decide (si < (n : Int)) = false := by simpa using hv0
  have HC := hid (HS0.out.drop_out si (by have := HN.out; omega))
  have HLK := hid (HS0.out.look_out si (by have := HN.out; omega))
  have HEND : Hid (Aft W wb p q xs T ln) := ⟨xs, T, HS0.out.bn, HG.out, by omega, by omega⟩
  clear x3
  clear h hb hbx hg hwb hx hT hsl hb0 hn hln
  go_enter Try.func7, Try.ntmps7
  go_wp2_with fail
  rw [← HWB.out, ← HB0.out]
  refine HLEN.out.mono ?_
  rintro e w' ⟨rfl, rfl⟩
  go_wp2_with fail
  refine HLK.out.mono ?_
  rintro e w1 ⟨rfl, rfl⟩
  go_wp2_with fail
  refine HC.out.mono ?_
  rintro e w1 ⟨rfl, rfl⟩
  go_wp2_with fail
  refine HLEN.out.mono ?_
  rintro e w3 ⟨rfl, rfl⟩
  go_wp2_with fail
  go_ret
  exact ⟨rfl, HEND.out⟩

set_option maxRecDepth 16000 in
set_option maxHeartbeats 8000000 in
theorem books_copy_B {W w : World} {p q : Nat} {v vt vn : Value} {xs : List ByteArray} {T : Tl} (h : Bm W w w p q v vt vn v vt vn xs T) (hg : Tg T xs) (s : Sp) (hs : Rd W s.v s.l) (hx : xs.length ≤ 1073741824) (hT : T.length ≤ 1073741824) (hsl : s.l.length ≤ 1073741824) (hv0 : 0 ≤ s.i ∧ s.i < (xs.length : Int)) (hk : s.k = 6) :
    Calls Try.prog 7 #[pt q, pt p, s.val] w fun e w' => e = .returned (.bool true) ∧ Hid (Aft W w' p q xs T s.l.length) := by
  obtain ⟨wb, hwb⟩ : ∃ wb, wb = w.alloc (.cells #[.int .i64 s.k, .int .i64 s.o, .int .i64 s.i, s.v] 34) := ⟨_, rfl⟩
  obtain ⟨hb, hbx⟩ := box_is h s hwb
  have HBX := hid hbx
  have HS0 : Hid (Bs W wb wb p q v vt vn xs T) := ⟨v, vt, vn, hb⟩
  have HG := hid hg
  have HS := hid hs
  have HWB := hid hwb
  have HX := hid hx
  have HT := hid hT
  have HSL := hid hsl
  have x0 := hbx.x0 _ _ _ HS0.out
  have x2 := hbx.x2 _ _ _ HS0.out
  have x3 := hbx.x3 _ _ _ HS0.out
  have HLEN := hid HS0.out.len
  obtain ⟨b0, hb0⟩ : ∃ b0, b0 = w.heap.size := ⟨_, rfl⟩
  rw [← hb0] at x0 x2 x3 HBX
  have HB0 := hid hb0
  obtain ⟨a, c, hv, _⟩ := hs
  obtain ⟨sk, so, si, sv, sl⟩ := s
  simp only at hv0 hv x0 x2 x3 HBX HS HWB HSL ⊢
  have hk : sk = 6 := hk
  subst hk
  subst hv
  obtain ⟨n, hn⟩ : ∃ n, n = xs.length := ⟨_, rfl⟩
  have HN := hid hn
  rw [← hn] at HLEN
  try rw [← hn] at hv0
  obtain ⟨ln, hln⟩ : ∃ ln, ln = sl.length := ⟨_, rfl⟩
  have RDL : Hid (∀ wr, Below W.heap.size W wr → ∀ i, i < ln → ∃ g off, a = some ⟨g, off, none⟩ ∧ wr.cell? ⟨g, off + i, none⟩ = some (.string (nthT sl i))) := fun wr hb i hi => by
    obtain ⟨a2, c2, e, hrd⟩ := HS.out.later hb
    injection e with e1 _ _
    obtain ⟨g, off, e2, y⟩ := hrd i _ (nthT_get (by omega))
    exact ⟨g, off, e1.trans e2, y⟩
  have HLN := hid hln
  rw [← hln] at x3 HBX HS HSL HWB ⊢
  have hn30 : n ≤ 1073741824 := by rw [hn]; exact hx
  have hl30 : ln ≤ 1073741824 := HSL.out
  obtain ⟨j, hj⟩ : ∃ j : Nat, si = (j : Int) := ⟨si.toNat, by omega⟩
  subst hj
  have hjn : j < n := by omega
  have k1 : ((j : Int) < (n : Int)) = True := eq_true hv0.2
  have k2 : decide ((j : Int) < (n : Int)) = true := by simpa using hjn
  have hjx : j < xs.length := by rw [← HN.out]; exact hjn
  have HC := hid (HS0.out.copy_in j (by have := HN.out; omega) (by have := HN.out; omega))
  have HLK := hid (HS0.out.look_in j hjx)
  have HQQ : Hid (∀ k, cnt k (xs ++ [nthT xs j]) = cnt k xs + if nthT xs j = k then (1) else 0) := fun k => by
    rw [cnt_app]; simp only [cnt]; omega
  have HYL : Hid (((xs ++ [nthT xs j]).length : Int) = (n : Int) + 1) := by
    have h1 := HN.out
    show _ = _
    rw [List.length_append]
    simp
    omega
  have HMEM := hid (HG.out.mem (nthT_mem hjx))
  have HADD : Hid (∀ w1, Bs W wb w1 p q v vt vn (xs ++ [nthT xs j]) T → Calls Try.prog 6 #[pt q, .string (nthT xs j), .int .i64 (1)] w1 fun e w2 => e = .returned (.tuple #[]) ∧ Hid (Bs W wb w2 p q v vt vn (xs ++ [nthT xs j]) (addT T (nthT xs j) (1)))) := fun w1 h1 =>
    h1.add _ _ (by omega) (HG.out.sm (by have := HX.out; omega)) (by have := HT.out; omega)
  have HLEN2 : Hid (∀ w1 T', Bs W wb w1 p q v vt vn (xs ++ [nthT xs j]) T' → Calls Try.prog 10 #[pt p] w1 fun e w2 => e = .returned (.int .i64 ((n : Int) + 1)) ∧ w2 = w1) := fun w1 T' h1 => by
    have h2 := h1.len
    rw [HYL.out] at h2
    exact h2
  have k5 : IntKind.i64.wrap ((n : Int) + 1) = (n : Int) + 1 := by rw [IntKind.wrap_i64]; omega
  have HEND : Hid (∀ w2, Bs W wb w2 p q v vt vn (xs ++ [nthT xs j]) (addT T (nthT xs j) (1)) → Aft W w2 p q xs T ln) := fun w2 h2 => ⟨_, _, h2.bn, HG.out.one HQQ.out, by have h1 := HYL.out; have h3 := HN.out; omega, by rw [len_in _ HMEM.out]; omega⟩
  obtain ⟨ys, hys⟩ : ∃ ys, ys = xs ++ [nthT xs j] := ⟨_, rfl⟩
  rw [← hys] at HC HADD HLEN2 HEND
  generalize nthT xs j = t at HC HADD HEND HLK
  generalize addT T t (1) = T2 at HADD HEND
  clear HQQ HYL HMEM hys x3
  clear h hb hbx hg hwb hx hT hsl hb0 hn hln
  go_enter Try.func7, Try.ntmps7
  go_wp2_with fail
  rw [← HWB.out, ← HB0.out]
  refine HLEN.out.mono ?_
  rintro e w' ⟨rfl, rfl⟩
  go_wp2_with fail
  refine HLK.out.mono ?_
  rintro e w1 ⟨rfl, rfl⟩
  go_wp2_with fail
  refine HC.out.mono ?_
  rintro e w1 ⟨rfl, HS1⟩
  go_wp2_with fail
  refine (HADD.out w1 HS1.out).mono ?_
  rintro e w2 ⟨rfl, HS2⟩
  go_wp2_with fail
  refine (HLEN2.out w2 _ HS2.out).mono ?_
  rintro e w3 ⟨rfl, rfl⟩
  go_wp2_with fail
  go_ret
  exact ⟨rfl, HEND.out _ HS2.out⟩

set_option maxRecDepth 16000 in
set_option maxHeartbeats 8000000 in
theorem books_copy_A {W w : World} {p q : Nat} {v vt vn : Value} {xs : List ByteArray} {T : Tl} (h : Bm W w w p q v vt vn v vt vn xs T) (hg : Tg T xs) (s : Sp) (hs : Rd W s.v s.l) (hx : xs.length ≤ 1073741824) (hT : T.length ≤ 1073741824) (hsl : s.l.length ≤ 1073741824) (hv0 : s.i < 0) (hk : s.k = 6) :
    Calls Try.prog 7 #[pt q, pt p, s.val] w fun e w' => e = .returned (.bool true) ∧ Hid (Aft W w' p q xs T s.l.length) := by
  obtain ⟨wb, hwb⟩ : ∃ wb, wb = w.alloc (.cells #[.int .i64 s.k, .int .i64 s.o, .int .i64 s.i, s.v] 34) := ⟨_, rfl⟩
  obtain ⟨hb, hbx⟩ := box_is h s hwb
  have HBX := hid hbx
  have HS0 : Hid (Bs W wb wb p q v vt vn xs T) := ⟨v, vt, vn, hb⟩
  have HG := hid hg
  have HS := hid hs
  have HWB := hid hwb
  have HX := hid hx
  have HT := hid hT
  have HSL := hid hsl
  have x0 := hbx.x0 _ _ _ HS0.out
  have x2 := hbx.x2 _ _ _ HS0.out
  have x3 := hbx.x3 _ _ _ HS0.out
  have HLEN := hid HS0.out.len
  obtain ⟨b0, hb0⟩ : ∃ b0, b0 = w.heap.size := ⟨_, rfl⟩
  rw [← hb0] at x0 x2 x3 HBX
  have HB0 := hid hb0
  obtain ⟨a, c, hv, _⟩ := hs
  obtain ⟨sk, so, si, sv, sl⟩ := s
  simp only at hv0 hv x0 x2 x3 HBX HS HWB HSL ⊢
  have hk : sk = 6 := hk
  subst hk
  subst hv
  obtain ⟨n, hn⟩ : ∃ n, n = xs.length := ⟨_, rfl⟩
  have HN := hid hn
  rw [← hn] at HLEN
  try rw [← hn] at hv0
  obtain ⟨ln, hln⟩ : ∃ ln, ln = sl.length := ⟨_, rfl⟩
  have RDL : Hid (∀ wr, Below W.heap.size W wr → ∀ i, i < ln → ∃ g off, a = some ⟨g, off, none⟩ ∧ wr.cell? ⟨g, off + i, none⟩ = some (.string (nthT sl i))) := fun wr hb i hi => by
    obtain ⟨a2, c2, e, hrd⟩ := HS.out.later hb
    injection e with e1 _ _
    obtain ⟨g, off, e2, y⟩ := hrd i _ (nthT_get (by omega))
    exact ⟨g, off, e1.trans e2, y⟩
  have HLN := hid hln
  rw [← hln] at x3 HBX HS HSL HWB ⊢
  have hn30 : n ≤ 1073741824 := by rw [hn]; exact hx
  have hl30 : ln ≤ 1073741824 := HSL.out
  have k0 : decide (si < 0) = true := by simpa using hv0
  have k1 : (si < 0) = True := eq_true hv0
  have k2 : (0 ≤ si) = False := eq_false (by omega)
  have HC := hid (HS0.out.copy_out si (by have := HN.out; omega))
  have HLK := hid (HS0.out.look_out si (by have := HN.out; omega))
  have HEND : Hid (Aft W wb p q xs T ln) := ⟨xs, T, HS0.out.bn, HG.out, by omega, by omega⟩
  clear x3
  clear h hb hbx hg hwb hx hT hsl hb0 hn hln
  go_enter Try.func7, Try.ntmps7
  go_wp2_with fail
  rw [← HWB.out, ← HB0.out]
  refine HLEN.out.mono ?_
  rintro e w' ⟨rfl, rfl⟩
  go_wp2_with fail
  refine HLK.out.mono ?_
  rintro e w1 ⟨rfl, rfl⟩
  go_wp2_with fail
  refine HC.out.mono ?_
  rintro e w1 ⟨rfl, rfl⟩
  go_wp2_with fail
  refine HLEN.out.mono ?_
  rintro e w3 ⟨rfl, rfl⟩
  go_wp2_with fail
  go_ret
  exact ⟨rfl, HEND.out⟩

set_option maxRecDepth 16000 in
set_option maxHeartbeats 8000000 in
theorem books_copy_C {W w : World} {p q : Nat} {v vt vn : Value} {xs : List ByteArray} {T : Tl} (h : Bm W w w p q v vt vn v vt vn xs T) (hg : Tg T xs) (s : Sp) (hs : Rd W s.v s.l) (hx : xs.length ≤ 1073741824) (hT : T.length ≤ 1073741824) (hsl : s.l.length ≤ 1073741824) (hv0 : (xs.length : Int) ≤ s.i) (hk : s.k = 6) :
    Calls Try.prog 7 #[pt q, pt p, s.val] w fun e w' => e = .returned (.bool true) ∧ Hid (Aft W w' p q xs T s.l.length) := by
  obtain ⟨wb, hwb⟩ : ∃ wb, wb = w.alloc (.cells #[.int .i64 s.k, .int .i64 s.o, .int .i64 s.i, s.v] 34) := ⟨_, rfl⟩
  obtain ⟨hb, hbx⟩ := box_is h s hwb
  have HBX := hid hbx
  have HS0 : Hid (Bs W wb wb p q v vt vn xs T) := ⟨v, vt, vn, hb⟩
  have HG := hid hg
  have HS := hid hs
  have HWB := hid hwb
  have HX := hid hx
  have HT := hid hT
  have HSL := hid hsl
  have x0 := hbx.x0 _ _ _ HS0.out
  have x2 := hbx.x2 _ _ _ HS0.out
  have x3 := hbx.x3 _ _ _ HS0.out
  have HLEN := hid HS0.out.len
  obtain ⟨b0, hb0⟩ : ∃ b0, b0 = w.heap.size := ⟨_, rfl⟩
  rw [← hb0] at x0 x2 x3 HBX
  have HB0 := hid hb0
  obtain ⟨a, c, hv, _⟩ := hs
  obtain ⟨sk, so, si, sv, sl⟩ := s
  simp only at hv0 hv x0 x2 x3 HBX HS HWB HSL ⊢
  have hk : sk = 6 := hk
  subst hk
  subst hv
  obtain ⟨n, hn⟩ : ∃ n, n = xs.length := ⟨_, rfl⟩
  have HN := hid hn
  rw [← hn] at HLEN
  try rw [← hn] at hv0
  obtain ⟨ln, hln⟩ : ∃ ln, ln = sl.length := ⟨_, rfl⟩
  have RDL : Hid (∀ wr, Below W.heap.size W wr → ∀ i, i < ln → ∃ g off, a = some ⟨g, off, none⟩ ∧ wr.cell? ⟨g, off + i, none⟩ = some (.string (nthT sl i))) := fun wr hb i hi => by
    obtain ⟨a2, c2, e, hrd⟩ := HS.out.later hb
    injection e with e1 _ _
    obtain ⟨g, off, e2, y⟩ := hrd i _ (nthT_get (by omega))
    exact ⟨g, off, e1.trans e2, y⟩
  have HLN := hid hln
  rw [← hln] at x3 HBX HS HSL HWB ⊢
  have hn30 : n ≤ 1073741824 := by rw [hn]; exact hx
  have hl30 : ln ≤ 1073741824 := HSL.out
  have k0 : decide (si < 0) = false := by simp; omega
  have k1 : (si < 0) = False := eq_false (by omega)
  have k2 : (0 ≤ si) = True := eq_true (by omega)
  have k3 : (si < (n : Int)) = False := eq_false (by omega)
  have k4 : decide (si < (n : Int)) = false := by simpa using hv0
  have HC := hid (HS0.out.copy_out si (by have := HN.out; omega))
  have HLK := hid (HS0.out.look_out si (by have := HN.out; omega))
  have HEND : Hid (Aft W wb p q xs T ln) := ⟨xs, T, HS0.out.bn, HG.out, by omega, by omega⟩
  clear x3
  clear h hb hbx hg hwb hx hT hsl hb0 hn hln
  go_enter Try.func7, Try.ntmps7
  go_wp2_with fail
  rw [← HWB.out, ← HB0.out]
  refine HLEN.out.mono ?_
  rintro e w' ⟨rfl, rfl⟩
  go_wp2_with fail
  refine HLK.out.mono ?_
  rintro e w1 ⟨rfl, rfl⟩
  go_wp2_with fail
  refine HC.out.mono ?_
  rintro e w1 ⟨rfl, rfl⟩
  go_wp2_with fail
  refine HLEN.out.mono ?_
  rintro e w3 ⟨rfl, rfl⟩
  go_wp2_with fail
  go_ret
  exact ⟨rfl, HEND.out⟩

set_option maxRecDepth 16000 in
set_option maxHeartbeats 8000000 in
theorem books_drain_A {W w : World} {p q : Nat} {v vt vn : Value} {xs : List ByteArray} {T : Tl} (h : Bm W w w p q v vt vn v vt vn xs T) (hg : Tg T xs) (s : Sp) (hs : Rd W s.v s.l) (hx : xs.length ≤ 1073741824) (hT : T.length ≤ 1073741824) (hsl : s.l.length ≤ 1073741824) (hv0 : s.i < 0) (hk : s.k = 7) :
    Calls Try.prog 7 #[pt q, pt p, s.val] w fun e w' => e = .returned (.bool true) ∧ Hid (Aft W w' p q xs T s.l.length) := by
  obtain ⟨wb, hwb⟩ : ∃ wb, wb = w.alloc (.cells #[.int .i64 s.k, .int .i64 s.o, .int .i64 s.i, s.v] 34) := ⟨_, rfl⟩
  obtain ⟨hb, hbx⟩ := box_is h s hwb
  have HBX := hid hbx
  have HS0 : Hid (Bs W wb wb p q v vt vn xs T) := ⟨v, vt, vn, hb⟩
  have HG := hid hg
  have HS := hid hs
  have HWB := hid hwb
  have HX := hid hx
  have HT := hid hT
  have HSL := hid hsl
  have x0 := hbx.x0 _ _ _ HS0.out
  have x2 := hbx.x2 _ _ _ HS0.out
  have x3 := hbx.x3 _ _ _ HS0.out
  have HLEN := hid HS0.out.len
  obtain ⟨b0, hb0⟩ : ∃ b0, b0 = w.heap.size := ⟨_, rfl⟩
  rw [← hb0] at x0 x2 x3 HBX
  have HB0 := hid hb0
  obtain ⟨a, c, hv, _⟩ := hs
  obtain ⟨sk, so, si, sv, sl⟩ := s
  simp only at hv0 hv x0 x2 x3 HBX HS HWB HSL ⊢
  have hk : sk = 7 := hk
  subst hk
  subst hv
  obtain ⟨n, hn⟩ : ∃ n, n = xs.length := ⟨_, rfl⟩
  have HN := hid hn
  rw [← hn] at HLEN
  try rw [← hn] at hv0
  obtain ⟨ln, hln⟩ : ∃ ln, ln = sl.length := ⟨_, rfl⟩
  have RDL : Hid (∀ wr, Below W.heap.size W wr → ∀ i, i < ln → ∃ g off, a = some ⟨g, off, none⟩ ∧ wr.cell? ⟨g, off + i, none⟩ = some (.string (nthT sl i))) := fun wr hb i hi => by
    obtain ⟨a2, c2, e, hrd⟩ := HS.out.later hb
    injection e with e1 _ _
    obtain ⟨g, off, e2, y⟩ := hrd i _ (nthT_get (by omega))
    exact ⟨g, off, e1.trans e2, y⟩
  have HLN := hid hln
  rw [← hln] at x3 HBX HS HSL HWB ⊢
  have hn30 : n ≤ 1073741824 := by rw [hn]; exact hx
  have hl30 : ln ≤ 1073741824 := HSL.out
  have k0 : decide (si < 0) = true := by simpa using hv0
  have k1 : (si < 0) = True := eq_true hv0
  have k2 : (0 ≤ si) = False := eq_false (by omega)
  have HC := HS0.out.drain si (by have := HX.out; omega) HG.out
  rw [← HN.out] at HC
  have HC := hid HC
  have HMEM : Hid (∀ i, i < n → nthT (rot xs si) i ∈ ky T) := fun i hi => HG.out.mem (by
    have hl : i < (rot xs si).length := by rw [rot, List.length_append, List.length_drop, List.length_take]; have := HN.out; omega
    have h1 := nthT_mem hl
    rw [rot] at h1
    rcases List.mem_append.1 h1 with h2 | h2
    · exact List.mem_of_mem_drop h2
    · exact List.mem_of_mem_take h2)
  have HRL : Hid ((rot xs si).length = n) := by show _ = _; rw [rot, List.length_append, List.length_drop, List.length_take]; have := HN.out; omega
  have HRC : Hid (∀ m, cnt m (rot xs si) = cnt m xs) := fun m => cnt_rot m xs si
  generalize rot xs si = ys at HC HMEM HRL HRC
  clear x3
  clear h hb hbx hg hwb hx hT hsl hb0 hn hln
  go_enter Try.func7, Try.ntmps7
  go_wp2_with fail
  rw [← HWB.out, ← HB0.out]
  refine HLEN.out.mono ?_
  rintro e w' ⟨rfl, rfl⟩
  go_wp2_with fail
  refine HC.out.mono ?_
  rintro e w1 ⟨a2, c2, rfl, HD⟩
  clear HC x0 x2 HLEN
  go_wp2_with fail
  go_loopg [17] n (fun g s17 wr => ∃ i : Nat, i ≤ n ∧ g = n - i ∧ s17 = .int .i64 i ∧ Hid (Dr W w' wr p q v vt vn (.slice a2 n c2) ys T n (fun m => cnt m xs - cnt m (ys.take i))))
  case atStart => exact ⟨0, by omega, by omega, rfl, HD.out⟩
  case round =>
    obtain ⟨i, hi, rfl, rfl, HI⟩ := hrel
    clear HD
    have hcap : ∃ c0, a2 = none ∧ n = 0 ∨ n ≤ c0 := ⟨n, .inr (Nat.le_refl _)⟩
    by_cases hlt : i < n
    · have hlt' : i < ys.length := by rw [HRL.out]; exact hlt
      have hrow := HI.out.row
      obtain ⟨gb, off, rfl, y0⟩ : ∃ g off, a2 = some ⟨g, off, none⟩ ∧ wr.cell? ⟨g, off + i, none⟩ = some (.string (nthT ys i)) := by
        rcases hrow with ⟨_, e0⟩ | ⟨g, off, c3, e, _, hr2⟩
        · rw [e0] at hlt'; simp at hlt'
        · injection e with e1 _ _
          exact ⟨g, off, e1, hr2.at_ i _ (nthT_get hlt')⟩
      have hadd := hid (HI.out.add (g := fun m => cnt m xs - cnt m (ys.take (i + 1))) (b := -1) (HMEM.out i hlt) (fun k => by
        have := cnt_take k ys hlt'
        rw [this]; split <;> omega) (fun m => by
        have h1 := cnt_bd m xs
        have h2 := cnt_take_le m ys (i + 1)
        have h3 := HRC.out m
        have h4 := HN.out
        omega) (by omega) (by have := HT.out; omega) (by omega))
      generalize nthT ys i = t at y0 hadd
      clear hrow hlt'
      go_wp2_with fail
      refine hadd.out.mono ?_
      rintro e w2 ⟨rfl, HI2⟩
      go_wp2_with fail
      go_roundg (n - (i + 1))
      case measure => omega
      case rel => exact ⟨i + 1, by omega, rfl, by go_num, HI2.out⟩
    · obtain rfl : n = i := by omega
      obtain ⟨_, v2, vt2, vn2, T2, hB2, _, hz2⟩ := HI.out
      have HLEN2 := hid (len_is hB2.fl)
      have HEND : Hid (Aft W wr p q xs T ln) := ⟨[], T2, ⟨v2, vt2, vn2, hB2.again⟩, ⟨hz2.nod, fun m => by
        rw [hz2.val, List.take_of_length_le (by have := HRL.out; omega), HRC.out]
        simp [cnt]⟩, by simp, by rw [hz2.len]; omega⟩
      clear hlt hi hB2 hz2
      go_wp2_with fail
      refine HLEN2.out.mono ?_
      rintro e w3 ⟨rfl, rfl⟩
      go_wp2_with fail
      go_ret
      exact ⟨rfl, HEND.out⟩

set_option maxRecDepth 16000 in
set_option maxHeartbeats 8000000 in
theorem books_drain_B {W w : World} {p q : Nat} {v vt vn : Value} {xs : List ByteArray} {T : Tl} (h : Bm W w w p q v vt vn v vt vn xs T) (hg : Tg T xs) (s : Sp) (hs : Rd W s.v s.l) (hx : xs.length ≤ 1073741824) (hT : T.length ≤ 1073741824) (hsl : s.l.length ≤ 1073741824) (hv0 : 0 ≤ s.i ∧ s.i < (xs.length : Int)) (hk : s.k = 7) :
    Calls Try.prog 7 #[pt q, pt p, s.val] w fun e w' => e = .returned (.bool true) ∧ Hid (Aft W w' p q xs T s.l.length) := by
  obtain ⟨wb, hwb⟩ : ∃ wb, wb = w.alloc (.cells #[.int .i64 s.k, .int .i64 s.o, .int .i64 s.i, s.v] 34) := ⟨_, rfl⟩
  obtain ⟨hb, hbx⟩ := box_is h s hwb
  have HBX := hid hbx
  have HS0 : Hid (Bs W wb wb p q v vt vn xs T) := ⟨v, vt, vn, hb⟩
  have HG := hid hg
  have HS := hid hs
  have HWB := hid hwb
  have HX := hid hx
  have HT := hid hT
  have HSL := hid hsl
  have x0 := hbx.x0 _ _ _ HS0.out
  have x2 := hbx.x2 _ _ _ HS0.out
  have x3 := hbx.x3 _ _ _ HS0.out
  have HLEN := hid HS0.out.len
  obtain ⟨b0, hb0⟩ : ∃ b0, b0 = w.heap.size := ⟨_, rfl⟩
  rw [← hb0] at x0 x2 x3 HBX
  have HB0 := hid hb0
  obtain ⟨a, c, hv, _⟩ := hs
  obtain ⟨sk, so, si, sv, sl⟩ := s
  simp only at hv0 hv x0 x2 x3 HBX HS HWB HSL ⊢
  have hk : sk = 7 := hk
  subst hk
  subst hv
  obtain ⟨n, hn⟩ : ∃ n, n = xs.length := ⟨_, rfl⟩
  have HN := hid hn
  rw [← hn] at HLEN
  try rw [← hn] at hv0
  obtain ⟨ln, hln⟩ : ∃ ln, ln = sl.length := ⟨_, rfl⟩
  have RDL : Hid (∀ wr, Below W.heap.size W wr → ∀ i, i < ln → ∃ g off, a = some ⟨g, off, none⟩ ∧ wr.cell? ⟨g, off + i, none⟩ = some (.string (nthT sl i))) := fun wr hb i hi => by
    obtain ⟨a2, c2, e, hrd⟩ := HS.out.later hb
    injection e with e1 _ _
    obtain ⟨g, off, e2, y⟩ := hrd i _ (nthT_get (by omega))
    exact ⟨g, off, e1.trans e2, y⟩
  have HLN := hid hln
  rw [← hln] at x3 HBX HS HSL HWB ⊢
  have hn30 : n ≤ 1073741824 := by rw [hn]; exact hx
  have hl30 : ln ≤ 1073741824 := HSL.out
  obtain ⟨j, hj⟩ : ∃ j : Nat, si = (j : Int) := ⟨si.toNat, by omega⟩
  subst hj
  have hjn : j < n := by omega
  have k1 : ((j : Int) < (n : Int)) = True := eq_true hv0.2
  have k2 : decide ((j : Int) < (n : Int)) = true := by simpa using hjn
  have HC := HS0.out.drain (j : Int) (by have := HX.out; omega) HG.out
  rw [← HN.out] at HC
  have HC := hid HC
  have HMEM : Hid (∀ i, i < n → nthT (rot xs (j : Int)) i ∈ ky T) := fun i hi => HG.out.mem (by
    have hl : i < (rot xs (j : Int)).length := by rw [rot, List.length_append, List.length_drop, List.length_take]; have := HN.out; omega
    have h1 := nthT_mem hl
    rw [rot] at h1
    rcases List.mem_append.1 h1 with h2 | h2
    · exact List.mem_of_mem_drop h2
    · exact List.mem_of_mem_take h2)
  have HRL : Hid ((rot xs (j : Int)).length = n) := by show _ = _; rw [rot, List.length_append, List.length_drop, List.length_take]; have := HN.out; omega
  have HRC : Hid (∀ m, cnt m (rot xs (j : Int)) = cnt m xs) := fun m => cnt_rot m xs (j : Int)
  generalize rot xs (j : Int) = ys at HC HMEM HRL HRC
  clear x3
  clear h hb hbx hg hwb hx hT hsl hb0 hn hln
  go_enter Try.func7, Try.ntmps7
  go_wp2_with fail
  rw [← HWB.out, ← HB0.out]
  refine HLEN.out.mono ?_
  rintro e w' ⟨rfl, rfl⟩
  go_wp2_with fail
  refine HC.out.mono ?_
  rintro e w1 ⟨a2, c2, rfl, HD⟩
  clear HC x0 x2 HLEN
  go_wp2_with fail
  go_loopg [17] n (fun g s17 wr => ∃ i : Nat, i ≤ n ∧ g = n - i ∧ s17 = .int .i64 i ∧ Hid (Dr W w' wr p q v vt vn (.slice a2 n c2) ys T n (fun m => cnt m xs - cnt m (ys.take i))))
  case atStart => exact ⟨0, by omega, by omega, rfl, HD.out⟩
  case round =>
    obtain ⟨i, hi, rfl, rfl, HI⟩ := hrel
    clear HD
    have hcap : ∃ c0, a2 = none ∧ n = 0 ∨ n ≤ c0 := ⟨n, .inr (Nat.le_refl _)⟩
    by_cases hlt : i < n
    · have hlt' : i < ys.length := by rw [HRL.out]; exact hlt
      have hrow := HI.out.row
      obtain ⟨gb, off, rfl, y0⟩ : ∃ g off, a2 = some ⟨g, off, none⟩ ∧ wr.cell? ⟨g, off + i, none⟩ = some (.string (nthT ys i)) := by
        rcases hrow with ⟨_, e0⟩ | ⟨g, off, c3, e, _, hr2⟩
        · rw [e0] at hlt'; simp at hlt'
        · injection e with e1 _ _
          exact ⟨g, off, e1, hr2.at_ i _ (nthT_get hlt')⟩
      have hadd := hid (HI.out.add (g := fun m => cnt m xs - cnt m (ys.take (i + 1))) (b := -1) (HMEM.out i hlt) (fun k => by
        have := cnt_take k ys hlt'
        rw [this]; split <;> omega) (fun m => by
        have h1 := cnt_bd m xs
        have h2 := cnt_take_le m ys (i + 1)
        have h3 := HRC.out m
        have h4 := HN.out
        omega) (by omega) (by have := HT.out; omega) (by omega))
      generalize nthT ys i = t at y0 hadd
      clear hrow hlt'
      go_wp2_with fail
      refine hadd.out.mono ?_
      rintro e w2 ⟨rfl, HI2⟩
      go_wp2_with fail
      go_roundg (n - (i + 1))
      case measure => omega
      case rel => exact ⟨i + 1, by omega, rfl, by go_num, HI2.out⟩
    · obtain rfl : n = i := by omega
      obtain ⟨_, v2, vt2, vn2, T2, hB2, _, hz2⟩ := HI.out
      have HLEN2 := hid (len_is hB2.fl)
      have HEND : Hid (Aft W wr p q xs T ln) := ⟨[], T2, ⟨v2, vt2, vn2, hB2.again⟩, ⟨hz2.nod, fun m => by
        rw [hz2.val, List.take_of_length_le (by have := HRL.out; omega), HRC.out]
        simp [cnt]⟩, by simp, by rw [hz2.len]; omega⟩
      clear hlt hi hB2 hz2
      go_wp2_with fail
      refine HLEN2.out.mono ?_
      rintro e w3 ⟨rfl, rfl⟩
      go_wp2_with fail
      go_ret
      exact ⟨rfl, HEND.out⟩

set_option maxRecDepth 16000 in
set_option maxHeartbeats 8000000 in
theorem books_drain_C {W w : World} {p q : Nat} {v vt vn : Value} {xs : List ByteArray} {T : Tl} (h : Bm W w w p q v vt vn v vt vn xs T) (hg : Tg T xs) (s : Sp) (hs : Rd W s.v s.l) (hx : xs.length ≤ 1073741824) (hT : T.length ≤ 1073741824) (hsl : s.l.length ≤ 1073741824) (hv0 : (xs.length : Int) ≤ s.i) (hk : s.k = 7) :
    Calls Try.prog 7 #[pt q, pt p, s.val] w fun e w' => e = .returned (.bool true) ∧ Hid (Aft W w' p q xs T s.l.length) := by
  obtain ⟨wb, hwb⟩ : ∃ wb, wb = w.alloc (.cells #[.int .i64 s.k, .int .i64 s.o, .int .i64 s.i, s.v] 34) := ⟨_, rfl⟩
  obtain ⟨hb, hbx⟩ := box_is h s hwb
  have HBX := hid hbx
  have HS0 : Hid (Bs W wb wb p q v vt vn xs T) := ⟨v, vt, vn, hb⟩
  have HG := hid hg
  have HS := hid hs
  have HWB := hid hwb
  have HX := hid hx
  have HT := hid hT
  have HSL := hid hsl
  have x0 := hbx.x0 _ _ _ HS0.out
  have x2 := hbx.x2 _ _ _ HS0.out
  have x3 := hbx.x3 _ _ _ HS0.out
  have HLEN := hid HS0.out.len
  obtain ⟨b0, hb0⟩ : ∃ b0, b0 = w.heap.size := ⟨_, rfl⟩
  rw [← hb0] at x0 x2 x3 HBX
  have HB0 := hid hb0
  obtain ⟨a, c, hv, _⟩ := hs
  obtain ⟨sk, so, si, sv, sl⟩ := s
  simp only at hv0 hv x0 x2 x3 HBX HS HWB HSL ⊢
  have hk : sk = 7 := hk
  subst hk
  subst hv
  obtain ⟨n, hn⟩ : ∃ n, n = xs.length := ⟨_, rfl⟩
  have HN := hid hn
  rw [← hn] at HLEN
  try rw [← hn] at hv0
  obtain ⟨ln, hln⟩ : ∃ ln, ln = sl.length := ⟨_, rfl⟩
  have RDL : Hid (∀ wr, Below W.heap.size W wr → ∀ i, i < ln → ∃ g off, a = some ⟨g, off, none⟩ ∧ wr.cell? ⟨g, off + i, none⟩ = some (.string (nthT sl i))) := fun wr hb i hi => by
    obtain ⟨a2, c2, e, hrd⟩ := HS.out.later hb
    injection e with e1 _ _
    obtain ⟨g, off, e2, y⟩ := hrd i _ (nthT_get (by omega))
    exact ⟨g, off, e1.trans e2, y⟩
  have HLN := hid hln
  rw [← hln] at x3 HBX HS HSL HWB ⊢
  have hn30 : n ≤ 1073741824 := by rw [hn]; exact hx
  have hl30 : ln ≤ 1073741824 := HSL.out
  have k0 : decide (si < 0) = false := by simp; omega
  have k1 : (si < 0) = False := eq_false (by omega)
  have k2 : (0 ≤ si) = True := eq_true (by omega)
  have k3 : (si < (n : Int)) = False := eq_false (by omega)
  have k4 : decide (si < (n : Int)) = false := by simpa using hv0
  have HC := HS0.out.drain si (by have := HX.out; omega) HG.out
  rw [← HN.out] at HC
  have HC := hid HC
  have HMEM : Hid (∀ i, i < n → nthT (rot xs si) i ∈ ky T) := fun i hi => HG.out.mem (by
    have hl : i < (rot xs si).length := by rw [rot, List.length_append, List.length_drop, List.length_take]; have := HN.out; omega
    have h1 := nthT_mem hl
    rw [rot] at h1
    rcases List.mem_append.1 h1 with h2 | h2
    · exact List.mem_of_mem_drop h2
    · exact List.mem_of_mem_take h2)
  have HRL : Hid ((rot xs si).length = n) := by show _ = _; rw [rot, List.length_append, List.length_drop, List.length_take]; have := HN.out; omega
  have HRC : Hid (∀ m, cnt m (rot xs si) = cnt m xs) := fun m => cnt_rot m xs si
  generalize rot xs si = ys at HC HMEM HRL HRC
  clear x3
  clear h hb hbx hg hwb hx hT hsl hb0 hn hln
  go_enter Try.func7, Try.ntmps7
  go_wp2_with fail
  rw [← HWB.out, ← HB0.out]
  refine HLEN.out.mono ?_
  rintro e w' ⟨rfl, rfl⟩
  go_wp2_with fail
  refine HC.out.mono ?_
  rintro e w1 ⟨a2, c2, rfl, HD⟩
  clear HC x0 x2 HLEN
  go_wp2_with fail
  go_loopg [17] n (fun g s17 wr => ∃ i : Nat, i ≤ n ∧ g = n - i ∧ s17 = .int .i64 i ∧ Hid (Dr W w' wr p q v vt vn (.slice a2 n c2) ys T n (fun m => cnt m xs - cnt m (ys.take i))))
  case atStart => exact ⟨0, by omega, by omega, rfl, HD.out⟩
  case round =>
    obtain ⟨i, hi, rfl, rfl, HI⟩ := hrel
    clear HD
    have hcap : ∃ c0, a2 = none ∧ n = 0 ∨ n ≤ c0 := ⟨n, .inr (Nat.le_refl _)⟩
    by_cases hlt : i < n
    · have hlt' : i < ys.length := by rw [HRL.out]; exact hlt
      have hrow := HI.out.row
      obtain ⟨gb, off, rfl, y0⟩ : ∃ g off, a2 = some ⟨g, off, none⟩ ∧ wr.cell? ⟨g, off + i, none⟩ = some (.string (nthT ys i)) := by
        rcases hrow with ⟨_, e0⟩ | ⟨g, off, c3, e, _, hr2⟩
        · rw [e0] at hlt'; simp at hlt'
        · injection e with e1 _ _
          exact ⟨g, off, e1, hr2.at_ i _ (nthT_get hlt')⟩
      have hadd := hid (HI.out.add (g := fun m => cnt m xs - cnt m (ys.take (i + 1))) (b := -1) (HMEM.out i hlt) (fun k => by
        have := cnt_take k ys hlt'
        rw [this]; split <;> omega) (fun m => by
        have h1 := cnt_bd m xs
        have h2 := cnt_take_le m ys (i + 1)
        have h3 := HRC.out m
        have h4 := HN.out
        omega) (by omega) (by have := HT.out; omega) (by omega))
      generalize nthT ys i = t at y0 hadd
      clear hrow hlt'
      go_wp2_with fail
      refine hadd.out.mono ?_
      rintro e w2 ⟨rfl, HI2⟩
      go_wp2_with fail
      go_roundg (n - (i + 1))
      case measure => omega
      case rel => exact ⟨i + 1, by omega, rfl, by go_num, HI2.out⟩
    · obtain rfl : n = i := by omega
      obtain ⟨_, v2, vt2, vn2, T2, hB2, _, hz2⟩ := HI.out
      have HLEN2 := hid (len_is hB2.fl)
      have HEND : Hid (Aft W wr p q xs T ln) := ⟨[], T2, ⟨v2, vt2, vn2, hB2.again⟩, ⟨hz2.nod, fun m => by
        rw [hz2.val, List.take_of_length_le (by have := HRL.out; omega), HRC.out]
        simp [cnt]⟩, by simp, by rw [hz2.len]; omega⟩
      clear hlt hi hB2 hz2
      go_wp2_with fail
      refine HLEN2.out.mono ?_
      rintro e w3 ⟨rfl, rfl⟩
      go_wp2_with fail
      go_ret
      exact ⟨rfl, HEND.out⟩

set_option maxRecDepth 16000 in
set_option maxHeartbeats 8000000 in
theorem books_none_A {W w : World} {p q : Nat} {v vt vn : Value} {xs : List ByteArray} {T : Tl} (h : Bm W w w p q v vt vn v vt vn xs T) (hg : Tg T xs) (s : Sp) (hs : Rd W s.v s.l) (hx : xs.length ≤ 1073741824) (hT : T.length ≤ 1073741824) (hsl : s.l.length ≤ 1073741824) (hv0 : s.i < 0) (hk : s.k ≠ 1 ∧ s.k ≠ 4 ∧ s.k ≠ 5 ∧ s.k ≠ 6 ∧ s.k ≠ 7) :
    Calls Try.prog 7 #[pt q, pt p, s.val] w fun e w' => e = .returned (.bool true) ∧ Hid (Aft W w' p q xs T s.l.length) := by
  obtain ⟨wb, hwb⟩ : ∃ wb, wb = w.alloc (.cells #[.int .i64 s.k, .int .i64 s.o, .int .i64 s.i, s.v] 34) := ⟨_, rfl⟩
  obtain ⟨hb, hbx⟩ := box_is h s hwb
  have HBX := hid hbx
  have HS0 : Hid (Bs W wb wb p q v vt vn xs T) := ⟨v, vt, vn, hb⟩
  have HG := hid hg
  have HS := hid hs
  have HWB := hid hwb
  have HX := hid hx
  have HT := hid hT
  have HSL := hid hsl
  have x0 := hbx.x0 _ _ _ HS0.out
  have x2 := hbx.x2 _ _ _ HS0.out
  have x3 := hbx.x3 _ _ _ HS0.out
  have HLEN := hid HS0.out.len
  obtain ⟨b0, hb0⟩ : ∃ b0, b0 = w.heap.size := ⟨_, rfl⟩
  rw [← hb0] at x0 x2 x3 HBX
  have HB0 := hid hb0
  obtain ⟨a, c, hv, _⟩ := hs
  obtain ⟨sk, so, si, sv, sl⟩ := s
  simp only at hv0 hv x0 x2 x3 HBX HS HWB HSL ⊢
  have hk : sk ≠ 1 ∧ sk ≠ 4 ∧ sk ≠ 5 ∧ sk ≠ 6 ∧ sk ≠ 7 := hk
  subst hv
  obtain ⟨n, hn⟩ : ∃ n, n = xs.length := ⟨_, rfl⟩
  have HN := hid hn
  rw [← hn] at HLEN
  try rw [← hn] at hv0
  obtain ⟨ln, hln⟩ : ∃ ln, ln = sl.length := ⟨_, rfl⟩
  have RDL : Hid (∀ wr, Below W.heap.size W wr → ∀ i, i < ln → ∃ g off, a = some ⟨g, off, none⟩ ∧ wr.cell? ⟨g, off + i, none⟩ = some (.string (nthT sl i))) := fun wr hb i hi => by
    obtain ⟨a2, c2, e, hrd⟩ := HS.out.later hb
    injection e with e1 _ _
    obtain ⟨g, off, e2, y⟩ := hrd i _ (nthT_get (by omega))
    exact ⟨g, off, e1.trans e2, y⟩
  have HLN := hid hln
  rw [← hln] at x3 HBX HS HSL HWB ⊢
  have hn30 : n ≤ 1073741824 := by rw [hn]; exact hx
  have hl30 : ln ≤ 1073741824 := HSL.out
  have k0 : decide (si < 0) = true := by simpa using hv0
  have k1 : (si < 0) = True := eq_true hv0
  have k2 : (0 ≤ si) = False := eq_false (by omega)
  have q1 : (sk == 1) = false := beq_eq_false_iff_ne.2 hk.1
  have q4 : (sk == 4) = false := beq_eq_false_iff_ne.2 hk.2.1
  have q5 : (sk == 5) = false := beq_eq_false_iff_ne.2 hk.2.2.1
  have q6 : (sk == 6) = false := beq_eq_false_iff_ne.2 hk.2.2.2.1
  have q7 : (sk == 7) = false := beq_eq_false_iff_ne.2 hk.2.2.2.2
  have HEND : Hid (Aft W wb p q xs T ln) := ⟨xs, T, HS0.out.bn, HG.out, by omega, by omega⟩
  clear x3
  clear h hb hbx hg hwb hx hT hsl hb0 hn hln
  go_enter Try.func7, Try.ntmps7
  go_wp2_with fail
  rw [← HWB.out, ← HB0.out]
  refine HLEN.out.mono ?_
  rintro e w' ⟨rfl, rfl⟩
  go_wp2_with fail
  go_ret
  exact ⟨rfl, HEND.out⟩

set_option maxRecDepth 16000 in
set_option maxHeartbeats 8000000 in
theorem books_none_B {W w : World} {p q : Nat} {v vt vn : Value} {xs : List ByteArray} {T : Tl} (h : Bm W w w p q v vt vn v vt vn xs T) (hg : Tg T xs) (s : Sp) (hs : Rd W s.v s.l) (hx : xs.length ≤ 1073741824) (hT : T.length ≤ 1073741824) (hsl : s.l.length ≤ 1073741824) (hv0 : 0 ≤ s.i ∧ s.i < (xs.length : Int)) (hk : s.k ≠ 1 ∧ s.k ≠ 4 ∧ s.k ≠ 5 ∧ s.k ≠ 6 ∧ s.k ≠ 7) :
    Calls Try.prog 7 #[pt q, pt p, s.val] w fun e w' => e = .returned (.bool true) ∧ Hid (Aft W w' p q xs T s.l.length) := by
  obtain ⟨wb, hwb⟩ : ∃ wb, wb = w.alloc (.cells #[.int .i64 s.k, .int .i64 s.o, .int .i64 s.i, s.v] 34) := ⟨_, rfl⟩
  obtain ⟨hb, hbx⟩ := box_is h s hwb
  have HBX := hid hbx
  have HS0 : Hid (Bs W wb wb p q v vt vn xs T) := ⟨v, vt, vn, hb⟩
  have HG := hid hg
  have HS := hid hs
  have HWB := hid hwb
  have HX := hid hx
  have HT := hid hT
  have HSL := hid hsl
  have x0 := hbx.x0 _ _ _ HS0.out
  have x2 := hbx.x2 _ _ _ HS0.out
  have x3 := hbx.x3 _ _ _ HS0.out
  have HLEN := hid HS0.out.len
  obtain ⟨b0, hb0⟩ : ∃ b0, b0 = w.heap.size := ⟨_, rfl⟩
  rw [← hb0] at x0 x2 x3 HBX
  have HB0 := hid hb0
  obtain ⟨a, c, hv, _⟩ := hs
  obtain ⟨sk, so, si, sv, sl⟩ := s
  simp only at hv0 hv x0 x2 x3 HBX HS HWB HSL ⊢
  have hk : sk ≠ 1 ∧ sk ≠ 4 ∧ sk ≠ 5 ∧ sk ≠ 6 ∧ sk ≠ 7 := hk
  subst hv
  obtain ⟨n, hn⟩ : ∃ n, n = xs.length := ⟨_, rfl⟩
  have HN := hid hn
  rw [← hn] at HLEN
  try rw [← hn] at hv0
  obtain ⟨ln, hln⟩ : ∃ ln, ln = sl.length := ⟨_, rfl⟩
  have RDL : Hid (∀ wr, Below W.heap.size W wr → ∀ i, i < ln → ∃ g off, a = some ⟨g, off, none⟩ ∧ wr.cell? ⟨g, off + i, none⟩ = some (.string (nthT sl i))) := fun wr hb i hi => by
    obtain ⟨a2, c2, e, hrd⟩ := HS.out.later hb
    injection e with e1 _ _
    obtain ⟨g, off, e2, y⟩ := hrd i _ (nthT_get (by omega))
    exact ⟨g, off, e1.trans e2, y⟩
  have HLN := hid hln
  rw [← hln] at x3 HBX HS HSL HWB ⊢
  have hn30 : n ≤ 1073741824 := by rw [hn]; exact hx
  have hl30 : ln ≤ 1073741824 := HSL.out
  obtain ⟨j, hj⟩ : ∃ j : Nat, si = (j : Int) := ⟨si.toNat, by omega⟩
  subst hj
  have hjn : j < n := by omega
  have k1 : ((j : Int) < (n : Int)) = True := eq_true hv0.2
  have k2 : decide ((j : Int) < (n : Int)) = true := by simpa using hjn
  have q1 : (sk == 1) = false := beq_eq_false_iff_ne.2 hk.1
  have q4 : (sk == 4) = false := beq_eq_false_iff_ne.2 hk.2.1
  have q5 : (sk == 5) = false := beq_eq_false_iff_ne.2 hk.2.2.1
  have q6 : (sk == 6) = false := beq_eq_false_iff_ne.2 hk.2.2.2.1
  have q7 : (sk == 7) = false := beq_eq_false_iff_ne.2 hk.2.2.2.2
  have HEND : Hid (Aft W wb p q xs T ln) := ⟨xs, T, HS0.out.bn, HG.out, by omega, by omega⟩
  clear x3
  clear h hb hbx hg hwb hx hT hsl hb0 hn hln
  go_enter Try.func7, Try.ntmps7
  go_wp2_with fail
  rw [← HWB.out, ← HB0.out]
  refine HLEN.out.mono ?_
  rintro e w' ⟨rfl, rfl⟩
  go_wp2_with fail
  go_ret
  exact ⟨rfl, HEND.out⟩

set_option maxRecDepth 16000 in
set_option maxHeartbeats 8000000 in
theorem books_none_C {W w : World} {p q : Nat} {v vt vn : Value} {xs : List ByteArray} {T : Tl} (h : Bm W w w p q v vt vn v vt vn xs T) (hg : Tg T xs) (s : Sp) (hs : Rd W s.v s.l) (hx : xs.length ≤ 1073741824) (hT : T.length ≤ 1073741824) (hsl : s.l.length ≤ 1073741824) (hv0 : (xs.length : Int) ≤ s.i) (hk : s.k ≠ 1 ∧ s.k ≠ 4 ∧ s.k ≠ 5 ∧ s.k ≠ 6 ∧ s.k ≠ 7) :
    Calls Try.prog 7 #[pt q, pt p, s.val] w fun e w' => e = .returned (.bool true) ∧ Hid (Aft W w' p q xs T s.l.length) := by
  obtain ⟨wb, hwb⟩ : ∃ wb, wb = w.alloc (.cells #[.int .i64 s.k, .int .i64 s.o, .int .i64 s.i, s.v] 34) := ⟨_, rfl⟩
  obtain ⟨hb, hbx⟩ := box_is h s hwb
  have HBX := hid hbx
  have HS0 : Hid (Bs W wb wb p q v vt vn xs T) := ⟨v, vt, vn, hb⟩
  have HG := hid hg
  have HS := hid hs
  have HWB := hid hwb
  have HX := hid hx
  have HT := hid hT
  have HSL := hid hsl
  have x0 := hbx.x0 _ _ _ HS0.out
  have x2 := hbx.x2 _ _ _ HS0.out
  have x3 := hbx.x3 _ _ _ HS0.out
  have HLEN := hid HS0.out.len
  obtain ⟨b0, hb0⟩ : ∃ b0, b0 = w.heap.size := ⟨_, rfl⟩
  rw [← hb0] at x0 x2 x3 HBX
  have HB0 := hid hb0
  obtain ⟨a, c, hv, _⟩ := hs
  obtain ⟨sk, so, si, sv, sl⟩ := s
  simp only at hv0 hv x0 x2 x3 HBX HS HWB HSL ⊢
  have hk : sk ≠ 1 ∧ sk ≠ 4 ∧ sk ≠ 5 ∧ sk ≠ 6 ∧ sk ≠ 7 := hk
  subst hv
  obtain ⟨n, hn⟩ : ∃ n, n = xs.length := ⟨_, rfl⟩
  have HN := hid hn
  rw [← hn] at HLEN
  try rw [← hn] at hv0
  obtain ⟨ln, hln⟩ : ∃ ln, ln = sl.length := ⟨_, rfl⟩
  have RDL : Hid (∀ wr, Below W.heap.size W wr → ∀ i, i < ln → ∃ g off, a = some ⟨g, off, none⟩ ∧ wr.cell? ⟨g, off + i, none⟩ = some (.string (nthT sl i))) := fun wr hb i hi => by
    obtain ⟨a2, c2, e, hrd⟩ := HS.out.later hb
    injection e with e1 _ _
    obtain ⟨g, off, e2, y⟩ := hrd i _ (nthT_get (by omega))
    exact ⟨g, off, e1.trans e2, y⟩
  have HLN := hid hln
  rw [← hln] at x3 HBX HS HSL HWB ⊢
  have hn30 : n ≤ 1073741824 := by rw [hn]; exact hx
  have hl30 : ln ≤ 1073741824 := HSL.out
  have k0 : decide (si < 0) = false := by simp; omega
  have k1 : (si < 0) = False := eq_false (by omega)
  have k2 : (0 ≤ si) = True := eq_true (by omega)
  have k3 : (si < (n : Int)) = False := eq_false (by omega)
  have k4 : decide (si < (n : Int)) = false := by simpa using hv0
  have q1 : (sk == 1) = false := beq_eq_false_iff_ne.2 hk.1
  have q4 : (sk == 4) = false := beq_eq_false_iff_ne.2 hk.2.1
  have q5 : (sk == 5) = false := beq_eq_false_iff_ne.2 hk.2.2.1
  have q6 : (sk == 6) = false := beq_eq_false_iff_ne.2 hk.2.2.2.1
  have q7 : (sk == 7) = false := beq_eq_false_iff_ne.2 hk.2.2.2.2
  have HEND : Hid (Aft W wb p q xs T ln) := ⟨xs, T, HS0.out.bn, HG.out, by omega, by omega⟩
  clear x3
  clear h hb hbx hg hwb hx hT hsl hb0 hn hln
  go_enter Try.func7, Try.ntmps7
  go_wp2_with fail
  rw [← HWB.out, ← HB0.out]
  refine HLEN.out.mono ?_
  rintro e w' ⟨rfl, rfl⟩
  go_wp2_with fail
  go_ret
  exact ⟨rfl, HEND.out⟩
end Go.Proofs.Ytpnbgdbkiokooaa.Fl
