import Derived.Test.YtpnbgdbkiokooaaDoorFxSt
/- keep: one list more in the book. -/
namespace Go.Proofs.YtpnbgdbkiokooaaDoor.Fl
open Go.RowKit Go.Sort Go.Proofs.YtpnbgdbkiokooaaDoor
set_option linter.unusedVariables false

theorem infoSl : (Tryd.prog.info? 22).map (fun i => (i.zero, i.size, i.bytes)) = some (some (.slice none 0 0), 1, 24) := by kernel_rfl
/-- one list more at the end of a row of lists -/
theorem outer_one {w wx : World} {B q : Nat} {v z : Value} {vs : List Value} (h : OwnV w B v vs) (hz : z.oneCell' = true) (hb : Below w.heap.size w wx) (hq : wx.heap[q]? = some (.cells #[z] 22 (0, 0))) (hl : (vs.length + 1) * 64 ≤ 140737488355328) (hB : B ≤ w.heap.size) :
    ∃ a n c w', (Builtin.append_ #[41, 41] 41 #[v, .slice (some ⟨q, 0, none⟩) 1 1]).run Tryd.prog wx = .ok (.slice a n c) w' ∧ OwnV w' B (.slice a n c) (vs ++ [z]) ∧ w.grownBy w' v.ownBlock ∧ ∀ k, (Value.slice a n c).ownBlock = some k → v.ownBlock = some k ∨ w.heap.size ≤ k := by
  obtain ⟨i0, hi0, hz0, hz1, hz2⟩ := info_ofF infoSl
  have hx : OwnV wx B v vs := owns_keep h fun g hg => hb.block g (World.ownsRow.lt h g hg).2
  obtain ⟨v', w', hr, hrow, hg, _, hn⟩ := run_append_keep (P := Tryd.prog) wx B 41 41 22 i0 (.slice none 0 0) 1 24 Tryd.underlying41 hi0 hz0 hz1 hz2 rfl (by decide) v vs.length vs hx ⟨q, 0, none⟩ 1 1 [z] rfl (fun j u hj => by
      match j, hj with
      | 0, hj => simp at hj; subst hj; exact cell_obj hq rfl
      | j + 1, hj => simp at hj) (fun u hu => by simp at hu; subst hu; exact hz) (by unfold maxLen; omega) (by omega) (Nat.le_trans hB hb.size) (by decide)
  obtain ⟨a, c, rfl⟩ := owns_slice hrow
  refine ⟨a, _, c, w', hr, ?_, ⟨hg.os.trans hb.os, hg.tape.trans hb.tape, hg.output.trans hb.output, Nat.le_trans hb.size hg.size, fun k hk hne => (hg.block k (Nat.lt_of_lt_of_le hk hb.size) hne).trans (hb.block k hk)⟩, fun k e => ?_⟩
  · show World.ownsRow _ _ _ _ _ (vs ++ [z]).length (vs ++ [z])
    rw [List.length_append]; exact hrow
  · rcases hn with h1 | ⟨j, h1, h2⟩
    · exact .inl (h1.symm.trans e)
    · rw [h1] at e
      injection e with e
      exact .inr (by have := hb.size; omega)
theorem nthV_app {l : List Value} {z : Value} {i : Nat} : nthV (l ++ [z]) i = if i < l.length then nthV l i else if i = l.length then z else .slice none 0 0 := by
  unfold nthV
  by_cases h : i < l.length
  · rw [if_pos h, List.getElem?_append_left h]
  · rw [if_neg h, List.getElem?_append_right (by omega)]
    by_cases e : i = l.length
    · rw [if_pos e, e]; simp
    · rw [if_neg e, List.getElem?_eq_none (by simp; omega)]; rfl
theorem nthX_app {l : List (List ByteArray)} {z : List ByteArray} {i : Nat} : nthX (l ++ [z]) i = if i < l.length then nthX l i else if i = l.length then z else [] := by
  unfold nthX
  by_cases h : i < l.length
  · rw [if_pos h, List.getElem?_append_left h]
  · rw [if_neg h, List.getElem?_append_right (by omega)]
    by_cases e : i = l.length
    · rw [if_pos e, e]; simp
    · rw [if_neg e, List.getElem?_eq_none (by simp; omega)]; rfl
/-- the book with one list more -/
def Bv.push (s : Bv) (vf vw z zz : Value) (xs : List ByteArray) : Bv := { s with vf := vf, vw := vw, F := s.F ++ [z], Z := s.Z ++ [zz], X := s.X ++ [xs], Y := s.Y ++ [xs] }
theorem one_slice {z : Value} {a : Option Addr} {n k : Nat} (h : z = .slice a n k) : z.oneCell' = true := by subst h; rfl
theorem setb_block {w : World} {b i : Nat} {x : Value} {cs : Array Value} {t : TypeId} (h : w.heap[b]? = some (.cells cs t (0, 0))) : (w.setCell ⟨b, i, none⟩ x).heap[b]? = some (.cells (cs.setIfInBounds i x) t (0, 0)) := by
  rw [setCell_eq]; simp [mapBlock, Array.getElem?_modify, h, onCells]
/-- what keep leaves -/
structure Kp (w w' : World) (B b : Nat) (c c' : Nat → Nat) (s s' : Bv) (q : Nat) (xs : List ByteArray) : Prop where
  bk : Bk w' B b c' s'
  onl : Onl (fun k => c k = 4 ∨ c k = 5 ∨ c k = 8) w w'
  col : ∀ k, k < w.heap.size → c k ≠ q → c' k = c k
  X : s'.X = s.X ++ [xs]
  Y : s'.Y = s.Y ++ [xs]
  N : s'.N = s.N
  L : s'.L = s.L
  F : s'.F.length = s.F.length + 1
  bl : Below B w w'
theorem keep_plain {w : World} {B b q : Nat} {c : Nat → Nat} {s : Bv} {z : Value} {xs : List ByteArray} (h : Bk w B b c s) (hz : RwC w B c q z xs) (hq : 10 ≤ q ∧ q < 20) (hB : B ≤ w.heap.size) (hl : xs.length * 64 ≤ 140737488355328) (hF : (s.F.length + 1) * 64 ≤ 140737488355328) :
    ∃ a1 n1 c1 w1 a2 n2 c2 w3 a3 n3 c3 w5, (Builtin.append_ #[41, 41] 41 #[s.vf, .slice (some ⟨w.heap.size, 0, none⟩) 1 1]).run Tryd.prog (w.alloc (.cells #[z] 22)) = .ok (.slice a1 n1 c1) w1 ∧
      w1.cell? ⟨b, 0, none⟩ = some s.vf ∧ w1.cell? ⟨b, 1, none⟩ = some s.vw ∧ w1.frozen? ⟨b, 0, none⟩ = false ∧
      (Builtin.append_ #[22, 22] 22 #[.slice none 0 0, z]).run Tryd.prog (w1.setCell ⟨b, 0, none⟩ (.slice a1 n1 c1)).drew = .ok (.slice a2 n2 c2) w3 ∧ w3.cell? ⟨b, 1, none⟩ = some s.vw ∧
      (Builtin.append_ #[41, 41] 41 #[s.vw, .slice (some ⟨w3.heap.size, 0, none⟩) 1 1]).run Tryd.prog (w3.alloc (.cells #[.slice a2 n2 c2] 22)) = .ok (.slice a3 n3 c3) w5 ∧
      w5.cell? ⟨b, 1, none⟩ = some s.vw ∧ w5.frozen? ⟨b, 1, none⟩ = false ∧ Hid (∃ c' s', Kp w (w5.setCell ⟨b, 1, none⟩ (.slice a3 n3 c3)) B b c c' s s' q xs) := by
  obtain ⟨i0, hi0, hz0, hz1, hz2⟩ := info_ofF infoStr
  obtain ⟨za, zk, hzv, _, _⟩ := hz.1.slice
  have hba : Below w.heap.size w (w.alloc (.cells #[z] 22)) := Below.al (Below.refl _ _) _
  obtain ⟨a1, n1, c1, w1, hr1, hrow1, hg1, hn1⟩ := outer_one h.rf (one_slice hzv) hba (World.alloc_heap_new _ _) hF hB
  have hs1 := hg1.size
  have hvfb : s.vf.ownBlock ≠ some b := fun e => by have h1 := h.cf b e; have h2 := h.cb; omega
  have hb1 : w1.heap[b]? = some (.cells #[s.vf, s.vw, s.vk, s.vl] 43 (0, 0)) := (hg1.block b h.lt (fun e => hvfb e.symm)).trans h.blk
  have hlt1 : ∀ {k : Nat}, k < w.heap.size → k < w1.heap.size := fun hk => Nat.lt_of_lt_of_le hk hs1
  obtain ⟨w2, hw2⟩ : ∃ w2, w2 = w1.setCell ⟨b, 0, none⟩ (.slice a1 n1 c1) := ⟨_, rfl⟩
  have hs2 : w2.heap.size = w1.heap.size := by rw [hw2]; simp [World.setCell]
  have hb2 : w2.heap[b]? = some (.cells #[.slice a1 n1 c1, s.vw, s.vk, s.vl] 43 (0, 0)) := by rw [hw2, setb_block hb1]; rfl
  have hk2 : ∀ k, k ≠ b → w2.heap[k]? = w1.heap[k]? := fun k hk => by rw [hw2]; exact Below.heap_setCell _ _ _ _ hk
  have ho2 : Onl (fun k => c k = 4 ∨ c k = 5 ∨ c k = 8) w w2 := by
    rw [hw2]
    exact Onl.set ((grown_onl hg1).mono fun k e => .inl (h.cf k e)) (.inr (.inr h.cb)) _ _
  have hz2' : RwC w2 B c q z xs := hz.onl (S := fun k => k = 4 ∨ k = 5 ∨ k = 8) ho2 (fun e => by omega) (fun k _ e => e)
  obtain ⟨v2, w3, hr2, hrow2, hg2, hn2⟩ := run_append_F (w := w2.drew) (B := w2.heap.size) (RowF.nil _ _) (u := z) (ys := xs) ((hz2'.1.keep (w' := w2.drew) fun _ _ => rfl).rd) 22 hi0 hz0 hz1 hz2 (by simpa using hl) (Nat.le_refl _)
  obtain ⟨a2, k2, rfl, _, _⟩ := hrow2.slice
  rw [List.nil_append] at hrow2 hn2 hr2
  have hb23 : Below w2.heap.size w2 w3 := ⟨hg2.os, hg2.tape, hg2.output, hg2.size, fun k hk => hg2.block k hk (fun e => by cases e)⟩
  have hb3 : w3.heap[b]? = some (.cells #[.slice a1 n1 c1, s.vw, s.vk, s.vl] 43 (0, 0)) := (hb23.block b (by rw [hs2]; exact hlt1 h.lt)).trans hb2
  have ho3 : Onl (fun k => c k = 4 ∨ c k = 5 ∨ c k = 8) w w3 := ho2.on hb23
  have hw3 : OwnV w3 B s.vw s.Z := own_col (S := fun k => k = 4 ∨ k = 8) h.rw_ h.cw (by
    have o1 : Onl (fun k => c k = 4 ∨ c k = 8) w w2 := by
      rw [hw2]
      exact Onl.set ((grown_onl hg1).mono fun k e => .inl (h.cf k e)) (.inr h.cb) _ _
    exact o1.on hb23) (by omega)
  have hb34 : Below w3.heap.size w3 (w3.alloc (.cells #[.slice a2 xs.length k2] 22)) := Below.al (Below.refl _ _) _
  obtain ⟨a3, n3, c3, w5, hr3, hrow3, hg3, hn3⟩ := outer_one hw3 (one_slice rfl) hb34 (World.alloc_heap_new _ _) (by rw [h.lz]; exact hF) (Nat.le_trans hB ho3.size)
  have hvwb : s.vw.ownBlock ≠ some b := fun e => by have h1 := h.cw b e; have h2 := h.cb; omega
  have hb5 : w5.heap[b]? = some (.cells #[.slice a1 n1 c1, s.vw, s.vk, s.vl] 43 (0, 0)) := (hg3.block b (Array.getElem?_eq_some_iff.1 hb3).1 (fun e => hvwb e.symm)).trans hb3
  obtain ⟨w6, hw6⟩ : ∃ w6, w6 = w5.setCell ⟨b, 1, none⟩ (.slice a3 n3 c3) := ⟨_, rfl⟩
  have hb6 : w6.heap[b]? = some (.cells #[.slice a1 n1 c1, .slice a3 n3 c3, s.vk, s.vl] 43 (0, 0)) := by rw [hw6, setb_block hb5]; rfl
  have hk6 : ∀ k, k ≠ b → w6.heap[k]? = w5.heap[k]? := fun k hk => by rw [hw6]; exact Below.heap_setCell _ _ _ _ hk
  have ho6 : Onl (fun k => c k = 4 ∨ c k = 5 ∨ c k = 8) w w6 := by
    rw [hw6]
    exact Onl.set (ho3.fresh (grown_onl hg3) (fun i hi => .inl (.inr (.inl (h.cw i hi))))) (.inr (.inr h.cb)) _ _
  have hs3 := hb23.size
  have hs5 := hg3.size
  have hB2 : Below B w w2 := by rw [hw2]; exact ((grown_onl hg1).below (fun k e => (World.ownsRow.lt h.rf k e).1) hB).setCell h.low _
  have hB3 : Below B w w3 := hB2.trans (hb23.mono (Nat.le_trans hB hB2.size))
  have hB6 : Below B w w6 := by rw [hw6]; exact (hB3.trans ((grown_onl hg3).below (fun k e => (World.ownsRow.lt h.rw_ k e).1) (Nat.le_trans hB hB3.size))).setCell h.low _
  -- the colours
  obtain ⟨cc, hcc⟩ : ∃ cc : Nat → Nat, cc = fun k => if k < w.heap.size then (if c k = q then 20 + s.F.length else c k) else if k < w2.heap.size then 4 else if k < w3.heap.size then 9 else 5 := ⟨_, rfl⟩
  have cold : ∀ k, k < w.heap.size → c k ≠ q → cc k = c k := fun k hk hne => by rw [hcc]; simp [hk, hne]
  have cq : ∀ k, k < w.heap.size → c k = q → cc k = 20 + s.F.length := fun k hk e => by rw [hcc]; simp [hk, e]
  have keepS : ∀ {v : Value} {vs : List Value} {q' : Nat}, OwnV w B v vs → (∀ g, v.ownBlock = some g → c g = q') → q' ≠ 4 → q' ≠ 5 → q' ≠ 8 → OwnV w6 B v vs := fun hv hq' h4 h5 h8 => own_col (S := fun k => k = 4 ∨ k = 5 ∨ k = 8) hv hq' ho6 (by omega)
  have colS : ∀ {v : Value} {vs : List Value} {q' : Nat}, OwnV w B v vs → (∀ g, v.ownBlock = some g → c g = q') → q' ≠ q → ∀ g, v.ownBlock = some g → cc g = q' := fun hv hq' hne g hg => by rw [cold g (World.ownsRow.lt hv g hg).2 (by rw [hq' g hg]; exact hne)]; exact hq' g hg
  have e9 : ∀ k, k < w.heap.size → c k = 9 → cc k = 9 := fun k hk e => by rw [cold k hk (by omega)]; exact e
  have hF1 : OwnV w1 B (.slice a1 n1 c1) (s.F ++ [z]) := hrow1
  have hne1 : ∀ g, (Value.slice a1 n1 c1).ownBlock = some g → g ≠ b ∧ s.vw.ownBlock ≠ some g ∧ g < w1.heap.size := fun g hg => by
    have hlt := (World.ownsRow.lt hF1 g hg).2
    rcases hn1 g hg with h1 | h1
    · refine ⟨fun e => hvfb (by rw [h1, e]), fun e => ?_, hlt⟩
      have e1 := h.cf g h1
      have e2 := h.cw g e
      omega
    · refine ⟨fun e => by have := h.lt; omega, fun e => ?_, hlt⟩
      have := (World.ownsRow.lt h.rw_ g e).2
      omega
  refine ⟨a1, n1, c1, w1, a2, xs.length, k2, w3, a3, n3, c3, w5, hr1, cell_obj hb1 rfl, cell_obj hb1 rfl, by simp [World.frozen?, hb1], by rw [← hw2]; exact hr2, cell_obj hb3 rfl, hr3, cell_obj hb5 rfl, by simp [World.frozen?, hb5], cc, s.push (.slice a1 n1 c1) (.slice a3 n3 c3) z (.slice a2 xs.length k2) xs, ?_⟩
  rw [← hw6]
  refine ⟨⟨hb6, h.low, by rw [cold b h.lt (by rw [h.cb]; omega)]; exact h.cb, ?_, fun g hg => ?_, ?_, fun g hg => ?_, keepS h.rk h.ck (by omega) (by omega) (by omega), colS h.rk h.ck (by omega), keepS h.rl h.cl (by omega) (by omega) (by omega), colS h.rl h.cl (by omega), ?_, ?_, ?_, h.lk, h.ll, fun i hi => ?_, fun i hi => ?_, fun n hn => (h.kp n hn).onl (S := fun k => k = 4 ∨ k = 5 ∨ k = 8) ho6 (by omega) e9, fun n hn => (h.lo n hn).onl (S := fun k => k = 4 ∨ k = 5 ∨ k = 8) ho6 (by omega) e9⟩, ho6, cold, rfl, rfl, rfl, rfl, by simp [Bv.push], hB6⟩
  · refine owns_keep hF1 fun g hg => ?_
    obtain ⟨e1, e2, e3⟩ := hne1 g hg
    rw [hk6 g e1, hg3.block g (by omega) (fun e => e2 e.symm), hb23.block g (by omega), hk2 g e1]
  · obtain ⟨e1, e2, e3⟩ := hne1 g hg
    rcases hn1 g hg with h1 | h1
    · rw [cold g (World.ownsRow.lt h.rf g h1).2 (by rw [h.cf g h1]; omega)]; exact h.cf g h1
    · rw [hcc]
      simp only
      rw [if_neg (by omega), if_pos (by omega)]
  · refine owns_keep hrow3 fun g hg => hk6 g (fun e => ?_)
    have hlt := (World.ownsRow.lt hrow3 g hg).2
    rcases hn3 g hg with h1 | h1
    · exact hvwb (by rw [h1, e])
    · have := (Array.getElem?_eq_some_iff.1 hb3).1; omega
  · rcases hn3 g hg with h1 | h1
    · rw [cold g (World.ownsRow.lt h.rw_ g h1).2 (by rw [h.cw g h1]; omega)]; exact h.cw g h1
    · rw [hcc]
      simp only
      rw [if_neg (by omega), if_neg (by omega), if_neg (by omega)]
  · simp [Bv.push, h.lz]
  · simp [Bv.push, h.lx]
  · simp [Bv.push, h.ly]
  · show RwC w6 B cc (20 + i) (nthV (s.F ++ [z]) i) (nthX (s.X ++ [xs]) i)
    have hi : i < s.F.length + 1 := by simpa [Bv.push] using hi
    rw [nthV_app, nthX_app, h.lx]
    by_cases hlt : i < s.F.length
    · rw [if_pos hlt, if_pos hlt]
      exact (h.fr i hlt).onl (S := fun k => k = 4 ∨ k = 5 ∨ k = 8) ho6 (by omega) (fun k hk e => by rw [cold k hk (by omega)]; exact e)
    · have e : i = s.F.length := by omega
      rw [if_neg hlt, if_neg hlt, if_pos e, if_pos e, e]
      exact hz.onl (S := fun k => k = 4 ∨ k = 5 ∨ k = 8) ho6 (by omega) cq
  · show RdC w6 cc 9 (nthV (s.Z ++ [.slice a2 xs.length k2]) i) (nthX (s.Y ++ [xs]) i)
    have hi : i < s.F.length + 1 := by simpa [Bv.push] using hi
    rw [nthV_app, nthX_app, h.ly, h.lz]
    by_cases hlt : i < s.F.length
    · rw [if_pos hlt, if_pos hlt]
      exact (h.wa i hlt).onl (S := fun k => k = 4 ∨ k = 5 ∨ k = 8) ho6 (by omega) e9
    · have e : i = s.F.length := by omega
      rw [if_neg hlt, if_neg hlt, if_pos e, if_pos e]
      have hrow6 : RowF w6 w2.heap.size (.slice a2 xs.length k2) xs := hrow2.keep fun g hg => by
        have h1 := hrow2.lt g hg
        have hlb := h.lt
        rw [hk6 g (by omega)]
        exact hg3.block g h1.2 (fun e => by
          have := (World.ownsRow.lt h.rw_ g e.symm).2
          omega)
      refine RwC.rdc (B := w2.heap.size) ⟨hrow6, fun g hg => ?_⟩
      have h1 := hrow2.lt g hg
      rw [hcc]
      simp only
      rw [if_neg (by omega), if_neg (by omega), if_pos h1.2]
set_option maxHeartbeats 4000000 in
theorem keep_is {w : World} {B b q : Nat} {c : Nat → Nat} {s : Bv} {z : Value} {xs : List ByteArray} (h : Bk w B b c s) (hz : RwC w B c q z xs) (hq : 10 ≤ q ∧ q < 20) (hB : B ≤ w.heap.size) (hl : xs.length * 64 ≤ 140737488355328) (hF : (s.F.length + 1) * 64 ≤ 140737488355328) :
    Calls Tryd.prog 32 #[pt b, z] w fun e w' => e = .returned (.tuple #[]) ∧ Hid (∃ c' s', Kp w w' B b c c' s s' q xs) := by
  obtain ⟨a1, n1, c1, w1, a2, n2, c2, w3, a3, n3, c3, w5, r1, y1, y2, y3, r2, y4, r3, y5, y6, HK⟩ := keep_plain h hz hq hB hl hF
  have x0 : w.cell? ⟨b, 0, none⟩ = some s.vf := cell_obj h.blk rfl
  obtain ⟨af, kf, hvf⟩ := owns_slice h.rf
  obtain ⟨aw, kw, hvw⟩ := owns_slice h.rw_
  obtain ⟨az, kz, hzv, _, _⟩ := hz.1.slice
  rw [hvf] at r1 x0 y1
  rw [hvw] at r3 y2 y4 y5
  rw [hzv] at r1 r2 ⊢
  have R1 := hid r1
  have R2 := hid r2
  have R3 := hid r3
  generalize s.F.length = fl at R1 x0 y1
  generalize s.Z.length = zl at R3 y2 y4 y5
  generalize xs.length = xl at R1 R2
  have y2' : (w1.setCell ⟨b, 0, none⟩ (.slice a1 n1 c1)).cell? ⟨b, 1, none⟩ = some (.slice aw zl kw) := by
    rw [World.cell?_setCell_other _ _ _ _ (by simp)]; exact y2
  have y4a : (w3.alloc (.cells #[.slice a2 n2 c2] 22)).cell? ⟨b, 1, none⟩ = some (.slice aw zl kw) := cell_later (Below.al (Below.refl _ _) _) y4
  clear h hz hq hB hl hF hvf hvw hzv r1 r2 r3
  go_enter Tryd.func32, Tryd.ntmps32
  go_wp2_with (at_builtin; refine Lib.wpList_append_run _ rfl _ _ _ _ rfl _ _ rfl rfl _ _ R1.out ?_)
  go_region_law (first | refine step_append_runF rfl (.const (.slice none 0 0)) (.tmp 19) 22 22 rfl (.slice none 0 0) (.slice az xl kz) (by simp [Act.eval]) (by simp [Act.eval, Act.put]) R2.out ?_ | refine step_append_runF rfl (.tmp 18) (.tmp 21) 41 41 rfl (.slice aw zl kw) (.slice (some ⟨w3.heap.size, 0, none⟩) 1 1) (by simp [Act.eval]) (by simp [Act.eval]) R3.out ?_)
  all_goals (try go_wp2_with fail)
  all_goals go_end0
  all_goals exact ⟨rfl, HK.out⟩
end Go.Proofs.YtpnbgdbkiokooaaDoor.Fl
