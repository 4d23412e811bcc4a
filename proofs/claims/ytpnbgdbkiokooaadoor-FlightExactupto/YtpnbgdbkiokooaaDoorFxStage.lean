import Derived.Test.YtpnbgdbkiokooaaDoorFxEnd
/- The stages of settle. -/
namespace Go.Proofs.YtpnbgdbkiokooaaDoor.Fl
open Go.RowKit Go.Sort Go.Proofs.YtpnbgdbkiokooaaDoor
set_option linter.unusedVariables false

/-- what the untouched lists hold while they are written full -/
def cont (s : Bv) (fr i k j : Nat) : List ByteArray := if j < i then marks (fr + j) (nthX s.X j).length else if j = i then (marks (fr + i) (nthX s.X i).length).take k ++ (nthX s.X i).drop k else nthX s.X j
theorem cont_zero (s : Bv) (fr j : Nat) : cont s fr 0 0 j = nthX s.X j := by
  unfold cont
  rw [if_neg (by omega)]
  by_cases e : j = 0
  · rw [if_pos e, e]; simp
  · rw [if_neg e]
theorem cont_next (s : Bv) (fr i j : Nat) : cont s fr i (nthX s.X i).length j = cont s fr (i + 1) 0 j := by
  unfold cont
  by_cases h : j < i
  · rw [if_pos h, if_pos (by omega)]
  · rw [if_neg h]
    by_cases e : j = i
    · subst e
      rw [if_pos rfl, if_pos (by omega), List.drop_of_length_le (Nat.le_refl _), List.append_nil, List.take_of_length_le (by rw [marks_len]; exact Nat.le_refl _)]
    · rw [if_neg e, if_neg (by omega)]
      by_cases e2 : j = i + 1
      · rw [if_pos e2, e2]; simp
      · rw [if_neg e2]
theorem cont_len {s : Bv} {fr i k j : Nat} (hk : k ≤ (nthX s.X i).length) : (cont s fr i k j).length = (nthX s.X j).length := by
  unfold cont
  by_cases h : j < i
  · rw [if_pos h, marks_len]
  · rw [if_neg h]
    by_cases e : j = i
    · subst e
      rw [if_pos rfl, List.length_append, List.length_take, marks_len, List.length_drop]; omega
    · rw [if_neg e]
theorem cont_set {s : Bv} {fr i k : Nat} (hk : k < (nthX s.X i).length) : (cont s fr i k i).set k (markB ((fr + i : Nat) : Int) (k : Int)) = cont s fr i (k + 1) i := by
  unfold cont
  rw [if_neg (by omega), if_pos rfl, if_neg (by omega), if_pos rfl]
  have hm : (marks (fr + i) (nthX s.X i).length).length = (nthX s.X i).length := marks_len _ _
  have ht : ((marks (fr + i) (nthX s.X i).length).take k).length = k := by rw [List.length_take]; omega
  rw [List.set_append_right _ _ (by omega), ht, Nat.sub_self]
  have hd : (nthX s.X i).drop k = nthT (nthX s.X i) k :: (nthX s.X i).drop (k + 1) := by
    rw [List.drop_eq_getElem_cons hk, nthT, List.getElem?_eq_getElem hk]; rfl
  have hs : (marks (fr + i) (nthX s.X i).length).take (k + 1) = (marks (fr + i) (nthX s.X i).length).take k ++ [markB ((fr + i : Nat) : Int) (k : Int)] := by
    rw [List.take_add_one, nthT_get (by omega), marks_get hk]; rfl
  rw [hd, List.set_cons_zero, hs, List.append_assoc]
  rfl
theorem cont_other {s : Bv} {fr i k k' j : Nat} (h : j ≠ i) : cont s fr i k j = cont s fr i k' j := by
  unfold cont
  rw [if_neg h, if_neg h]
def S2 (w wr : World) (B b : Nat) (c : Nat → Nat) (s : Bv) (fr i k : Nat) : Prop := ∃ X', Bk wr B b c { s with X := X' } ∧ (∀ j, j < s.F.length → nthX X' j = cont s fr i k j) ∧ Onl (fun k => 20 ≤ c k) w wr ∧ Below B w wr
section
variable {w wr : World} {B b : Nat} {c : Nat → Nat} {s : Bv} {fr i k : Nat}
theorem Bk.drewN (h : Bk w B b c s) (q : Nat) : Bk (w.drewN q) B b c s := h.onl (S := fun _ => False) (Onl.of_below (Below.drewN (Below.refl _ _) q)) (fun _ _ _ h => h) (fun _ _ h => h) (fun _ _ _ => rfl)
theorem Bk.after (h : Bk w B b c s) {w' : World} (hb : Below w.heap.size w w') : Bk w' B b c s := h.onl (S := fun _ => False) (Onl.of_below hb) (fun _ _ _ h => h) (fun _ _ h => h) (fun _ _ _ => rfl)
theorem S2.start (h : Bk w B b c s) {wr : World} (hb : Below w.heap.size w wr) (hB : B ≤ w.heap.size) : S2 w wr B b c s fr 0 0 := ⟨s.X, h.after hb, fun j hj => (cont_zero s fr j).symm, Onl.of_below hb, hb.mono hB⟩
theorem S2.next (h : S2 w wr B b c s fr i (nthX s.X i).length) : S2 w wr B b c s fr (i + 1) 0 := by
  obtain ⟨X', h1, h2, h3, h4⟩ := h
  exact ⟨X', h1, fun j hj => by rw [h2 j hj, cont_next], h3, h4⟩
theorem S2.row (h : S2 w wr B b c s fr i k) {j : Nat} (hj : j < s.F.length) : RowF wr B (nthV s.F j) (cont s fr i k j) := by
  obtain ⟨X', h1, h2, h3, h4⟩ := h
  have := (h1.fr j hj).1
  rw [h2 j hj] at this
  exact this
theorem S2.put (h : S2 w wr B b c s fr i k) (hi : i < s.F.length) (hk : k < (nthX s.X i).length) {wz : World} (hb : Below wr.heap.size wr wz) {g off n kk : Nat} (hv : nthV s.F i = .slice (some ⟨g, off, none⟩) n kk) (hBw : B ≤ wr.heap.size) :
    S2 w (wz.setCell ⟨g, off + k, none⟩ (.string (markB ((fr + i : Nat) : Int) (k : Int)))) B b c s fr i (k + 1) := by
  obtain ⟨X', h1, h2, h3, hBB⟩ := h
  have h1z := h1.after hb
  have hrow := h1z.fr i hi
  have hlen : k < (nthX X' i).length := by rw [h2 i hi, cont_len (by omega)]; exact hk
  have ho : Onl (fun x => c x = 20 + i) wz (wz.setCell ⟨g, off + k, none⟩ (.string (markB ((fr + i : Nat) : Int) (k : Int)))) := Onl.set (F := fun x => c x = 20 + i) (Onl.refl _ _) (p := g) (hrow.2 g (by show (nthV s.F i).ownBlock = _; rw [hv]; rfl)) _ _
  have hput : RwC (wz.setCell ⟨g, off + k, none⟩ (.string (markB ((fr + i : Nat) : Int) (k : Int)))) B c (20 + i) (nthV s.F i) ((nthX X' i).set k (markB ((fr + i : Nat) : Int) (k : Int))) := by
    refine ⟨?_, hrow.2⟩
    have h4 : RowF wz B (nthV s.F i) (nthX X' i) := hrow.1
    rw [hv] at h4 ⊢
    exact h4.put hlen _
  have hbk := h1z.putX (c' := c) ho (fun _ _ => rfl) hi hput
  refine ⟨X'.set i ((nthX X' i).set k (markB ((fr + i : Nat) : Int) (k : Int))), hbk, fun j hj => ?_, (h3.on hb).trans (ho.mono fun x hx => by omega), (hBB.trans (hb.mono hBw)).setCell ((hrow.1.lt g (by show (nthV s.F i).ownBlock = _; rw [hv]; rfl)).1) _⟩
  have hl : X'.length = s.F.length := h1.lx
  unfold nthX
  rw [List.getElem?_set]
  by_cases e : i = j
  · subst e
    rw [if_pos rfl, if_pos (by omega)]
    show (nthX X' i).set k _ = _
    rw [h2 i hi, cont_set hk]
  · rw [if_neg e]
    show nthX X' j = _
    rw [h2 j hj, cont_other (fun e2 => e e2.symm)]
end
/-- the third stage: what is fixed -/
structure Eqv (s s' : Bv) : Prop where
  vf : s'.vf = s.vf
  vw : s'.vw = s.vw
  vk : s'.vk = s.vk
  F : s'.F = s.F
  K : s'.K = s.K
  N : s'.N = s.N
structure S3 (w wr : World) (B b : Nat) (c c' : Nat → Nat) (s s' : Bv) (i : Nat) : Prop where
  bk : Bk wr B b c' s'
  eq : Eqv s s'
  X : ∀ j, j < s.F.length → nthX s'.X j = marks (s.N.length + j) (nthX s.X j).length
  L : s'.L.length = s.N.length + i
  G : ∀ j, j < i → RdC wr c' (20 + j) (nthV s'.L (s.N.length + j)) (marks (s.N.length + j) ((nthX s.X j).length + 70))
  col : ∀ k, k < w.heap.size → c' k = c k
  onl : Onl (fun k => 4 ≤ c k) w wr
  bl : Below B w wr
section
variable {w wr : World} {B b : Nat} {c c' : Nat → Nat} {s s' : Bv} {i k : Nat} {gv : Value} {a0 : Option Addr} {n0 k0 : Nat}
theorem S3.start (h : S2 w wr B b c s s.N.length s.F.length 0) (hL : s.L.length = s.N.length) : ∃ s', S3 w wr B b c c s s' 0 ∧ s'.vl = s.vl := by
  obtain ⟨X', h1, h2, h3, h4⟩ := h
  refine ⟨_, ⟨h1, ⟨rfl, rfl, rfl, rfl, rfl, rfl⟩, fun j hj => ?_, hL, fun j hj => by omega, fun _ _ => rfl, h3.mono fun x hx => by omega, h4⟩, rfl⟩
  show nthX X' j = _
  rw [h2 j hj, cont, if_pos hj]
theorem S3.after (h : S3 w wr B b c c' s s' i) {wz : World} (hb : Below wr.heap.size wr wz) (hB : B ≤ w.heap.size) : S3 w wz B b c c' s s' i :=
  ⟨h.bk.after hb, h.eq, h.X, h.L, fun j hj => (h.G j hj).onl (S := fun _ => False) (Onl.of_below hb) (fun h => h) (fun _ _ e => e), h.col, h.onl.on hb, h.bl.trans (hb.mono (Nat.le_trans hB h.onl.size))⟩
/-- a list on its way to be lengthened -/
structure S4 (w wr : World) (B b : Nat) (c c' : Nat → Nat) (s s' : Bv) (i k : Nat) (gv : Value) : Prop where
  st : S3 w wr B b c c' s s' i
  row : RwC wr B c' (20 + i) gv (marks (s.N.length + i) ((nthX s.X i).length + k))
  pre : Pf gv (nthV s.F i) ((nthX s.X i).length + k) (nthX s.X i).length
theorem S4.start (h : S3 w wr B b c c' s s' i) (hi : i < s.F.length) : S4 w wr B b c c' s s' i 0 (nthV s.F i) := by
  have h1 := h.bk.fr i (by rw [h.eq.F]; exact hi)
  rw [h.eq.F, h.X i hi] at h1
  obtain ⟨a, k, e, _⟩ := h1.1.slice
  exact ⟨h, h1, Pf.start e _⟩
theorem marks_snoc (n m : Nat) : marks n m ++ [markB (n : Int) (m : Int)] = marks n (m + 1) := by
  simp [marks, List.range_succ]
theorem S4.grow (h : S4 w wr B b c c' s s' i k gv) (hi : i < s.F.length) {wx : World} {q : Nat} (hb : Below wr.heap.size wr wx) (hq : wx.heap[q]? = some (.cells #[.string (markB ((s.N.length + i : Nat) : Int) (((nthX s.X i).length + k : Nat) : Int))] 9 (0, 0))) (hl : ((nthX s.X i).length + k + 1) * 64 ≤ 140737488355328) (hB : B ≤ w.heap.size) :
    ∃ a n kk w', (Builtin.append_ #[22, 22] 22 #[gv, .slice (some ⟨q, 0, none⟩) 1 1]).run Tryd.prog wx = .ok (.slice a n kk) w' ∧ Hid (∃ c2, S4 w w' B b c c2 s s' i (k + 1) (.slice a n kk)) := by
  have hF := h.st.eq.F
  have hi' : i < s'.F.length := by rw [hF]; exact hi
  have hxi := h.st.X i hi
  obtain ⟨a, n, kk, w', hr, hbk, hrow, hpf, ho, hbl⟩ := h.st.bk.grow hi' h.row (by rw [hF, hxi, marks_len, marks_len]; exact h.pre) _ hb hq (by rw [marks_len]; exact hl) (Nat.le_trans hB h.st.onl.size)
  rw [marks_snoc] at hrow hpf
  rw [hF, hxi, marks_len, marks_len] at hpf
  refine ⟨a, n, kk, w', hr, _, ⟨hbk, h.st.eq, h.st.X, h.st.L, fun j hj => (h.st.G j hj).onl (S := fun x => x = 20 + i) ho (by omega) (fun x hx e => by rw [ext_old hx]; exact e), fun x hx => (ext_old (Nat.lt_of_lt_of_le hx h.st.onl.size)).trans (h.st.col x hx), h.st.onl.fresh ho (fun x hx => ?_), h.st.bl.trans hbl⟩, hrow, hpf⟩
  by_cases hlt : x < w.heap.size
  · exact .inl (by have := h.st.col x hlt; omega)
  · exact .inr (by omega)
theorem S4.done (h : S4 w wr B b c c' s s' i 70 (.slice a0 n0 k0)) (hi : i < s.F.length) (hl : (s.N.length + i + 1) * 64 ≤ 140737488355328) (hB : B ≤ w.heap.size) :
    ∃ a n kk w', (Builtin.append_ #[41, 41] 41 #[s'.vl, .slice (some ⟨wr.heap.size, 0, none⟩) 1 1]).run Tryd.prog (wr.alloc (.cells #[.slice a0 n0 k0] 22)) = .ok (.slice a n kk) w' ∧ w'.cell? ⟨b, 3, none⟩ = some s'.vl ∧ w'.frozen? ⟨b, 3, none⟩ = false ∧ Hid (∃ c2 s2, S3 w (w'.setCell ⟨b, 3, none⟩ (.slice a n kk)) B b c c2 s s2 (i + 1)) := by
  obtain ⟨a, n, kk, w', hr, y1, y2, hbk, ho, hbl⟩ := h.st.bk.addL (a0 := a0) (n0 := n0) (k0 := k0) (by rw [h.st.L]; exact hl) (Nat.le_trans hB h.st.onl.size)
  refine ⟨a, n, kk, w', hr, y1, y2, _, _, ⟨hbk, ⟨h.st.eq.vf, h.st.eq.vw, h.st.eq.vk, h.st.eq.F, h.st.eq.K, h.st.eq.N⟩, h.st.X, by simp [h.st.L]; omega, fun j hj => ?_, fun x hx => (ext_old (Nat.lt_of_lt_of_le hx h.st.onl.size)).trans (h.st.col x hx), h.st.onl.fresh ho (fun x hx => ?_), h.st.bl.trans hbl⟩⟩
  · show RdC _ _ _ (nthV (s'.L ++ [.slice a0 n0 k0]) (s.N.length + j)) _
    rw [nthV_app, h.st.L]
    by_cases hlt : j < i
    · rw [if_pos (by omega)]
      exact (h.st.G j hlt).onl (S := fun x => x = 7 ∨ x = 8) ho (by omega) (fun x hx e => by rw [ext_old hx]; exact e)
    · have e : j = i := by omega
      subst e
      rw [if_neg (by omega), if_pos rfl]
      exact h.row.rdc.onl (S := fun x => x = 7 ∨ x = 8) ho (by omega) (fun x hx e => by rw [ext_old hx]; exact e)
  · by_cases hlt : x < w.heap.size
    · exact .inl (by have := h.st.col x hlt; omega)
    · exact .inr (by omega)
end
end Go.Proofs.YtpnbgdbkiokooaaDoor.Fl
