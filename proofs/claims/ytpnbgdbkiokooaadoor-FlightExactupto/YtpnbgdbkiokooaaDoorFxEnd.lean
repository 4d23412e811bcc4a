import Derived.Test.YtpnbgdbkiokooaaDoorFxPre
/- The book: lists lengthened, and kept. -/
namespace Go.Proofs.YtpnbgdbkiokooaaDoor.Fl
open Go.RowKit Go.Sort Go.Proofs.YtpnbgdbkiokooaaDoor
set_option linter.unusedVariables false

theorem OwnV.at {w : World} {B n k : Nat} {a : Option Addr} {vs : List Value} (h : OwnV w B (.slice a n k) vs) {i : Nat} (hi : i < vs.length) : ∃ g, a = some ⟨g, 0, none⟩ ∧ w.cell? ⟨g, i, none⟩ = some (nthV vs i) := by
  rcases h.2 with ⟨e, h0⟩ | ⟨g, cap, cur, e, _⟩
  · omega
  · injection e with e1 e2 e3
    subst e1 e3
    have e2 : n = vs.length := e2
    subst e2
    refine ⟨g, rfl, ?_⟩
    rw [World.ownsRow.cellAt h i (by omega), nthV, List.getElem?_eq_getElem hi]; rfl
theorem OwnV.cap {w : World} {B n k : Nat} {a : Option Addr} {vs : List Value} (h : OwnV w B (.slice a n k) vs) : n = vs.length ∧ n ≤ k ∧ k ≤ 9223372036854775807 := by
  rcases h.2 with ⟨e, h0⟩ | ⟨g, cap, cur, e, _, _, h1, h2, _⟩
  · injection e with e1 e2 e3
    exact ⟨by rw [e2, h0], by omega, by omega⟩
  · injection e with e1 e2 e3
    subst e3
    unfold maxLen at h2
    exact ⟨e2, by rw [e2]; exact h1, by omega⟩
theorem set_self {l : List (List ByteArray)} {i : Nat} (hi : i < l.length) : l.set i (nthX l i) = l := by
  apply List.ext_getElem?
  intro j
  rw [List.getElem?_set]
  by_cases e : i = j
  · subst e
    rw [if_pos rfl, if_pos hi, nthX, List.getElem?_eq_getElem hi]; rfl
  · rw [if_neg e]
/-- A: one text more on a list that is lengthened -/
theorem Bk.grow {w wx : World} {B b i q : Nat} {c : Nat → Nat} {s : Bv} {gv : Value} {ys : List ByteArray} (h : Bk w B b c s) (hi : i < s.F.length) (hg : RwC w B c (20 + i) gv ys) (hp : Pf gv (nthV s.F i) ys.length (nthX s.X i).length) (t : ByteArray) (hb : Below w.heap.size w wx) (hq : wx.heap[q]? = some (.cells #[.string t] 9 (0, 0))) (hl : (ys.length + 1) * 64 ≤ 140737488355328) (hB : B ≤ w.heap.size) :
    ∃ a n k w', (Builtin.append_ #[22, 22] 22 #[gv, .slice (some ⟨q, 0, none⟩) 1 1]).run Tryd.prog wx = .ok (.slice a n k) w' ∧ Hid (Bk w' B b (ext w c (20 + i)) s ∧ RwC w' B (ext w c (20 + i)) (20 + i) (.slice a n k) (ys ++ [t]) ∧ Pf (.slice a n k) (nthV s.F i) (ys ++ [t]).length (nthX s.X i).length ∧ Onl (fun k => c k = 20 + i) w w' ∧ Below B w w') := by
  obtain ⟨i0, hi0, hz0, hz1, hz2⟩ := info_ofF infoStr
  obtain ⟨a, n, k, w', hr, _, hrow, hgr, hnw⟩ := run_one hg.1 t hb hq hl hB
  obtain ⟨hF, hPf⟩ := append_pre (hg.1.later hb) (rd_at hq) hi0 hz0 hz1 hz2 (by simpa using hl) hr ((h.fr i hi).1.later hb) hp
  have ho : Onl (fun k => c k = 20 + i) w w' := (grown_onl hgr.out).mono fun k e => hg.2 k e
  have hc : ∀ k, k < w.heap.size → ext w c (20 + i) k = c k := fun k hk => ext_old hk
  have hcol : ∀ g, (Value.slice a n k).ownBlock = some g → ext w c (20 + i) g = 20 + i := fun g hgb => by
    rcases hnw.out g hgb with h1 | h1
    · rw [hc g (hg.1.lt g h1).2]; exact hg.2 g h1
    · exact ext_new h1
  have hbk := h.putX ho hc hi (xs := nthX s.X i) ⟨hF, fun g hgb => by rw [hc g ((h.fr i hi).1.lt g hgb).2]; exact (h.fr i hi).2 g hgb⟩
  rw [set_self (by rw [h.lx]; exact hi)] at hbk
  exact ⟨a, n, k, w', hr, hbk, ⟨hrow.out, hcol⟩, by simpa using hPf, ho, (grown_onl hgr.out).below (fun k e => (hg.1.lt k e).1) hB⟩
/-- B: the lengthened list goes into the book -/
theorem Bk.addL {w : World} {B b : Nat} {c : Nat → Nat} {s : Bv} {a0 : Option Addr} {n0 k0 : Nat} (h : Bk w B b c s) (hl : (s.L.length + 1) * 64 ≤ 140737488355328) (hB : B ≤ w.heap.size) :
    ∃ a n k w', (Builtin.append_ #[41, 41] 41 #[s.vl, .slice (some ⟨w.heap.size, 0, none⟩) 1 1]).run Tryd.prog (w.alloc (.cells #[.slice a0 n0 k0] 22)) = .ok (.slice a n k) w' ∧ w'.cell? ⟨b, 3, none⟩ = some s.vl ∧ w'.frozen? ⟨b, 3, none⟩ = false ∧
      Hid (Bk (w'.setCell ⟨b, 3, none⟩ (.slice a n k)) B b (ext w c 7) { s with vl := .slice a n k, L := s.L ++ [.slice a0 n0 k0] } ∧ Onl (fun k => c k = 7 ∨ c k = 8) w (w'.setCell ⟨b, 3, none⟩ (.slice a n k)) ∧ Below B w (w'.setCell ⟨b, 3, none⟩ (.slice a n k))) := by
  have hba : Below w.heap.size w (w.alloc (.cells #[.slice a0 n0 k0] 22)) := Below.al (Below.refl _ _) _
  obtain ⟨a, n, k, w', hr, hrow, hg, hn⟩ := outer_one h.rl (one_slice (rfl : Value.slice a0 n0 k0 = _)) hba (World.alloc_heap_new _ _) hl hB
  have hvb : s.vl.ownBlock ≠ some b := fun e => by have h1 := h.cl b e; have h2 := h.cb; omega
  have hb1 : w'.heap[b]? = some (.cells #[s.vf, s.vw, s.vk, s.vl] 43 (0, 0)) := (hg.block b h.lt (fun e => hvb e.symm)).trans h.blk
  have hb2 := setb_block (i := 3) (x := .slice a n k) hb1
  have ho : Onl (fun k => c k = 7 ∨ c k = 8) w (w'.setCell ⟨b, 3, none⟩ (.slice a n k)) := Onl.set ((grown_onl hg).mono fun k e => .inl (h.cl k e)) (.inr h.cb) _ _
  have hc : ∀ k, k < w.heap.size → ext w c 7 k = c k := fun k hk => ext_old hk
  have e9 : ∀ k, k < w.heap.size → c k = 9 → ext w c 7 k = 9 := fun k hk e => (hc k hk).trans e
  have hl' : ∀ {v vs}, OwnV w B v vs → ∀ g, v.ownBlock = some g → g < w.heap.size := fun h g hg => (World.ownsRow.lt h g hg).2
  refine ⟨a, n, k, w', hr, cell_obj hb1 rfl, by simp [World.frozen?, hb1], ⟨hb2, h.low, (hc b h.lt).trans h.cb,
    own_col (S := fun q => q = 7 ∨ q = 8) h.rf h.cf ho (by omega), fun g hg => (hc g (hl' h.rf g hg)).trans (h.cf g hg),
    own_col (S := fun q => q = 7 ∨ q = 8) h.rw_ h.cw ho (by omega), fun g hg => (hc g (hl' h.rw_ g hg)).trans (h.cw g hg),
    own_col (S := fun q => q = 7 ∨ q = 8) h.rk h.ck ho (by omega), fun g hg => (hc g (hl' h.rk g hg)).trans (h.ck g hg), ?_, fun g hg => ?_,
    h.lz, h.lx, h.ly, h.lk, by have := h.ll; simp; omega, fun j hj => (h.fr j hj).onl (S := fun q => q = 7 ∨ q = 8) ho (by omega) (fun k hk e1 => (hc k hk).trans e1),
    fun j hj => (h.wa j hj).onl (S := fun q => q = 7 ∨ q = 8) ho (by omega) e9,
    fun n hn => (h.kp n hn).onl (S := fun q => q = 7 ∨ q = 8) ho (by omega) e9, fun m hm => ?_⟩, ho, ((grown_onl hg).below (fun k e => (World.ownsRow.lt h.rl k e).1) hB).setCell h.low _⟩
  · refine owns_keep hrow fun g hgb => Below.heap_setCell _ _ _ _ (fun e => ?_)
    have e : g = b := e
    rcases hn g hgb with h1 | h1
    · exact hvb (by rw [h1, e])
    · have := h.lt; omega
  · rcases hn g hg with h1 | h1
    · exact (hc g (hl' h.rl g h1)).trans (h.cl g h1)
    · exact ext_new h1
  · show RdC _ _ 9 (nthV (s.L ++ [.slice a0 n0 k0]) m) _
    have := h.ll
    have hm : m < s.N.length := hm
    rw [nthV_app, if_pos (by omega)]
    exact (h.lo m hm).onl (S := fun q => q = 7 ∨ q = 8) ho (by omega) e9
/-- rows of lists joined -/
theorem outer_many {w : World} {B B2 : Nat} {v u : Value} {vs us : List Value} (h : OwnV w B v vs) (k : OwnV w B2 u us) (hone : ∀ x ∈ us, x.oneCell' = true) (hl : (vs.length + us.length) * 64 ≤ 140737488355328) (hB : B ≤ w.heap.size) :
    ∃ a n c w', (Builtin.append_ #[41, 41] 41 #[v, u]).run Tryd.prog w.drew = .ok (.slice a n c) w' ∧ OwnV w' B (.slice a n c) (vs ++ us) ∧ w.grownBy w' v.ownBlock ∧ ∀ k, (Value.slice a n c).ownBlock = some k → v.ownBlock = some k ∨ w.heap.size ≤ k := by
  obtain ⟨i0, hi0, hz0, hz1, hz2⟩ := info_ofF infoSl
  have hx : OwnV w.drew B v vs := owns_keep h fun _ _ => rfl
  obtain ⟨au, ku, hu⟩ := owns_slice k
  obtain ⟨av, kv, hv⟩ := owns_slice h
  by_cases h0 : us = []
  · subst h0
    subst hu
    subst hv
    have hsrc : Src Tryd.prog i0.size 41 (.slice au 0 ku) 0 [] w.drew := by
      rw [hz1]
      cases au with
      | none => exact Src.ofNil _ Tryd.underlying41 ku
      | some ad => exact Src.ofSlice _ Tryd.underlying41 ad 0 ku [] rfl (fun j u hj => by simp at hj) (fun u hu => by cases hu)
    have hcap := h.cap
    exact ⟨_, _, _, _, run_append_nothing (P := Tryd.prog) w.drew _ _ _ _ i0 Tryd.underlying41 hi0 av vs.length kv hcap.2.1 _ hsrc, by rw [List.append_nil]; exact hx, ⟨rfl, rfl, rfl, Nat.le_refl _, fun _ _ _ => rfl⟩, fun k e => .inl e⟩
  · have hpos : 0 < us.length := List.length_pos_iff.2 h0
    subst hu
    obtain ⟨g, rfl, _⟩ := k.at hpos
    obtain ⟨v', w', hr, hrow, hg, _, hn⟩ := run_append_keep (P := Tryd.prog) w.drew B 41 41 22 i0 (.slice none 0 0) 1 24 Tryd.underlying41 hi0 hz0 hz1 hz2 rfl (by decide) v vs.length vs hx ⟨g, 0, none⟩ us.length ku us (by omega) (fun j x hj => by
        rw [Addr.add_lit, Nat.zero_add]
        have hjl := (List.getElem?_eq_some_iff.1 hj).1
        obtain ⟨g2, e, hc⟩ := k.at hjl
        injection e with e
        injection e with e1 _ _
        subst e1
        rw [nthV, hj] at hc
        exact hc) hone (by unfold maxLen; omega) (by omega) hB hpos
    obtain ⟨a, c, rfl⟩ := owns_slice hrow
    refine ⟨a, _, c, w', hr, ?_, ⟨hg.os, hg.tape, hg.output, hg.size, hg.block⟩, fun k e => ?_⟩
    · show World.ownsRow _ _ _ _ _ (vs ++ us).length (vs ++ us)
      rw [List.length_append]; exact hrow
    · rcases hn with h1 | ⟨j, h1, h2⟩
      · exact .inl (h1.symm.trans e)
      · rw [h1] at e
        injection e with e
        exact .inr (by have h2 : w.heap.size ≤ j := h2; omega)
theorem nthV_two {l m : List Value} {i : Nat} : nthV (l ++ m) i = if i < l.length then nthV l i else nthV m (i - l.length) := by
  unfold nthV
  by_cases h : i < l.length
  · rw [if_pos h, List.getElem?_append_left h]
  · rw [if_neg h, List.getElem?_append_right (by omega)]
theorem nthM_two {l m : List Nat} {i : Nat} : nthM (l ++ m) i = if i < l.length then nthM l i else nthM m (i - l.length) := by
  unfold nthM
  by_cases h : i < l.length
  · rw [if_pos h, List.getElem?_append_left h]
  · rw [if_neg h, List.getElem?_append_right (by omega)]
/-- the book when all lists are kept -/
def Bv.end_ (s : Bv) (vk : Value) (ls : List Nat) : Bv := ⟨.slice none 0 0, .slice none 0 0, vk, s.vl, [], [], s.K ++ s.F, s.L, [], [], s.N ++ ls⟩
theorem Bk.done {w : World} {B b : Nat} {c : Nat → Nat} {s : Bv} {ls : List Nat} (h : Bk w B b c s) (hls : ls.length = s.F.length) (hLN : s.L.length = s.N.length + s.F.length) (hX : ∀ j, j < s.F.length → nthX s.X j = marks (s.N.length + j) (nthM ls j)) (hG : ∀ j, j < s.F.length → RdC w c (20 + j) (nthV s.L (s.N.length + j)) (marks (s.N.length + j) (nthM ls j + 70))) (hl : (s.K.length + s.F.length) * 64 ≤ 140737488355328) (hB : B ≤ w.heap.size) :
    ∃ a n k w', (Builtin.append_ #[41, 41] 41 #[s.vk, s.vf]).run Tryd.prog w.drew = .ok (.slice a n k) w' ∧ w'.cell? ⟨b, 0, none⟩ = some s.vf ∧ w'.cell? ⟨b, 1, none⟩ = some s.vw ∧ w'.cell? ⟨b, 2, none⟩ = some s.vk ∧ (∀ o, w'.frozen? ⟨b, o, none⟩ = false) ∧
      Hid (∃ c', Bk (((w'.setCell ⟨b, 2, none⟩ (.slice a n k)).setCell ⟨b, 0, none⟩ (.slice none 0 0)).setCell ⟨b, 1, none⟩ (.slice none 0 0)) B b c' (s.end_ (.slice a n k) ls) ∧ Onl (fun k => 4 ≤ c k) w (((w'.setCell ⟨b, 2, none⟩ (.slice a n k)).setCell ⟨b, 0, none⟩ (.slice none 0 0)).setCell ⟨b, 1, none⟩ (.slice none 0 0)) ∧ (∀ k, k < w.heap.size → c k < 4 → c' k = c k) ∧ Below B w (((w'.setCell ⟨b, 2, none⟩ (.slice a n k)).setCell ⟨b, 0, none⟩ (.slice none 0 0)).setCell ⟨b, 1, none⟩ (.slice none 0 0))) := by
  obtain ⟨a, n, k, w', hr, hrow, hg, hn⟩ := outer_many h.rk h.rf (fun x hx => by
    obtain ⟨i, hi, rfl⟩ := List.getElem_of_mem hx
    have h1 := (h.fr i hi).1.slice
    obtain ⟨a, k, e, _⟩ := h1
    rw [nthV, List.getElem?_eq_getElem hi] at e
    exact one_slice e) hl hB
  have hvb : s.vk.ownBlock ≠ some b := fun e => by have h1 := h.ck b e; have h2 := h.cb; omega
  have hb1 : w'.heap[b]? = some (.cells #[s.vf, s.vw, s.vk, s.vl] 43 (0, 0)) := (hg.block b h.lt (fun e => hvb e.symm)).trans h.blk
  obtain ⟨w4, hw4⟩ : ∃ w4, w4 = (((w'.setCell ⟨b, 2, none⟩ (.slice a n k)).setCell ⟨b, 0, none⟩ (.slice none 0 0)).setCell ⟨b, 1, none⟩ (.slice none 0 0)) := ⟨_, rfl⟩
  have hb4 : w4.heap[b]? = some (.cells #[.slice none 0 0, .slice none 0 0, .slice a n k, s.vl] 43 (0, 0)) := by
    rw [hw4, setb_block (setb_block (setb_block hb1))]; rfl
  have hk4 : ∀ j, j ≠ b → w4.heap[j]? = w'.heap[j]? := fun j hj => by
    rw [hw4, Below.heap_setCell _ _ _ _ hj, Below.heap_setCell _ _ _ _ hj, Below.heap_setCell _ _ _ _ hj]
  have ho : Onl (fun j => c j = 6 ∨ c j = 8) w w4 := by
    rw [hw4]
    exact Onl.set (Onl.set (Onl.set ((grown_onl hg).mono fun j e => .inl (h.ck j e)) (.inr h.cb) _ _) (.inr h.cb) _ _) (.inr h.cb) _ _
  obtain ⟨cc, hcc⟩ : ∃ cc : Nat → Nat, cc = fun j => if j < w.heap.size then (if 20 ≤ c j then 9 else c j) else 6 := ⟨_, rfl⟩
  have cold : ∀ j, j < w.heap.size → c j < 20 → cc j = c j := fun j hj hlt => by
    rw [hcc]; simp only; rw [if_pos hj, if_neg (by omega)]
  have c20 : ∀ j, j < w.heap.size → ∀ q, 20 ≤ q → c j = q → cc j = 9 := fun j hj q hq e => by
    rw [hcc]; simp only; rw [if_pos hj, if_pos (by omega)]
  have e9 : ∀ j, j < w.heap.size → c j = 9 → cc j = 9 := fun j hj e => by rw [cold j hj (by omega)]; exact e
  have hl' : ∀ {v vs}, OwnV w B v vs → ∀ g, v.ownBlock = some g → g < w.heap.size := fun h g hg => (World.ownsRow.lt h g hg).2
  refine ⟨a, n, k, w', hr, cell_obj hb1 rfl, cell_obj hb1 rfl, cell_obj hb1 rfl, fun o => by simp [World.frozen?, hb1], cc, ?_⟩
  rw [← hw4]
  refine ⟨⟨hb4, h.low, by rw [cold b h.lt (by rw [h.cb]; omega)]; exact h.cb, World.ownsRow_nil _ _ _ _, (fun g e => by cases e), World.ownsRow_nil _ _ _ _, (fun g e => by cases e), ?_, fun g hgb => ?_,
    own_col (S := fun q => q = 6 ∨ q = 8) h.rl h.cl ho (by omega), fun g hgb => by rw [cold g (hl' h.rl g hgb) (by rw [h.cl g hgb]; omega)]; exact h.cl g hgb,
    rfl, rfl, rfl, by simp [Bv.end_, h.lk, hls], by simp [Bv.end_, hls, hLN], (fun i hi => by simp [Bv.end_] at hi), (fun i hi => by simp [Bv.end_] at hi), fun m hm => ?_, fun m hm => ?_⟩, ho.mono (fun j hj => by omega), fun j hj hlt => cold j hj (by omega), by
    rw [hw4]
    exact ((((grown_onl hg).below (fun k e => (World.ownsRow.lt h.rk k e).1) hB).setCell h.low _).setCell h.low _).setCell h.low _⟩
  · refine owns_keep hrow fun g hgb => hk4 g (fun e => ?_)
    rcases hn g hgb with h1 | h1
    · exact hvb (by rw [h1, e])
    · have := h.lt; omega
  · rcases hn g hgb with h1 | h1
    · rw [cold g (hl' h.rk g h1) (by rw [h.ck g h1]; omega)]; exact h.ck g h1
    · rw [hcc]; simp only; rw [if_neg (by omega)]
  · show RdC w4 cc 9 (nthV (s.K ++ s.F) m) (marks m (nthM (s.N ++ ls) m))
    have hm : m < s.N.length + s.F.length := by simpa [Bv.end_, hls] using hm
    rw [nthV_two, nthM_two, h.lk]
    by_cases hlt : m < s.N.length
    · rw [if_pos hlt, if_pos hlt]
      exact (h.kp m hlt).onl (S := fun q => q = 6 ∨ q = 8) ho (by omega) e9
    · rw [if_neg hlt, if_neg hlt]
      have h1 := (h.fr (m - s.N.length) (by omega)).rdc
      rw [hX _ (by omega), show s.N.length + (m - s.N.length) = m by omega] at h1
      exact h1.onl (S := fun q => q = 6 ∨ q = 8) ho (by omega) (fun j hj e => c20 j hj _ (by omega) e)
  · show RdC w4 cc 9 (nthV s.L m) (marks m (nthM (s.N ++ ls) m + 70))
    have hm : m < s.N.length + s.F.length := by simpa [Bv.end_, hls] using hm
    rw [nthM_two]
    by_cases hlt : m < s.N.length
    · rw [if_pos hlt]
      exact (h.lo m hlt).onl (S := fun q => q = 6 ∨ q = 8) ho (by omega) e9
    · rw [if_neg hlt]
      have h1 := hG (m - s.N.length) (by omega)
      rw [show s.N.length + (m - s.N.length) = m by omega] at h1
      exact h1.onl (S := fun q => q = 6 ∨ q = 8) ho (by omega) (fun j hj e => c20 j hj _ (by omega) e)
end Go.Proofs.YtpnbgdbkiokooaaDoor.Fl
