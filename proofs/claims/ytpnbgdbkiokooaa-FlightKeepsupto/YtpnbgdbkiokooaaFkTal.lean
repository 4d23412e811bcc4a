import Derived.Test.YtpnbgdbkiokooaaFkP
import Derived.Test.YtpnbgdbkiokooaaLKeep
/- The tally in the program: add. -/
namespace Go.Proofs.Ytpnbgdbkiokooaa.Fl
open Go.RowKit Go.Sort Go.Proofs.Ytpnbgdbkiokooaa
set_option linter.unusedVariables false

theorem bytes_injF {a b : ByteArray} (h : a.toList = b.toList) : a = b := by
  rw [ByteArray.toList_eq, ByteArray.toList_eq] at h
  exact ByteArray.ext (Array.toList_inj.1 h)
theorem beqF {a b : ByteArray} {u : Bool} (h : decide (a = b) = u) : (a.toList == b.toList) = u := by
  rw [← h, Bool.eq_iff_iff]
  simp only [beq_iff_eq, decide_eq_true_eq]
  exact ⟨bytes_injF, fun e => by rw [e]⟩
theorem infoInt : (Try.prog.info? 3).map (fun i => (i.zero, i.size, i.bytes)) = some (some (.int .i64 0), 1, 8) := by kernel_rfl
abbrev OwnN (w : World) (B : Nat) (v : Value) (T : Tl) : Prop := w.ownsRow B 3 1 v T.length (nu T)
structure Ta (w : World) (B q : Nat) (vt vn : Value) (T : Tl) : Prop where
  blk : w.heap[q]? = some (.cells #[vt, vn] 29 (0, 0))
  tx : RowF w B vt (ky T)
  nm : OwnN w B vn T
  low : B ≤ q
def ItT (q : Nat) (vt vn : Value) (k : Nat) : Prop := k = q ∨ vt.ownBlock = some k ∨ vn.ownBlock = some k
theorem Ta.lt {w : World} {B q : Nat} {vt vn : Value} {T : Tl} (h : Ta w B q vt vn T) : q < w.heap.size := (Array.getElem?_eq_some_iff.1 h.blk).1
theorem Ta.its {w : World} {B q : Nat} {vt vn : Value} {T : Tl} (h : Ta w B q vt vn T) {k : Nat} (hk : ItT q vt vn k) : B ≤ k ∧ k < w.heap.size := by
  rcases hk with rfl | hk | hk
  · exact ⟨h.low, h.lt⟩
  · exact h.tx.lt k hk
  · exact World.ownsRow.lt h.nm k hk
theorem Ta.keep {w w' : World} {B q : Nat} {vt vn : Value} {T : Tl} (h : Ta w B q vt vn T) (hb : ∀ k, ItT q vt vn k → w'.heap[k]? = w.heap[k]?) : Ta w' B q vt vn T :=
  ⟨(hb q (.inl rfl)).trans h.blk, h.tx.keep fun g hg => hb g (.inr (.inl hg)), owns_keep h.nm fun g hg => hb g (.inr (.inr hg)), h.low⟩
theorem Ta.later {w w' : World} {B q : Nat} {vt vn : Value} {T : Tl} (h : Ta w B q vt vn T) (hb : Below w.heap.size w w') : Ta w' B q vt vn T := h.keep fun k hk => hb.block k (h.its hk).2
theorem Ta.onl {w w' : World} {F : Nat → Prop} {B q : Nat} {vt vn : Value} {T : Tl} (h : Ta w B q vt vn T) (ho : Onl F w w') (hF : ∀ k, ItT q vt vn k → ¬ F k) : Ta w' B q vt vn T := h.keep fun k hk => ho.block k (h.its hk).2 (hF k hk)
structure Mt (w w' : World) (B q : Nat) (vt vn vt' vn' : Value) (T : Tl) : Prop where
  ta : Ta w' B q vt' vn' T
  onl : Onl (ItT q vt vn) w w'
  new : ∀ k, ItT q vt' vn' k → ItT q vt vn k ∨ w.heap.size ≤ k
theorem Mt.below {w w' : World} {B q : Nat} {vt vn vt' vn' : Value} {T T' : Tl} (h : Mt w w' B q vt vn vt' vn' T') (hf : Ta w B q vt vn T) (hB : B ≤ w.heap.size) : Below B w w' := h.onl.below (fun k hk => (hf.its hk).1) hB
theorem Mt.refl {w w' : World} {B q : Nat} {vt vn : Value} {T : Tl} (hf : Ta w B q vt vn T) (hb : Below w.heap.size w w') : Mt w w' B q vt vn vt vn T := ⟨hf.later hb, Onl.of_below hb, fun k e => .inl e⟩
theorem Mt.trans {w w1 w2 : World} {B q : Nat} {vt vn vt1 vn1 vt2 vn2 : Value} {T T' : Tl} (h : Mt w w1 B q vt vn vt1 vn1 T) (k : Mt w1 w2 B q vt1 vn1 vt2 vn2 T') : Mt w w2 B q vt vn vt2 vn2 T' :=
  ⟨k.ta, h.onl.fresh k.onl h.new, fun j e => by
    rcases k.new j e with e | e
    · exact h.new j e
    · exact .inr (Nat.le_trans h.onl.size e)⟩
theorem own_tyF {w : World} {B size n : Nat} {e : TypeId} {v : Value} {xs : List Value} (h : w.ownsRow B e size v n xs) {g : Nat} (hg : v.ownBlock = some g) : ∃ cur, w.heap[g]? = some (.cells cur e (0, 0)) := by
  rcases h.2 with ⟨rfl, _⟩ | ⟨g', cap, cur, rfl, _, hgg, _⟩
  · cases hg
  · injection hg with hg
    have hg : g' = g := hg
    subst hg
    exact ⟨cur, hgg⟩
/-- blocks of two types are two blocks -/
theorem ty_ne {w : World} {a b : Nat} {ca cb : Array Value} {ta tb : TypeId} {za zb : Nat × Nat} (ha : w.heap[a]? = some (.cells ca ta za)) (hb : w.heap[b]? = some (.cells cb tb zb)) (h : ta ≠ tb) : a ≠ b := by
  rintro rfl
  rw [ha] at hb
  injection hb with hb
  injection hb with _ e _
  exact h e
/-- a number changed in its place -/
theorem Ta.put {w : World} {B q g c : Nat} {vt : Value} {T : Tl} (h : Ta w B q vt (.slice (some ⟨g, 0, none⟩) T.length c) T) (k : Nat) (hk : k < T.length) (m : ByteArray) (x : Int) (hm : nthT (ky T) k = m) : Mt w (w.setCell ⟨g, k, none⟩ (.int .i64 x)) B q vt (.slice (some ⟨g, 0, none⟩) T.length c) vt (.slice (some ⟨g, 0, none⟩) T.length c) (T.set k (m, x)) := by
  obtain ⟨h1, h2⟩ := World.ownsRow.stored h.nm k (.int .i64 x)
  obtain ⟨cur, hcur⟩ := own_tyF h.nm rfl
  have hqg : q ≠ g := ty_ne h.blk hcur (by decide)
  refine ⟨⟨(Below.heap_setCell _ _ _ _ hqg).trans h.blk, ?_, ?_, h.low⟩, ?_, fun k e => .inl e⟩
  · have e : ky (T.set k (m, x)) = ky T := by
      rw [ky, List.map_set]
      apply List.ext_getElem?
      intro i
      rw [List.getElem?_set]
      split
      · rename_i hik
        subst hik
        rw [if_pos (by simpa using hk), nthT_get (xs := ky T) (by simpa using hk), hm]
      · rfl
    rw [e]
    refine h.tx.keep fun g2 hg2 => Below.heap_setCell _ _ _ _ (fun e => ?_)
    obtain ⟨c2, hc2⟩ := h.tx.ty g2 hg2
    exact ty_ne hc2 hcur (by decide) e
  · show World.ownsRow _ _ _ _ _ (T.set k (m, x)).length (nu (T.set k (m, x)))
    rw [List.length_set, nu, List.map_set]
    exact h1
  · exact Onl.set (Onl.refl _ _) (.inr (.inr rfl)) _ _
/-- a text that is new -/
theorem Ta.grow {w : World} {B q : Nat} {vt vn : Value} {T : Tl} (h : Ta w B q vt vn T) (m : ByteArray) (b : Int) (hl : (T.length + 1) * 64 ≤ 140737488355328) (hB : B ≤ w.heap.size) :
    ∃ a1 n1 c1 w1 a2 n2 c2 w3, (Builtin.append_ #[26, 26] 26 #[vt, .slice (some ⟨w.heap.size, 0, none⟩) 1 1]).run Try.prog (w.alloc (.cells #[.string m] 9)) = .ok (.slice a1 n1 c1) w1 ∧
      w1.cell? ⟨q, 0, none⟩ = some vt ∧ w1.cell? ⟨q, 1, none⟩ = some vn ∧ w1.frozen? ⟨q, 0, none⟩ = false ∧
      (Builtin.append_ #[27, 27] 27 #[vn, .slice (some ⟨w1.heap.size, 0, none⟩) 1 1]).run Try.prog ((w1.setCell ⟨q, 0, none⟩ (.slice a1 n1 c1)).alloc (.cells #[.int .i64 b] 3)) = .ok (.slice a2 n2 c2) w3 ∧
      w3.cell? ⟨q, 1, none⟩ = some vn ∧ w3.frozen? ⟨q, 1, none⟩ = false ∧ Hid (Mt w (w3.setCell ⟨q, 1, none⟩ (.slice a2 n2 c2)) B q vt vn (.slice a1 n1 c1) (.slice a2 n2 c2) (T ++ [(m, b)])) := by
  obtain ⟨i0, hi, hz0, hz1, hz2⟩ := info_ofF infoStr
  obtain ⟨i1, hj, hy0, hy1, hy2⟩ := info_ofF infoInt
  have hba : Below w.heap.size w (w.alloc (.cells #[.string m] 9)) := Below.al (Below.refl _ _) _
  have ha := h.later hba
  obtain ⟨v1, w1, hr1, hrow1, hg1, hn1⟩ := run_append_F ha.tx (rd_one w m) 26 hi hz0 hz1 hz2 (by simpa using hl) (Nat.le_trans hB hba.size)
  obtain ⟨a1, c1, rfl, _, _⟩ := hrow1.slice
  generalize hnl : (ky T ++ [m]).length = n1 at hr1 hrow1 hn1
  have hq1 : w1.heap[q]? = some (.cells #[vt, vn] 29 (0, 0)) := (hg1.block q ha.lt (fun e => by
    obtain ⟨c, hc⟩ := ha.tx.ty q e.symm
    exact ty_ne ha.blk hc (by decide) rfl)).trans ha.blk
  have hq2 : (w1.setCell ⟨q, 0, none⟩ (.slice a1 n1 c1)).heap[q]? = some (.cells #[.slice a1 n1 c1, vn] 29 (0, 0)) := by
    rw [setCell_eq]; simp [mapBlock, Array.getElem?_modify, hq1, onCells]
  have hs2 : (w1.setCell ⟨q, 0, none⟩ (.slice a1 n1 c1)).heap.size = w1.heap.size := by simp [World.setCell]
  have hnm1 : OwnN w1 B vn T := owns_keep ha.nm fun g hg => hg1.block g (World.ownsRow.lt ha.nm g hg).2 (fun e => by
    obtain ⟨c, hc⟩ := ha.tx.ty g e.symm
    obtain ⟨c', hc'⟩ := own_tyF ha.nm hg
    exact ty_ne hc hc' (by decide) rfl)
  have hnm2 : OwnN (w1.setCell ⟨q, 0, none⟩ (.slice a1 n1 c1)) B vn T := owns_keep hnm1 fun g hg => Below.heap_setCell _ _ _ _ (fun e => by
    obtain ⟨c', hc'⟩ := own_tyF hnm1 hg
    exact ty_ne hc' hq1 (by decide) e)
  have hrow2 : RowF (w1.setCell ⟨q, 0, none⟩ (.slice a1 n1 c1)) B (.slice a1 n1 c1) (ky T ++ [m]) := hrow1.keep fun g hg => Below.heap_setCell _ _ _ _ (fun e => by
    obtain ⟨c', hc'⟩ := hrow1.ty g hg
    exact ty_ne hc' hq1 (by decide) e)
  have hbb : Below (w1.setCell ⟨q, 0, none⟩ (.slice a1 n1 c1)).heap.size (w1.setCell ⟨q, 0, none⟩ (.slice a1 n1 c1)) ((w1.setCell ⟨q, 0, none⟩ (.slice a1 n1 c1)).alloc (.cells #[.int .i64 b] 3)) := Below.al (Below.refl _ _) _
  obtain ⟨w2, hw2⟩ : ∃ w2, w2 = (w1.setCell ⟨q, 0, none⟩ (.slice a1 n1 c1)).alloc (.cells #[.int .i64 b] 3) := ⟨_, rfl⟩
  rw [← hw2] at hbb
  have hnm3 : OwnN w2 B vn T := owns_keep hnm2 fun g hg => hbb.block g (World.ownsRow.lt hnm2 g hg).2
  have hrow3 := hrow2.later hbb
  have hq3 : w2.heap[q]? = some (.cells #[.slice a1 n1 c1, vn] 29 (0, 0)) := (hbb.block q (Array.getElem?_eq_some_iff.1 hq2).1).trans hq2
  have hcb : w2.cell? ⟨w1.heap.size, 0, none⟩ = some (.int .i64 b) := by
    rw [← hs2, hw2]; exact cell_obj (World.alloc_heap_new _ _) rfl
  have hw12 : w.heap.size ≤ w1.heap.size := Nat.le_trans hba.size hg1.size
  have hw22 : w1.heap.size ≤ w2.heap.size := by rw [← hs2]; exact hbb.size
  obtain ⟨v2, w3, hr2, hrow4, hg2, _, hn2⟩ := run_append_keep (P := Try.prog) w2 B 27 27 3 i1 (.int .i64 0) 1 8 Try.underlying27 hj hy0 hy1 hy2 rfl (by decide) vn T.length (nu T) hnm3 ⟨w1.heap.size, 0, none⟩ 1 1 [.int .i64 b] rfl (fun j u hj => by
      match j, hj with
      | 0, hj => simp at hj; subst hj; exact hcb
      | j + 1, hj => simp at hj) (fun u hu => by simp at hu; subst hu; rfl) (by unfold maxLen; omega) (by omega) (by omega) (by decide)
  obtain ⟨a2, c2, rfl⟩ := owns_slice hrow4
  have hq4 : w3.heap[q]? = some (.cells #[.slice a1 n1 c1, vn] 29 (0, 0)) := (hg2.block q (Array.getElem?_eq_some_iff.1 hq3).1 (fun e => by
    obtain ⟨c', hc'⟩ := own_tyF hnm3 e.symm
    exact ty_ne hq3 hc' (by decide) rfl)).trans hq3
  have hq5 : (w3.setCell ⟨q, 1, none⟩ (.slice a2 (T.length + 1) c2)).heap[q]? = some (.cells #[.slice a1 n1 c1, .slice a2 (T.length + 1) c2] 29 (0, 0)) := by
    rw [setCell_eq]; simp [mapBlock, Array.getElem?_modify, hq4, onCells]
  refine ⟨a1, n1, c1, w1, a2, T.length + 1, c2, w3, hr1, cell_obj hq1 rfl, cell_obj hq1 rfl, by simp [World.frozen?, hq1], by rw [← hw2]; exact hr2, cell_obj hq4 rfl, by simp [World.frozen?, hq4], ⟨hq5, ?_, ?_, h.low⟩, ?_, ?_⟩
  · have e : ky (T ++ [(m, b)]) = ky T ++ [m] := by simp [ky]
    rw [e]
    have h4 : RowF w3 B (.slice a1 n1 c1) (ky T ++ [m]) := hrow3.keep fun g hg => hg2.block g (hrow3.lt g hg).2 (fun e => by
      obtain ⟨c, hc⟩ := hrow3.ty g hg
      obtain ⟨c', hc'⟩ := own_tyF hnm3 e.symm
      exact ty_ne hc hc' (by decide) rfl)
    exact h4.keep fun g hg => Below.heap_setCell _ _ _ _ (fun e => by
      obtain ⟨c, hc⟩ := h4.ty g hg
      exact ty_ne hc hq4 (by decide) e)
  · show World.ownsRow _ _ _ _ _ (T ++ [(m, b)]).length (nu (T ++ [(m, b)]))
    rw [List.length_append, nu, List.map_append]
    exact owns_keep hrow4 fun g hg => Below.heap_setCell _ _ _ _ (fun e => by
      obtain ⟨c, hc⟩ := own_tyF hrow4 hg
      exact ty_ne hc hq4 (by decide) e)
  · refine Onl.set ?_ (.inl rfl) _ _
    have o1 : Onl (ItT q vt vn) w w1 := (Onl.of_below hba).trans ((grown_onl hg1).mono fun k e => .inr (.inl e))
    have o2 : Onl (ItT q vt vn) w w2 := by
      have := (o1.set (.inl rfl) 0 (.slice a1 n1 c1)).on hbb
      exact this
    exact o2.trans ((grown_onl hg2).mono fun k e => .inr (.inr e))
  · rintro k (rfl | hk | hk)
    · exact .inl (.inl rfl)
    · rcases hn1 k hk with e | e
      · exact .inl (.inr (.inl e))
      · have := hba.size; exact .inr (by omega)
    · rcases hn2 with e | ⟨j, e, hj⟩
      · exact .inl (.inr (.inr (by rw [← e]; exact hk)))
      · rw [e] at hk
        injection hk with hk
        exact .inr (by omega)
end Go.Proofs.Ytpnbgdbkiokooaa.Fl
