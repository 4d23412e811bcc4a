import Derived.Test.YtcghbjdmncggaaaDoorRLooked
import Derived.Test.YtcghbjdmncggaaaDoorRFitN
/- RouteShares: the walk. -/
namespace Go.Proofs.YtcghbjdmncggaaaDoor.Rt
open Go.RowKit Go.Sort
set_option linter.unusedVariables false

/-- Shares of what is no configuration -/
theorem Shares_no {c : Cf} {w : World} (h : c.Ok w) (hv : c.okB = false) {ra wa : Option Addr} {rn rc wn wc : Nat} :
    Calls Tryd.prog 11 #[c.val, .slice ra rn rc, .slice wa wn wc] w fun e w' => e = .returned (.slice none 0 0) ∧ Below w.heap.size w w' := by
  have HB := hid (BoxC.new w c 25)
  have H := hid h
  have HV := hid hv
  clear h hv
  go_enter Tryd.func11, Tryd.ntmps11
  go_wp2_with fail
  refine (mayBe_is (H.out.later (by (repeat (first | exact Below.refl _ _ | assumption | refine Below.drew ?_ | refine Below.al ?_ _ | refine Below.setCell ?_ (by first | exact Nat.le_refl _ | (simp; omega) | (simp; done)) _ | refine Below.on ?_ (by assumption))))) HV.out).mono ?_
  rintro e w1 ⟨rfl, hw1⟩
  have H1 : Hid (Below w.heap.size w w1) := hid (by (repeat (first | exact Below.refl _ _ | assumption | refine Below.drew ?_ | refine Below.al ?_ _ | refine Below.setCell ?_ (by first | exact Nat.le_refl _ | (simp; omega) | (simp; done)) _ | refine Below.on ?_ (by assumption))))
  clear hw1
  go_wp2_with fail
  go_ret
  exact ⟨rfl, H1.out⟩
/-- a row of writes of one's own -/
def OwnWr (w : World) (B : Nat) (v : Value) (l : List Wr) : Prop := w.ownsRow B 51 3 v l.length (flatW l)
theorem OwnWr.later {w w' : World} {B : Nat} {v : Value} {l : List Wr} (h : OwnWr w B v l) (hb : Below w.heap.size w w') : OwnWr w' B v l := owns_keep h fun g hg => hb.block g (World.ownsRow.lt h g hg).2
theorem OwnWr.nil (w : World) (B : Nat) : OwnWr w B (.slice none 0 0) [] := World.ownsRow_nil _ _ _ _
theorem OwnWr.grown {w w' : World} {B : Nat} {v : Value} {l : List Wr} {a : World} (h : OwnWr w B v l) (hg : w.grownBy w' v.ownBlock) (ha : Below B a w) (hB : B ≤ a.heap.size) : Below B a w' :=
  Below.grown ha hg (Nat.le_trans hB ha.size) (fun g hv => (World.ownsRow.lt h g hv).1)
theorem OwnWr.row {w : World} {B : Nat} {v : Value} {l : List Wr} (h : OwnWr w B v l) : ∃ a c, v = .slice a l.length c ∧ RowW w a l := by
  rcases Nat.eq_zero_or_pos l.length with h0 | h0
  · rcases h.2 with ⟨hv, h1⟩ | ⟨g, cap, cur, hv, _⟩
    · exact ⟨none, 0, by rw [hv, h1], fun i hi => by omega⟩
    · exact ⟨_, _, hv, fun i hi => by omega⟩
  · rcases h.2 with ⟨hv, h1⟩ | ⟨g, cap, cur, hv, _⟩
    · omega
    · subst hv
      refine ⟨_, _, rfl, fun i hi => ⟨g, 0, rfl, ?_, ?_, ?_⟩⟩
      · rw [Nat.zero_add]
        have := World.ownsRow.cellAt h (i * 3) (by omega)
        rw [this]; exact flatW_get l i 0 hi (by omega)
      · rw [Nat.zero_add]
        have := World.ownsRow.cellAt h (i * 3 + 1) (by omega)
        rw [this]; exact flatW_get l i 1 hi (by omega)
      · rw [Nat.zero_add]
        have := World.ownsRow.cellAt h (i * 3 + 2) (by omega)
        rw [this]; exact flatW_get l i 2 hi (by omega)
theorem append_Wr {w : World} {ops : Array Oper} {rest : List Oper} {o : Oper} {a : Act} {Q : Exit → Act → World → Prop} (hg : o.guard = none) (s x : Operand)
    (hop : o.op = Op.call { callee := Callee.builtin Builtin.append, args := #[s, x], argTypes := #[27, 27] }) {B : Nat} {v : Value} {l : List Wr} (e : Wr) (hs : a.eval s = v) (hown : OwnWr w B v l)
    {g : Nat} (hx : a.eval x = .slice (some ⟨g, 0, none⟩) 1 1) (c : w.cell? ⟨g, 0, none⟩ = some (.string e.key) ∧ w.cell? ⟨g, 1, none⟩ = some (.bool e.del) ∧ w.cell? ⟨g, 2, none⟩ = some (.string e.val)) (hl : (l.length + 1) * 40 ≤ 140737488355328) (hB : B ≤ w.heap.size)
    (hK : ∀ v' w', OwnWr w' B v' (l ++ [e]) → w.grownBy w' v.ownBlock → wpList Tryd.prog ops Q rest (a.put o.dst v') w') : wpList Tryd.prog ops Q (o :: rest) a w := by
  obtain ⟨i0, hi, hz0, hz1, hz2⟩ := info_ofR infoRW
  refine wpList_append_own _ hg s x 27 hop B 51 i0 _ 3 40 Tryd.underlying27 hi hz0 hz1 hz2 rfl (by decide) v l.length (flatW l) hs hown ⟨g, 0, none⟩ 1 1 [.string e.key, .bool e.del, .string e.val] hx rfl ?_ ?_ (by unfold maxLen; omega) (by omega) hB ?_
  · intro j u hj
    match j, hj with
    | 0, hj => simp at hj; subst hj; exact c.1
    | 1, hj => simp at hj; subst hj; exact c.2.1
    | 2, hj => simp at hj; subst hj; exact c.2.2
    | j + 3, hj => simp at hj
  · intro u hu; simp at hu; rcases hu with rfl | rfl | rfl <;> rfl
  · intro v' w' ho hgr _
    refine hK v' w' ?_ hgr
    show w'.ownsRow B _ 3 v' (l ++ [e]).length (flatW (l ++ [e]))
    have e2 : flatW (l ++ [e]) = flatW l ++ [.string e.key, .bool e.del, .string e.val] := by simp [flatW]
    rw [e2, List.length_append]
    exact ho
theorem sumW_step {l : List Sh} {i : Nat} (h : i < l.length) : sumW (l.take (i + 1)) = sumW (l.take i) + (nthSh l i).2.2.length := by rw [sh_take h, sumW_snoc]
theorem sumW_take_le (l : List Sh) (i : Nat) : sumW (l.take i) ≤ sumW l := by
  conv => rhs; rw [← List.take_append_drop i l]
  rw [sumW, sumW, List.map_append, List.sum_append]
  omega
theorem sumW_mem {l : List Sh} {p : Sh} (h : p ∈ l) : p.2.2.length ≤ sumW l := by
  induction l with
  | nil => simp at h
  | cons x l ih =>
    rcases List.mem_cons.1 h with rfl | h
    · simp [sumW]
    · have := ih h
      simp only [sumW, List.map_cons, List.sum_cons] at this ⊢
      omega
/-- shares with something are there -/
theorem share_there {ss : List ByteArray} {rs : List T2} {ws : List Wr} {j : Nat} : ∀ {n : Nat}, j < n → writesL ss ws j ≠ [] → (j, readsL ss rs j, writesL ss ws j) ∈ shareN ss rs ws n
  | 0, h, _ => by omega
  | n + 1, h, hne => by
    rw [shareN, List.mem_append]
    by_cases e : j = n
    · subst e
      right
      have : 0 < (writesL ss ws j).length := List.length_pos_iff.2 hne
      rw [if_neg (by omega)]; simp
    · left; exact share_there (by omega) hne
/-- the first share with writes is the home -/
theorem first_home {ss : List ByteArray} {rs : List T2} {ws : List Wr} {i : Nat} (hi : i < (shareL ss rs ws).length) (h0 : sumW ((shareL ss rs ws).take i) = 0) (hw : (nthSh (shareL ss rs ws) i).2.2 ≠ []) : (nthSh (shareL ss rs ws) i).1 = homeK ss ws (ws.length - 1) ∧ 0 < ws.length := by
  have hm := sh_mem hi
  obtain ⟨h1, h2, h3, h4⟩ := share_mem (show nthSh (shareL ss rs ws) i ∈ shareN ss rs ws (ss.length + 1) from hm)
  obtain ⟨p, hp⟩ : ∃ p, p = nthSh (shareL ss rs ws) i := ⟨_, rfl⟩
  rw [← hp] at h1 h2 h3 h4 hw hm ⊢
  rw [h3] at hw
  have hws : 0 < ws.length := by
    rcases Nat.eq_zero_or_pos ws.length with h | h
    · rw [List.length_eq_zero_iff] at h
      subst h; simp [writesL] at hw
    · exact h
  obtain ⟨f1, f2⟩ := home_first (ss := ss) hws
  refine ⟨?_, hws⟩
  rcases Nat.lt_trichotomy p.1 (homeK ss ws (ws.length - 1)) with h | h | h
  · exact absurd (f1 _ h) hw
  · exact h
  · exfalso
    have hin := share_there (rs := rs) (n := ss.length + 1) (by omega) f2
    obtain ⟨k, hk, ek⟩ := List.getElem_of_mem hin
    have hrise : (shareL ss rs ws).Pairwise fun a b => a.1 < b.1 := share_rise ss rs ws (ss.length + 1)
    have hk' : k < (shareL ss rs ws).length := hk
    have hki : k < i := by
      rcases Nat.lt_trichotomy k i with e | e | e
      · exact e
      · exfalso
        subst e
        have e2 : nthSh (shareL ss rs ws) k = (shareL ss rs ws)[k] := by simp [nthSh, hk']
        rw [hp, e2] at h
        rw [show (shareL ss rs ws)[k] = _ from ek] at h
        simp at h
      · exfalso
        have := List.pairwise_iff_getElem.1 hrise i k hi hk' e
        have e2 : nthSh (shareL ss rs ws) i = (shareL ss rs ws)[i] := by simp [nthSh, hi]
        rw [← e2, ← hp, show (shareL ss rs ws)[k] = _ from ek] at this
        simp at this
        omega
    have hmem : (shareL ss rs ws)[k] ∈ (shareL ss rs ws).take i := by
      rw [List.mem_take_iff_getElem]
      exact ⟨k, by omega, rfl⟩
    have := sumW_mem hmem
    rw [h0, show (shareL ss rs ws)[k] = _ from ek] at this
    simp only at this
    exact f2 (List.length_eq_zero_iff.1 (by omega))
theorem sh_rise {ss : List ByteArray} {rs : List T2} {ws : List Wr} {i : Nat} (h : i + 1 < (shareL ss rs ws).length) : (nthSh (shareL ss rs ws) i).1 < (nthSh (shareL ss rs ws) (i + 1)).1 := by
  have hrise : (shareL ss rs ws).Pairwise fun a b => a.1 < b.1 := share_rise ss rs ws (ss.length + 1)
  have := List.pairwise_iff_getElem.1 hrise i (i + 1) (by omega) h (by omega)
  have e1 : nthSh (shareL ss rs ws) i = (shareL ss rs ws)[i] := by simp [nthSh, show i < (shareL ss rs ws).length by omega]
  have e2 : nthSh (shareL ss rs ws) (i + 1) = (shareL ss rs ws)[i + 1] := by simp [nthSh, h]
  rw [e1, e2]; exact this

end Go.Proofs.YtcghbjdmncggaaaDoor.Rt
