import Derived.Test.YtodolbekbeccbabSign
import Derived.Test.YtodolbekbeccbabSortCall
import Derived.ArgAppend
namespace Go.Proofs.Ytodolbekbeccbab
open Go.RowKit Go.Sort
set_option linter.unusedVariables false

/-- m lists lie in the row at block L -/
def Lies (w : World) (L m : Nat) (gs ns : Nat → Nat) : Prop := ∀ i, i < m → w.cell? ⟨L, i, none⟩ = some (.slice (some ⟨gs i, 0, none⟩) (ns i) (ns i))
/-- what the lists hold -/
def Fulls (w : World) (m : Nat) (gs ns : Nat → Nat) (fs : Nat → Nat → St) : Prop := ∀ i, i < m → w.heap[gs i]? = some (.cells (flat (tab (ns i) (fs i))).toArray 25 (0, 0))

theorem Lies.later {w w' : World} {L m : Nat} {gs ns : Nat → Nat} (h : Lies w L m gs ns) (hb : Below w.heap.size w w') : Lies w' L m gs ns := fun i hi => cell_later hb (h i hi)
theorem Fulls.later {w w' : World} {m : Nat} {gs ns : Nat → Nat} {fs : Nat → Nat → St} (h : Fulls w m gs ns fs) (hb : Below w.heap.size w w') : Fulls w' m gs ns fs := fun i hi => by
  have h1 := h i hi
  rw [hb.block (gs i) (Array.getElem?_eq_some_iff.1 h1).1]; exact h1
theorem Fulls.lt {w : World} {m : Nat} {gs ns : Nat → Nat} {fs : Nat → Nat → St} (h : Fulls w m gs ns fs) {i : Nat} (hi : i < m) : gs i < w.heap.size := (Array.getElem?_eq_some_iff.1 (h i hi)).1
theorem Fulls.row {w : World} {m : Nat} {gs ns : Nat → Nat} {fs : Nat → Nat → St} (h : Fulls w m gs ns fs) {i : Nat} (hi : i < m) (hm : ns i ≤ maxLen) : w.ownsRow (gs i) 25 3 (.slice (some ⟨gs i, 0, none⟩) (ns i) (ns i)) (ns i) (flat (tab (ns i) (fs i))) :=
  owns_of_full (tab_length _ _) (Nat.le_refl _) hm (h i hi)

/-- a stamp written into a list -/
abbrev put3 (w : World) (g k : Nat) (x : St) : World := ((w.setCell ⟨g, k * 3, none⟩ (.int .u64 x.w)).setCell ⟨g, k * 3 + 1, none⟩ (.int .u32 x.l)).setCell ⟨g, k * 3 + 2, none⟩ (.int .u32 x.n)
theorem put3_heap (w : World) (g k j : Nat) (x : St) (h : j ≠ g) : (put3 w g k x).heap[j]? = w.heap[j]? := by
  unfold put3
  rw [Below.heap_setCell _ _ _ _ h, Below.heap_setCell _ _ _ _ h, Below.heap_setCell _ _ _ _ h]

theorem put3_cell (w : World) (g k : Nat) (x : St) (a : Addr) (h : a.block ≠ g) : (put3 w g k x).cell? a = w.cell? a := World.cell?_of_block (put3_heap w g k a.block x h)

theorem Fulls.put {w : World} {m : Nat} {gs ns : Nat → Nat} {fs fs' : Nat → Nat → St} (h : Fulls w m gs ns fs) (hinj : ∀ i j, i < m → j < m → gs i = gs j → i = j) {i k : Nat} (hi : i < m) (hm : ns i ≤ maxLen) (hk : k < ns i) (x : St)
    (he : fs' i k = x) (hs : ∀ i' j, ¬ (i' = i ∧ j = k) → fs' i' j = fs i' j) : Fulls (put3 w (gs i) k x) m gs ns fs' := fun i' hi' => by
  by_cases e : i' = i
  · subst e
    have h1 := owns_put (h.row hi hm) (k := k) (by rw [tab_length]; exact hk) x
    rw [tab_set (g := fs' i') he (fun j _ hj => hs i' j (fun e => hj e.2))] at h1
    exact (owns_full (tab_length _ _) h1).2.2
  · have hne : gs i' ≠ gs i := fun e' => e (hinj _ _ hi' hi e')
    rw [put3_heap _ _ _ _ _ hne, h i' hi', tab_congr (fun j _ => (hs i' j (fun e' => e e'.1)).symm)]

theorem Lies.put {w : World} {L m : Nat} {gs ns : Nat → Nat} (h : Lies w L m gs ns) {g : Nat} (hg : L ≠ g) (k : Nat) (x : St) : Lies (put3 w g k x) L m gs ns := fun i hi => by
  rw [← h i hi]
  exact World.cell?_of_block (a := ⟨L, i, none⟩) (put3_heap w g k L x hg)

theorem put_all {B L m : Nat} {gs ns : Nat → Nat} {w wr w1 : World} {fs fs' : Nat → Nat → St} (hb1 : Below wr.heap.size wr w1) (hB : Below B w wr) (hF : Fulls wr m gs ns fs) (hLi : Lies wr L m gs ns)
    (hinj : ∀ i j, i < m → j < m → gs i = gs j → i = j) {i k : Nat} (hi : i < m) (hgL : L ≠ gs i) (hm : ns i ≤ maxLen) (hBg : B ≤ gs i) (hk : k < ns i) (x : St)
    (he : fs' i k = x) (hs : ∀ i' j, ¬ (i' = i ∧ j = k) → fs' i' j = fs i' j) : Fulls (put3 w1 (gs i) k x) m gs ns fs' ∧ Lies (put3 w1 (gs i) k x) L m gs ns ∧ Below B w (put3 w1 (gs i) k x) :=
  ⟨(hF.later hb1).put hinj hi hm hk x he hs, (hLi.later hb1).put hgL k x, below_put3 (hB.trans (hb1.mono (Nat.le_trans hBg (Nat.le_of_lt (hF.lt hi))))) hBg (k * 3) x⟩

/-- append(v, x): v a row of our own, or a full row of another's -/
theorem wpList_append_either {w : World} {ops : Array Oper} {rest : List Oper} {o : Oper} {a : Act} {Q : Exit → Act → World → Prop}
    (hg : o.guard = none) (s x : Operand) (hop : o.op = Op.call { callee := Callee.builtin Builtin.append, args := #[s, x], argTypes := #[31, 31] })
    (base n : Nat) (v : Value) (xs : List St) (y : St) (hs : a.eval s = v) (hl : xs.length = n) (hx : (∃ g, v = .slice (some ⟨g, 0, none⟩) n n ∧ Row w (some ⟨g, 0, none⟩) xs) ∨ w.ownsRow base 25 3 v n (flat xs))
    (ad : Addr) (hy : a.eval x = .slice (some ad) 1 1) (hc : ∀ j u, y.cs[j]? = some u → w.cell? (ad.add j) = some u) (hb : base ≤ w.heap.size) (b2 : (n + 1) * 16 ≤ 140737488355328)
    (hK : ∀ v' w', w'.ownsRow base 25 3 v' (n + 1) (flat (xs ++ [y])) → Below base w w' → wpList Try.prog ops Q rest (a.put o.dst v') w') :
    wpList Try.prog ops Q (o :: rest) a w := by
  obtain ⟨i0, hi, hz0, hz1, hz2⟩ := info_parts Try.infoSt
  have h1c : ∀ u ∈ y.cs, u.oneCell' = true := fun u hu => by simp [St.cs] at hu; rcases hu with rfl | rfl | rfl <;> rfl
  have hfl : flat (xs ++ [y]) = flat xs ++ y.cs := by rw [flat_append, flat_one]
  rcases hx with ⟨g, rfl, hr⟩ | hown
  · refine wpList_append_grows w hg s x 31 hop 25 i0 (stv 0 0 0) 3 16 Try.underlying31 hi hz0 hz1 hz2 rfl (by decide) (some ⟨g, 0, none⟩) n n (flat xs) hs (fun e => by cases e) (by rw [flat_length, hl]) ?_ ad 1 1 y.cs hy rfl hc h1c (by omega) (by unfold maxLen; omega) b2 ?_
    · intro b eb j u hj
      have n0 : 0 < xs.length := by
        have := (List.getElem?_eq_some_iff.1 hj).1
        rw [flat_length] at this; omega
      obtain ⟨b', off, e, hcell⟩ := row_cells hr n0
      injection eb with eb
      injection e with e
      rw [← eb, e]; exact hcell j u hj
    · intro v' w' ho hgr
      rw [← hfl] at ho
      exact hK v' w' (Joins.ownsRow_le ho hb) (Below.grown (Below.refl _ _) hgr hb (fun k hk => by cases hk))
  · refine wpList_append_own w hg s x 31 hop base 25 i0 (stv 0 0 0) 3 16 Try.underlying31 hi hz0 hz1 hz2 rfl (by decide) v n (flat xs) hs hown ad 1 1 y.cs hy rfl hc h1c (by unfold maxLen; omega) b2 hb ?_
    intro v' w' ho hgr _
    rw [← hfl] at ho
    exact hK v' w' ho (Below.grown (Below.refl _ _) hgr hb (fun k hk => (hown.lt k hk).1))

theorem either_of {W w : World} {gk n j : Nat} {v : Value} {f : Nat → St} (hx : (j = 0 ∧ v = .slice (some ⟨gk, 0, none⟩) n n) ∨ w.ownsRow W.heap.size 25 3 v (n + j) (flat (tab (n + j) f))) (hr : Row W (some ⟨gk, 0, none⟩) (tab n f)) (hb : Below W.heap.size W w) :
    (∃ g, v = .slice (some ⟨g, 0, none⟩) (n + j) (n + j) ∧ Row w (some ⟨g, 0, none⟩) (tab (n + j) f)) ∨ w.ownsRow W.heap.size 25 3 v (n + j) (flat (tab (n + j) f)) := by
  rcases hx with ⟨rfl, rfl⟩ | h
  · exact .inl ⟨gk, rfl, hr.later hb⟩
  · exact .inr h
theorem either_later {w w' : World} {base n : Nat} {v : Value} {xs : List St} (hb : Below w.heap.size w w') (hx : (∃ g, v = .slice (some ⟨g, 0, none⟩) n n ∧ Row w (some ⟨g, 0, none⟩) xs) ∨ w.ownsRow base 25 3 v n (flat xs)) :
    (∃ g, v = .slice (some ⟨g, 0, none⟩) n n ∧ Row w' (some ⟨g, 0, none⟩) xs) ∨ w'.ownsRow base 25 3 v n (flat xs) := by
  rcases hx with ⟨g, e, h⟩ | h
  · exact .inl ⟨g, e, h.later hb⟩
  · exact .inr (owns_later h hb)

/-- rows of different types lie apart -/
theorem own_apart {w : World} {b1 b2 n1 n2 s1 s2 : Nat} {e1 e2 : TypeId} {v1 v2 : Value} {xs ys : List Value} (h1 : w.ownsRow b1 e1 s1 v1 n1 xs) (h2 : w.ownsRow b2 e2 s2 v2 n2 ys) (hne : e1 ≠ e2) : v1.ownBlock = none ∨ v1.ownBlock ≠ v2.ownBlock := by
  obtain ⟨_, ⟨rfl, _⟩ | ⟨g, cap, cur, rfl, _, hg, _⟩⟩ := h1
  · exact .inl rfl
  · right
    obtain ⟨_, ⟨rfl, _⟩ | ⟨g', cap', cur', rfl, _, hg', _⟩⟩ := h2
    · simp [Value.ownBlock]
    · simp only [Value.ownBlock]
      intro e
      injection e with e
      subst e
      rw [hg] at hg'
      injection hg' with hg'
      injection hg' with _ e _
      exact hne e

theorem Try.infoSts : (Try.prog.info? 31).map (fun i => (i.zero, i.size, i.bytes)) = some (some (.slice none 0 0), 1, 24) := by kernel_rfl

theorem tab_succ (n : Nat) (f : Nat → St) : tab (n + 1) f = tab n f ++ [f n] := by
  simp [tab, List.range_succ]

end Go.Proofs.Ytodolbekbeccbab
