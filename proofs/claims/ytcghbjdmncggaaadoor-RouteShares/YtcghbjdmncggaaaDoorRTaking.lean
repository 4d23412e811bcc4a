import Derived.Test.YtcghbjdmncggaaaDoorRShares
/- taking: the shares that have something. -/
namespace Go.Proofs.YtcghbjdmncggaaaDoor.Rt
open Go.RowKit Go.Sort
set_option linter.unusedVariables false

theorem owR_slice {w : World} {G : Nat} {v : Value} {l : List T2} (h : OwR w G v l) : ∃ a c, v = .slice a l.length c := by
  rcases h.2 with ⟨hv, h0⟩ | ⟨g, cap, cur, hv, _⟩
  · exact ⟨none, 0, by rw [hv, h0]⟩
  · exact ⟨_, _, hv⟩
theorem owW_slice {w : World} {G : Nat} {v : Value} {l : List Wr} (h : OwW w G v l) : ∃ a c, v = .slice a l.length c := by
  rcases h.2 with ⟨hv, h0⟩ | ⟨g, cap, cur, hv, _⟩
  · exact ⟨none, 0, by rw [hv, h0]⟩
  · exact ⟨_, _, hv⟩
/-- a share as it lies: its shard, its two lists -/
abbrev Tk := Nat × Value × Value
def cellsS (p : Tk) : List Value := [.int .u32 (p.1 : Int), p.2.1, p.2.2]
def flatTk (l : List Tk) : List Value := l.flatMap cellsS
theorem flatTk_snoc (l : List Tk) (p : Tk) : flatTk (l ++ [p]) = flatTk l ++ cellsS p := by simp [flatTk]
def OwnS (w : World) (B : Nat) (v : Value) (l : List Tk) : Prop := w.ownsRow B 49 3 v l.length (flatTk l)
theorem OwnS.later {w w' : World} {B : Nat} {v : Value} {l : List Tk} (h : OwnS w B v l) (hb : Below w.heap.size w w') : OwnS w' B v l := owns_keep h fun g hg => hb.block g (World.ownsRow.lt h g hg).2
theorem OwnS.nil (w : World) (B : Nat) : OwnS w B (.slice none 0 0) [] := World.ownsRow_nil _ _ _ _
theorem OwnS.grown {w w' : World} {B : Nat} {v : Value} {l : List Tk} {a : World} (h : OwnS w B v l) (hg : w.grownBy w' v.ownBlock) (ha : Below B a w) (hB : B ≤ a.heap.size) : Below B a w' :=
  Below.grown ha hg (Nat.le_trans hB ha.size) (fun g hv => (World.ownsRow.lt h g hv).1)
theorem append_S {w : World} {ops : Array Oper} {rest : List Oper} {o : Oper} {a : Act} {Q : Exit → Act → World → Prop} (hg : o.guard = none) (s x : Operand)
    (hop : o.op = Op.call { callee := Callee.builtin Builtin.append, args := #[s, x], argTypes := #[42, 42] }) {B : Nat} {v : Value} {l : List Tk} (e : Tk) (hs : a.eval s = v) (hown : OwnS w B v l) (h1 : e.2.1.oneCell' = true) (h2 : e.2.2.oneCell' = true)
    {g : Nat} (hx : a.eval x = .slice (some ⟨g, 0, none⟩) 1 1) (c : w.cell? ⟨g, 0, none⟩ = some (.int .u32 (e.1 : Int)) ∧ w.cell? ⟨g, 1, none⟩ = some e.2.1 ∧ w.cell? ⟨g, 2, none⟩ = some e.2.2) (hl : (l.length + 1) * 64 ≤ 140737488355328) (hB : B ≤ w.heap.size)
    (hK : ∀ v' w', OwnS w' B v' (l ++ [e]) → w.grownBy w' v.ownBlock → wpList Tryd.prog ops Q rest (a.put o.dst v') w') : wpList Tryd.prog ops Q (o :: rest) a w := by
  obtain ⟨i0, hi, hz0, hz1, hz2⟩ := info_ofR infoSh
  refine wpList_append_own _ hg s x 42 hop B 49 i0 _ 3 56 Tryd.underlying42 hi hz0 hz1 hz2 rfl (by decide) v l.length (flatTk l) hs hown ⟨g, 0, none⟩ 1 1 (cellsS e) hx rfl ?_ ?_ (by unfold maxLen; omega) (by omega) hB ?_
  · intro j u hj
    match j, hj with
    | 0, hj => simp [cellsS] at hj; subst hj; exact c.1
    | 1, hj => simp [cellsS] at hj; subst hj; exact c.2.1
    | 2, hj => simp [cellsS] at hj; subst hj; exact c.2.2
    | j + 3, hj => simp [cellsS] at hj
  · intro u hu; simp [cellsS] at hu; rcases hu with rfl | rfl | rfl
    · rfl
    · exact h1
    · exact h2
  · intro v' w' ho hgr _
    refine hK v' w' ?_ hgr
    show w'.ownsRow B _ 3 v' (l ++ [e]).length (flatTk (l ++ [e]))
    rw [flatTk_snoc, List.length_append]
    exact ho
def tkN (vr vw : Nat → Value) (R : Nat → List T2) (V : Nat → List Wr) : Nat → List Tk
  | 0 => []
  | n + 1 => tkN vr vw R V n ++ if (R n).length + (V n).length = 0 then [] else [(n, vr n, vw n)]
theorem tk_len (vr vw : Nat → Value) (R : Nat → List T2) (V : Nat → List Wr) : ∀ n, (tkN vr vw R V n).length ≤ n
  | 0 => by simp [tkN]
  | n + 1 => by
    have := tk_len vr vw R V n
    rw [tkN, List.length_append]
    split <;> simp <;> omega
theorem newT (w : World) (z x y : Value) (t : TypeId) : (w.alloc (.cells #[z, x, y] t)).cell? ⟨w.heap.size, 0, none⟩ = some z ∧ (w.alloc (.cells #[z, x, y] t)).cell? ⟨w.heap.size, 1, none⟩ = some x ∧ (w.alloc (.cells #[z, x, y] t)).cell? ⟨w.heap.size, 2, none⟩ = some y := by
  have h := World.alloc_heap_new w (.cells #[z, x, y] t)
  exact ⟨by simp only [World.cell?, h]; rfl, by simp only [World.cell?, h]; rfl, by simp only [World.cell?, h]; rfl⟩

theorem newT2 (w : World) (o : Obj) (z x y : Value) (t : TypeId) : ((w.alloc o).alloc (.cells #[z, x, y] t)).cell? ⟨w.heap.size + 1, 0, none⟩ = some z ∧ ((w.alloc o).alloc (.cells #[z, x, y] t)).cell? ⟨w.heap.size + 1, 1, none⟩ = some x ∧ ((w.alloc o).alloc (.cells #[z, x, y] t)).cell? ⟨w.heap.size + 1, 2, none⟩ = some y := by
  have := newT (w.alloc o) z x y t
  simpa only [World.size_alloc] using this

set_option maxHeartbeats 4000000 in
set_option maxRecDepth 16000 in
theorem taking_is {w : World} {G N : Nat} {vr vw : Nat → Value} {R : Nat → List T2} {V : Nat → List Wr} (T : Tb w G N vr vw R V) (hN : N ≤ 6) (hR : ∀ i, i < N → (R i).length ≤ 4398046511104) (hV : ∀ i, i < N → (V i).length ≤ 4398046511104) :
    Calls Tryd.prog 21 #[.slice (some ⟨G, 0, none⟩) N N] w fun e w' => ∃ v, e = .returned v ∧ OwnS w' w.heap.size v (tkN vr vw R V N) ∧ Below w.heap.size w w' := by
  have HT := hid T
  have HR := hid hR
  have HV := hid hV
  clear T hR hV
  go_enter Tryd.func21, Tryd.ntmps21
  go_wp2_with fail
  go_loopg [3, 8] N (fun g s3 s8 wr => ∃ n : Nat, n ≤ N ∧ g = N - n ∧ s8 = .int .i64 n ∧ Hid (OwnS wr w.heap.size s3 (tkN vr vw R V n)) ∧ Hid (Below w.heap.size w wr))
  case atStart => exact ⟨0, by omega, by omega, rfl, hid (OwnS.nil _ _), hid (Below.refl _ _)⟩
  case round =>
    obtain ⟨n, hn, rfl, rfl, HO, HW⟩ := hrel
    obtain ⟨v5, hv5⟩ : ∃ v5, v5 = u3 := ⟨_, rfl⟩
    rw [← hv5] at HO
    rw [← hv5]
    clear hv5
    by_cases hlt : n < N
    · obtain ⟨g0, g1, g2⟩ := (HT.out.later HW.out).cells n hlt
      obtain ⟨ar, cr, er⟩ := owR_slice (HT.out.reads n hlt)
      obtain ⟨aw, cw, ew⟩ := owW_slice (HT.out.writes n hlt)
      have h1 := HR.out n hlt
      have h2 := HV.out n hlt
      have HS : Hid (tkN vr vw R V (n + 1) = tkN vr vw R V n ++ if (R n).length + (V n).length = 0 then [] else [(n, .slice ar (R n).length cr, .slice aw (V n).length cw)]) := hid (by rw [tkN, er, ew])
      rw [er] at g1
      rw [ew] at g2
      obtain ⟨lr, hlr⟩ : ∃ lr, lr = (R n).length := ⟨_, rfl⟩
      obtain ⟨lw, hlw⟩ : ∃ lw, lw = (V n).length := ⟨_, rfl⟩
      rw [← hlr] at g1 h1 HS
      rw [← hlw] at g2 h2 HS
      have hcl := tk_len vr vw R V n
      have hi1 : (n : Int) < (N : Int) := by omega
      have hw1 : IntKind.i64.wrap ((lr : Int) + (lw : Int)) = (lr : Int) + (lw : Int) := by rw [IntKind.wrap_i64]; omega
      clear er ew hlr hlw
      by_cases hz : lr + lw = 0
      · have hd1 : decide ((0 : Int) < (lr : Int) + (lw : Int)) = false := by simp; omega
        have HS' : Hid (tkN vr vw R V (n + 1) = tkN vr vw R V n) := hid (by rw [HS.out, if_pos hz, List.append_nil])
        clear HS hz h1 h2 hcl
        go_wp2_with fail
        go_roundg (N - (n + 1))
        case measure => omega
        case rel => exact ⟨n + 1, by omega, rfl, by go_num, hid (by rw [HS'.out]; exact HO.out.later (by (repeat (first | with_reducible exact Below.refl _ _ | with_reducible assumption | with_reducible refine Below.drew ?_ | with_reducible refine Below.al ?_ _ | with_reducible refine Below.setCell ?_ (by first | exact Nat.le_refl _ | (simp; omega) | (simp; done)) _ | with_reducible refine Below.on ?_ (by assumption))))), hid (Below.on HW.out (by (repeat (first | with_reducible exact Below.refl _ _ | with_reducible assumption | with_reducible refine Below.drew ?_ | with_reducible refine Below.al ?_ _ | with_reducible refine Below.setCell ?_ (by first | exact Nat.le_refl _ | (simp; omega) | (simp; done)) _ | with_reducible refine Below.on ?_ (by assumption)))))⟩
      · have hd1 : decide ((0 : Int) < (lr : Int) + (lw : Int)) = true := by simp; omega
        have HS' : Hid (tkN vr vw R V (n + 1) = tkN vr vw R V n ++ [(n, .slice ar lr cr, .slice aw lw cw)]) := hid (by rw [HS.out, if_neg hz])
        have hcv : IntKind.u32.wrap (n : Int) = (n : Int) := by rw [IntKind.wrap_u32]; omega
        have hL1 : Hid (((tkN vr vw R V n).length + 1) * 64 ≤ 140737488355328) := hid (by omega)
        clear HS hz h1 h2 hcl
        have HOX : Hid (∀ W, Below wr.heap.size wr W → OwnS W w.heap.size v5 (tkN vr vw R V n)) := hid (fun W hb => HO.out.later hb)
        have HBX : Hid (∀ W, Below wr.heap.size wr W → Below w.heap.size w W ∧ w.heap.size ≤ W.heap.size) := hid (fun W hb => ⟨Below.on HW.out hb, Nat.le_trans HW.out.size hb.size⟩)
        clear HO HW
        go_wp2_with (at_builtin; refine append_S rfl _ _ rfl (n, .slice ar lr cr, .slice aw lw cw) rfl (HOX.out _ (by (repeat (first | with_reducible exact Below.refl _ _ | with_reducible assumption | with_reducible refine Below.drew ?_ | with_reducible refine Below.al ?_ _ | with_reducible refine Below.setCell ?_ (by first | exact Nat.le_refl _ | (simp; omega) | (simp; done)) _ | with_reducible refine Below.on ?_ (by assumption))))) rfl rfl rfl (newT2 _ _ _ _ _ _) hL1.out (HBX.out _ (by (repeat (first | with_reducible exact Below.refl _ _ | with_reducible assumption | with_reducible refine Below.drew ?_ | with_reducible refine Below.al ?_ _ | with_reducible refine Below.setCell ?_ (by first | exact Nat.le_refl _ | (simp; omega) | (simp; done)) _ | with_reducible refine Below.on ?_ (by assumption))))).2 ?_; intro v6 w6 ho6 hg6; have HO6 := hid ho6; have HB6 := hid (OwnS.grown (HOX.out _ (by (repeat (first | with_reducible exact Below.refl _ _ | with_reducible assumption | with_reducible refine Below.drew ?_ | with_reducible refine Below.al ?_ _ | with_reducible refine Below.setCell ?_ (by first | exact Nat.le_refl _ | (simp; omega) | (simp; done)) _ | with_reducible refine Below.on ?_ (by assumption))))) hg6 (HBX.out _ (by (repeat (first | with_reducible exact Below.refl _ _ | with_reducible assumption | with_reducible refine Below.drew ?_ | with_reducible refine Below.al ?_ _ | with_reducible refine Below.setCell ?_ (by first | exact Nat.le_refl _ | (simp; omega) | (simp; done)) _ | with_reducible refine Below.on ?_ (by assumption))))).1 (Nat.le_refl _)); clear ho6 hg6)
        go_roundg (N - (n + 1))
        case measure => omega
        case rel => exact ⟨n + 1, by omega, rfl, by go_num, hid (by rw [HS'.out]; exact HO6.out), HB6⟩
    · obtain rfl : n = N := by omega
      have HF : Hid (OwnS wr w.heap.size v5 (tkN vr vw R V n) ∧ Below w.heap.size w wr) := hid ⟨HO.out, HW.out⟩
      clear HO HW
      go_wp2_with fail
      go_ret
      exact ⟨_, rfl, HF.out.1, HF.out.2⟩
end Go.Proofs.YtcghbjdmncggaaaDoor.Rt
