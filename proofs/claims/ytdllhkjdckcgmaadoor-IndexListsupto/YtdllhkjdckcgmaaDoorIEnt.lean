import Derived.Test.YtdllhkjdckcgmaaDoorILaid
import Derived.RangeFuncBox
namespace Go.Proofs.YtdllhkjdckcgmaaDoor
open Go.RowKit Go.Sort
set_option linter.unusedVariables false

theorem dN {B : Nat} {a w : World} (h : Below B a w) (n : Nat) : Below B a (w.drewN n) := ⟨h.os, h.tape, h.output, h.size, h.block⟩
abbrev env (k : ByteArray) (v : Int) : Value := .agg #[.string k, .int .i64 v]
theorem infoEn : (Tryd.prog.info? 72).map (fun i => (i.zero, i.size, i.bytes)) = some (some (env ⟨#[]⟩ 0), 2, 24) := by kernel_rfl
theorem infoCh : (Tryd.prog.info? 61).map (fun i => (i.zero, i.size, i.bytes)) = some (some (.agg #[.string ⟨#[]⟩, .int .i64 0, .bool false]), 3, 32) := by kernel_rfl
theorem info_ofI {P : Program} {t : TypeId} {z : Value} {n m : Nat} (h : (P.info? t).map (fun i => (i.zero, i.size, i.bytes)) = some (some z, n, m)) : ∃ i, P.info? t = some i ∧ i.zero = some z ∧ i.size = n ∧ i.bytes = m := by
  obtain ⟨i, hi, he⟩ := Option.map_eq_some_iff.1 h
  simp only [Prod.mk.injEq] at he
  exact ⟨i, hi, he.1, he.2.1, he.2.2⟩
/-- a row of entries of one's own -/
def OwnE (w : World) (B : Nat) (v : Value) (l : List En) : Prop := w.ownsRow B 72 2 v l.length (flatE l)
theorem OwnE.later {w w' : World} {B : Nat} {v : Value} {l : List En} (h : OwnE w B v l) (hb : Below w.heap.size w w') : OwnE w' B v l := owns_keep h fun g hg => hb.block g (World.ownsRow.lt h g hg).2
theorem OwnE.nil (w : World) (B : Nat) : OwnE w B (.slice none 0 0) [] := World.ownsRow_nil _ _ _ _
theorem OwnE.base {w : World} {B B' : Nat} {v : Value} {l : List En} (h : OwnE w B v l) (hB : B' ≤ B) : OwnE w B' v l := by
  obtain ⟨h1, h2 | ⟨g, cap, cur, hv, hg, r⟩⟩ := h
  · exact ⟨h1, .inl h2⟩
  · exact ⟨h1, .inr ⟨g, cap, cur, hv, Nat.le_trans hB hg, r⟩⟩
theorem OwnE.grown {w w' : World} {B : Nat} {v : Value} {l : List En} {a : World} (h : OwnE w B v l) (hg : w.grownBy w' v.ownBlock) (ha : Below B a w) (hB : B ≤ a.heap.size) : Below B a w' :=
  Below.grown ha hg (Nat.le_trans hB ha.size) (fun g hv => (World.ownsRow.lt h g hv).1)
theorem new2 (w : World) (k : ByteArray) (v : Int) (t : TypeId) : (w.alloc (.cells #[.string k, .int .i64 v] t)).cell? ⟨w.heap.size, 0, none⟩ = some (.string k) ∧ (w.alloc (.cells #[.string k, .int .i64 v] t)).cell? ⟨w.heap.size, 1, none⟩ = some (.int .i64 v) := by
  have h := World.alloc_heap_new w (.cells #[.string k, .int .i64 v] t)
  exact ⟨by simp only [World.cell?, h]; rfl, by simp only [World.cell?, h]; rfl⟩
theorem append_E {w : World} {ops : Array Oper} {rest : List Oper} {o : Oper} {a : Act} {Q : Exit → Act → World → Prop} (hg : o.guard = none) (s x : Operand)
    (hop : o.op = Op.call { callee := Callee.builtin Builtin.append, args := #[s, x], argTypes := #[69, 69] }) {B : Nat} {v : Value} {l : List En} (e : En) (hs : a.eval s = v) (hown : OwnE w B v l)
    {g : Nat} (hx : a.eval x = .slice (some ⟨g, 0, none⟩) 1 1) (c : w.cell? ⟨g, 0, none⟩ = some (.string e.1) ∧ w.cell? ⟨g, 1, none⟩ = some (.int .i64 e.2)) (hl : (l.length + 1) * 64 ≤ 140737488355328) (hB : B ≤ w.heap.size)
    (hK : ∀ v' w', OwnE w' B v' (l ++ [e]) → w.grownBy w' v.ownBlock → wpList Tryd.prog ops Q rest (a.put o.dst v') w') : wpList Tryd.prog ops Q (o :: rest) a w := by
  obtain ⟨i0, hi, hz0, hz1, hz2⟩ := info_ofI infoEn
  refine wpList_append_own _ hg s x 69 hop B 72 i0 (env ⟨#[]⟩ 0) 2 24 Tryd.underlying69 hi hz0 hz1 hz2 rfl (by decide) v l.length (flatE l) hs hown ⟨g, 0, none⟩ 1 1 [.string e.1, .int .i64 e.2] hx rfl ?_ ?_ (by unfold maxLen; omega) (by omega) hB ?_
  · intro j u hj
    match j, hj with
    | 0, hj => simp at hj; subst hj; exact c.1
    | 1, hj => simp at hj; subst hj; exact c.2
    | j + 2, hj => simp at hj
  · intro u hu; simp at hu; rcases hu with rfl | rfl <;> rfl
  · intro v' w' ho hgr _
    refine hK v' w' ?_ hgr
    show w'.ownsRow B _ 2 v' (l ++ [e]).length (flatE (l ++ [e]))
    rw [flatE_snoc, List.length_append]
    exact ho

/-- what laid has behind the first k -/
def outK (m : List En) (e : En) : List En := if m.any (fun y => lt e.1 y.1) then ins m e else m
theorem ins_length (m : List En) (e : En) : (ins m e).length = m.length + 1 := by
  induction m with
  | nil => rfl
  | cons x m ih => simp only [ins]; split <;> simp [ih]
theorem outK_len (m : List En) (e : En) : (outK m e).length ≤ m.length + 1 := by
  unfold outK; split
  · rw [ins_length]; omega
  · omega

set_option maxHeartbeats 4000000 in
set_option maxRecDepth 8000 in
theorem laid_is {a : Option Addr} {c : Nat} {l : List En} {e : En} {w : World} (h : RowE w a l) (hl : (l.length + 1) * 64 ≤ 140737488355328) :
    Calls Tryd.prog 44 #[.slice a l.length c, env e.1 e.2] w fun r w' => ∃ v, r = .returned v ∧ OwnE w' w.heap.size v (ins l e) ∧ Below w.heap.size w w' := by
  obtain ⟨ek, ev⟩ := e
  obtain ⟨wa, hwa⟩ : ∃ wa, wa = w.alloc (.cells #[.string ek, .int .i64 ev] 72) := ⟨_, rfl⟩
  have hba : Below w.heap.size w wa := by rw [hwa]; exact Below.al (Below.refl _ _) _
  have ec : wa.cell? ⟨w.heap.size, 0, none⟩ = some (.string ek) ∧ wa.cell? ⟨w.heap.size, 1, none⟩ = some (.int .i64 ev) := by rw [hwa]; exact new2 w ek ev _
  have HE := hid ec
  have HR := hid (h.later hba)
  have HBA := hid hba
  obtain ⟨B, hB⟩ : ∃ B, B = w.heap.size := ⟨_, rfl⟩
  have hBs : Hid (B ≤ wa.heap.size) := hid (by rw [hB]; exact hba.size)
  rw [← hB] at HE HBA ⊢
  clear h hba ec
  go_enter Tryd.func44, Tryd.ntmps44
  go_wp2_with fail
  rw [← hwa, ← hB]
  clear hwa hB
  go_loopg [5, 6, 7] l.length (fun g s5 s6 s7 wr => ∃ i : Nat, i ≤ l.length ∧ g = l.length - i ∧ s7 = .int .i64 i ∧ s6 = .bool ((l.take i).any (fun y => lt ek y.1)) ∧ Hid (OwnE wr wa.heap.size s5 (outK (l.take i) (ek, ev))) ∧ Hid (Below wa.heap.size wa wr))
  case atStart => exact ⟨0, by omega, by omega, rfl, rfl, OwnE.nil _ _, Below.refl _ _⟩
  case round =>
    obtain ⟨i, hil, rfl, rfl, rfl, HO, HW⟩ := hrel
    obtain ⟨v5, hv5⟩ : ∃ v5, v5 = u5 := ⟨_, rfl⟩
    rw [← hv5] at HO ⊢
    clear hv5
    have b0 := cell_later HW.out HE.out.1
    have b1 := cell_later HW.out HE.out.2
    by_cases hlt : i < l.length
    · obtain ⟨b, off, rfl, a0, a1⟩ := HR.out i hlt
      obtain ⟨x, hx⟩ : ∃ x, x = nthE l i := ⟨_, rfl⟩
      rw [← hx] at a0 a1
      have d0 := cell_later HW.out a0
      have d1 := cell_later HW.out a1
      have HT : Hid (l.take (i + 1) = l.take i ++ [x]) := by show _ = _; rw [nthE_take hlt, hx]
      have hml : (l.take i).length = i := by rw [List.length_take]; omega
      obtain ⟨m, hm⟩ : ∃ m, m = l.take i := ⟨_, rfl⟩
      rw [← hm] at HT HO hml ⊢
      have HML := hid hml
      clear hx hm hml
      obtain ⟨xk, xv⟩ := x
      cases hd : m.any (fun y => lt ek y.1) with
      | true =>
        have HO' : Hid (OwnE wr wa.heap.size v5 (ins m (ek, ev))) := by have := HO.out; unfold outK at this; rw [if_pos hd] at this; exact this
        have HN : Hid (outK (m ++ [(xk, xv)]) (ek, ev) = ins m (ek, ev) ++ [(xk, xv)] ∧ (m ++ [(xk, xv)]).any (fun y => lt ek y.1) = true) := by
          have h1 : (m ++ [(xk, xv)]).any (fun y => lt ek y.1) = true := by rw [List.any_append, hd]; rfl
          exact ⟨by unfold outK; rw [if_pos h1, ins_snoc, if_pos hd], h1⟩
        have hil1 : (ins m (ek, ev)).length = i + 1 := by rw [ins_length, HML.out]
        have HL1 : Hid (((ins m (ek, ev)).length + 1) * 64 ≤ 140737488355328) := hid (by omega)
        clear hil1
        clear hd HO
        go_wp2_with fail
        go_quiet (fail)
        have HOq : Hid (OwnE (wr.drewN nq) wa.heap.size v5 (ins m (ek, ev))) := HO'.out.later (dN (Below.refl _ _) _)
        have HWq : Hid (Below wa.heap.size wa (wr.drewN nq)) := dN HW.out _
        go_wp2_with (at_builtin; refine append_E rfl _ _ rfl (xk, xv) rfl (HOq.out.later (Below.al (Below.refl _ _) _)) rfl (new2 _ _ _ _) HL1.out (by have := HWq.out.size; simp at this ⊢; omega) ?_; intro v6 w6 ho6 hg6; have ho6 := hid ho6; have hb6 := hid (OwnE.grown (HOq.out.later (Below.al (Below.refl _ _) (.cells #[.string xk, .int .i64 xv] 72))) hg6 (Below.al HWq.out _) (Nat.le_refl _)); clear hg6)
        go_roundg (l.length - (i + 1))
        case measure => omega
        case rel => exact ⟨i + 1, by omega, rfl, by go_num, by rw [HT.out, HN.out.2], by rw [HT.out, HN.out.1]; exact ho6.out, hb6⟩
      | false =>
        have HO' : Hid (OwnE wr wa.heap.size v5 m) := by have := HO.out; unfold outK at this; rw [if_neg (by rw [hd]; decide)] at this; exact this
        have hil1 : m.length = i := HML.out
        have HL1 : Hid ((m.length + 1) * 64 ≤ 140737488355328) := hid (by omega)
        have HL2 : Hid (((m ++ [(ek, ev)]).length + 1) * 64 ≤ 140737488355328) := by
          have h2 : (m ++ [(ek, ev)]).length = i + 1 := by simp [hil1]
          exact hid (by omega)
        clear hil1
        cases hx : lt ek xk with
        | false =>
          have q : Op.bytesLess ek.toList xk.toList = false := hx
          have HN : Hid (outK (m ++ [(xk, xv)]) (ek, ev) = m ++ [(xk, xv)] ∧ (m ++ [(xk, xv)]).any (fun y => lt ek y.1) = false) := by
            have h1 : (m ++ [(xk, xv)]).any (fun y => lt ek y.1) = false := by rw [List.any_append, hd]; simp [hx]
            exact ⟨by unfold outK; rw [if_neg (by rw [h1]; decide)], h1⟩
          clear hd hx HO
          go_wp2_with fail
          go_quiet (fail)
          have HOq : Hid (OwnE (wr.drewN nq) wa.heap.size v5 m) := HO'.out.later (dN (Below.refl _ _) _)
          have HWq : Hid (Below wa.heap.size wa (wr.drewN nq)) := dN HW.out _
          go_wp2_with (at_builtin; refine append_E rfl _ _ rfl (xk, xv) rfl (HOq.out.later (Below.al (Below.refl _ _) _)) rfl (new2 _ _ _ _) HL1.out (by have := HWq.out.size; simp at this ⊢; omega) ?_; intro v6 w6 ho6 hg6; have ho6 := hid ho6; have hb6 := hid (OwnE.grown (HOq.out.later (Below.al (Below.refl _ _) (.cells #[.string xk, .int .i64 xv] 72))) hg6 (Below.al HWq.out _) (Nat.le_refl _)); clear hg6)
          go_roundg (l.length - (i + 1))
          case measure => omega
          case rel => exact ⟨i + 1, by omega, rfl, by go_num, by rw [HT.out, HN.out.2], by rw [HT.out, HN.out.1]; exact ho6.out, hb6⟩
        | true =>
          have q : Op.bytesLess ek.toList xk.toList = true := hx
          have HN : Hid (outK (m ++ [(xk, xv)]) (ek, ev) = m ++ [(ek, ev)] ++ [(xk, xv)] ∧ (m ++ [(xk, xv)]).any (fun y => lt ek y.1) = true) := by
            have h1 : (m ++ [(xk, xv)]).any (fun y => lt ek y.1) = true := by rw [List.any_append, hd]; simp [hx]
            exact ⟨by unfold outK; rw [if_pos h1, ins_snoc, if_neg (by rw [hd]; decide), if_pos hx]; simp, h1⟩
          clear hd hx HO
          go_wp2_with fail
          go_quiet (fail)
          have HOq : Hid (OwnE (wr.drewN nq) wa.heap.size v5 m) := HO'.out.later (dN (Below.refl _ _) _)
          have HWq : Hid (Below wa.heap.size wa (wr.drewN nq)) := dN HW.out _
          have f0 := cell_later HWq.out HE.out.1
          have f1 := cell_later HWq.out HE.out.2
          go_wp2_with (first
            | (at_builtin; refine append_E rfl _ _ rfl (ek, ev) rfl (HOq.out.later (Below.al (Below.refl _ _) _)) rfl (new2 _ _ _ _) HL1.out (by have := HWq.out.size; simp at this ⊢; omega) ?_; intro v6 w6 ho6 hg6; have ho6 := hid ho6; have hb6 := hid (OwnE.grown (HOq.out.later (Below.al (Below.refl _ _) (.cells #[.string ek, .int .i64 ev] 72))) hg6 (Below.al HWq.out _) (Nat.le_refl _)); clear hg6 HOq; have g0 := cell_later hb6.out a0; have g1 := cell_later hb6.out a1)
            | (at_builtin; refine append_E rfl _ _ rfl (xk, xv) rfl (ho6.out.later (Below.al (Below.refl _ _) _)) rfl (new2 _ _ _ _) HL2.out (by have := hb6.out.size; simp at this ⊢; omega) ?_; intro v7 w7 ho7 hg7; have ho7 := hid ho7; have hb7 := hid (OwnE.grown (ho6.out.later (Below.al (Below.refl _ _) (.cells #[.string xk, .int .i64 xv] 72))) hg7 (Below.al hb6.out _) (Nat.le_refl _)); clear hg7))
          go_roundg (l.length - (i + 1))
          case measure => omega
          case rel => exact ⟨i + 1, by omega, rfl, by go_num, by rw [HT.out, HN.out.2], by rw [HT.out, HN.out.1]; exact ho7.out, hb7⟩
    · obtain rfl : i = l.length := by omega
      have ht : l.take l.length = l := List.take_of_length_le (Nat.le_refl _)
      rw [ht] at HO ⊢
      clear ht
      cases hd : l.any (fun y => lt ek y.1) with
      | true =>
        have HO' : Hid (OwnE wr wa.heap.size v5 (ins l (ek, ev))) := by have := HO.out; unfold outK at this; rw [if_pos hd] at this; exact this
        clear hd HO
        go_wp2_with fail
        go_ret
        exact ⟨v5, rfl, HO'.out.base hBs.out, HBA.out.trans (HW.out.mono hBs.out)⟩
      | false =>
        have HO' : Hid (OwnE wr wa.heap.size v5 l) := by have := HO.out; unfold outK at this; rw [if_neg (by rw [hd]; decide)] at this; exact this
        have HI : Hid (ins l (ek, ev) = l ++ [(ek, ev)]) := ins_none l (ek, ev) hd
        have HL1 : Hid ((l.length + 1) * 64 ≤ 140737488355328) := hid (by omega)
        clear hd HO
        go_wp2_with (at_builtin; refine append_E rfl _ _ rfl (ek, ev) rfl (HO'.out.later (Below.al (Below.refl _ _) _)) rfl (new2 _ _ _ _) HL1.out (by have := HW.out.size; simp at this ⊢; omega) ?_; intro v6 w6 ho6 hg6; have ho6 := hid ho6; have hb6 := hid (OwnE.grown (HO'.out.later (Below.al (Below.refl _ _) (.cells #[.string ek, .int .i64 ev] 72))) hg6 (Below.al HW.out _) (Nat.le_refl _)); clear hg6)
        go_ret
        exact ⟨v6, rfl, by rw [HI.out]; exact ho6.out.base hBs.out, HBA.out.trans (hb6.out.mono hBs.out)⟩

end Go.Proofs.YtdllhkjdckcgmaaDoor
