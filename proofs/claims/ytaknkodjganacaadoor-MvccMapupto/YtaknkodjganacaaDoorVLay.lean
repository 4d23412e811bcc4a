import Derived.Test.YtaknkodjganacaaDoorVSmall
/- lay, within, reads. -/
namespace Go.Proofs.YtaknkodjganacaaDoor.Vs
open Go.RowKit Go.Sort
set_option linter.unusedVariables false

section
variable {β : Type}
/-- one more, ahead of the first that is greater -/
def ins : List (ByteArray × β) → ByteArray × β → List (ByteArray × β)
  | [], e => [e]
  | x :: l, e => if lt e.1 x.1 then e :: x :: l else x :: ins l e
theorem ins_snoc (m : List (ByteArray × β)) (x e : ByteArray × β) : ins (m ++ [x]) e = if m.any (fun y => lt e.1 y.1) then ins m e ++ [x] else if lt e.1 x.1 then m ++ [e, x] else m ++ [x, e] := by
  induction m with
  | nil => simp only [List.nil_append, ins, List.any_nil]; split <;> simp
  | cons y m ih =>
    simp only [List.cons_append, ins, List.any_cons]
    by_cases h : lt e.1 y.1 = true
    · simp [h]
    · have hf : lt e.1 y.1 = false := Bool.eq_false_iff.2 h
      rw [hf, ih]
      simp only [Bool.false_or, Bool.false_eq_true, if_false]
      split
      · rfl
      · split <;> rfl
theorem ins_none (m : List (ByteArray × β)) (e : ByteArray × β) (h : m.any (fun y => lt e.1 y.1) = false) : ins m e = m ++ [e] := by
  induction m with
  | nil => rfl
  | cons y m ih =>
    simp only [List.any_cons, Bool.or_eq_false_iff] at h
    simp [ins, h.1, ih h.2]
theorem ins_len (m : List (ByteArray × β)) (e : ByteArray × β) : (ins m e).length = m.length + 1 := by
  induction m with
  | nil => rfl
  | cons x m ih => simp only [ins]; split <;> simp [ih]
theorem ins_set {l : List (ByteArray × β)} (hr : Rising l) (e : ByteArray × β) (h : ∀ y ∈ l, y.1 ≠ e.1) : ins l e = setX l e.1 e.2 := by
  induction l with
  | nil => rfl
  | cons y l ih =>
    have hy := h y (by simp)
    have hr' := List.pairwise_cons.1 hr
    simp only [ins, setX]
    rcases lt_tri y.1 e.1 with h1 | h1 | h1
    · exact absurd h1 hy
    · rw [if_pos h1, lt_asymm h1, if_neg (by decide), ih hr'.2 fun z hz => h z (by simp [hz])]
    · rw [if_pos h1, lt_asymm h1, if_neg (by decide), if_neg hy]
theorem any_del (m : List (ByteArray × β)) (k : ByteArray) : (delX m k).any (fun y => lt k y.1) = m.any (fun y => lt k y.1) := by
  induction m with
  | nil => rfl
  | cons y m ih =>
    unfold delX at ih ⊢
    rw [List.filter_cons]
    by_cases h : y.1 = k
    · simp only [h, decide_true, Bool.not_true, Bool.false_eq_true, if_false, List.any_cons]; rw [ih, lt_irrefl, Bool.false_or]
    · simp only [h, decide_false, Bool.not_false, if_true, List.any_cons]; rw [ih]
theorem del_snoc (m : List (ByteArray × β)) (x : ByteArray × β) (k : ByteArray) : delX (m ++ [x]) k = if x.1 = k then delX m k else delX m k ++ [x] := by
  unfold delX
  rw [List.filter_append]
  by_cases h : x.1 = k <;> simp [h]
end
/-- the write is laid on a map -/
def layX (m : Prs) (x : Wr) : Prs := if x.del then delX m x.key else ins (delX m x.key) (x.key, x.val)
theorem layX_set {m : Prs} (h : Rising m) (x : Wr) : layX m x = if x.del then delX m x.key else setX m x.key x.val := by
  unfold layX
  split
  · rfl
  · have hd := delX_rising h x.key
    rw [ins_set hd _ (fun y hy => ((delX_mem m x.key y).1 hy).2)]
    refine rising_ext (setX_rising hd _ _) (setX_rising h _ _) fun e => ?_
    rw [setX_mem hd, setX_mem h, delX_mem]
    constructor
    · rintro (h | ⟨⟨h, h2⟩, _⟩)
      · exact .inl h
      · exact .inr ⟨h, h2⟩
    · rintro (h | ⟨h, h2⟩)
      · exact .inl h
      · exact .inr ⟨⟨h, h2⟩, h2⟩
def doneB (m : Prs) (x : Wr) : Bool := x.del || m.any (fun y => lt x.key y.1)
/-- what lay has behind the first of them -/
def outL (m : Prs) (x : Wr) : Prs := if doneB m x then layX m x else delX m x.key
theorem done_snoc (m : Prs) (y : T2) (x : Wr) : doneB (m ++ [y]) x = (doneB m x || lt x.key y.1) := by simp [doneB, List.any_append, Bool.or_assoc]
theorem outL_done {m : Prs} {y : T2} {x : Wr} (h : doneB m x = true) : outL (m ++ [y]) x = if y.1 = x.key then outL m x else outL m x ++ [y] := by
  unfold outL
  rw [done_snoc, h, Bool.true_or, if_pos rfl, if_pos rfl]
  unfold layX
  cases hd : x.del with
  | true => rw [if_pos rfl, if_pos rfl, del_snoc]
  | false =>
    simp only [Bool.false_eq_true, if_false]
    rw [del_snoc]
    split
    · rfl
    · unfold doneB at h; rw [hd, Bool.false_or] at h
      rw [ins_snoc, if_pos (by rw [any_del]; exact h)]
theorem outL_here {m : Prs} {y : T2} {x : Wr} (h : doneB m x = false) (hl : lt x.key y.1 = true) : outL (m ++ [y]) x = outL m x ++ [(x.key, x.val)] ++ [y] := by
  unfold outL
  rw [done_snoc, h, hl, Bool.false_or, if_pos rfl, if_neg (by decide)]
  unfold layX doneB at *
  rw [Bool.or_eq_false_iff] at h
  rw [h.1, if_neg (by decide), del_snoc, if_neg (fun e => lt_ne hl e.symm), ins_snoc, if_neg (by rw [any_del, h.2]; decide), if_pos hl]
  simp
theorem outL_not {m : Prs} {y : T2} {x : Wr} (h : doneB m x = false) (hl : lt x.key y.1 = false) : outL (m ++ [y]) x = if y.1 = x.key then outL m x else outL m x ++ [y] := by
  unfold outL
  rw [done_snoc, h, hl, Bool.or_false]
  simp only [Bool.false_eq_true, if_false]
  rw [del_snoc]
theorem outL_end {m : Prs} {x : Wr} (h : doneB m x = false) : outL m x ++ [(x.key, x.val)] = layX m x := by
  unfold outL
  rw [h, if_neg (by decide)]
  unfold layX doneB at *
  rw [Bool.or_eq_false_iff] at h
  rw [h.1, if_neg (by decide), ins_none _ _ (by rw [any_del]; exact h.2)]
theorem outL_len (m : Prs) (x : Wr) : (outL m x).length ≤ m.length + 1 := by
  have h1 : (delX m x.key).length ≤ m.length := List.length_filter_le _ _
  unfold outL layX
  split
  · split
    · omega
    · rw [ins_len]; omega
  · omega
theorem layX_len (m : Prs) (x : Wr) : (layX m x).length ≤ m.length + 1 := by
  have h1 : (delX m x.key).length ≤ m.length := List.length_filter_le _ _
  unfold layX
  split
  · omega
  · rw [ins_len]; omega

set_option maxHeartbeats 4000000 in
set_option maxRecDepth 8000 in
theorem lay_is {a : Option Addr} {c : Nat} {l : Prs} {x : Wr} {w : World} (h : Row2 w a l) (hl : (l.length + 2) * 64 ≤ 140737488355328) :
    Calls Tryd.prog 22 #[.slice a l.length c, .agg #[.string x.key, .bool x.del, .string x.val]] w fun r w' => ∃ v, r = .returned v ∧ OwnP w' w.heap.size v (layX l x) ∧ Below w.heap.size w w' := by
  obtain ⟨xk, xd, xv⟩ := x
  obtain ⟨wa, hwa⟩ : ∃ wa, wa = w.alloc (.cells #[.string xk, .bool xd, .string xv] 38) := ⟨_, rfl⟩
  have hba : Below w.heap.size w wa := by rw [hwa]; exact Below.al (Below.refl _ _) _
  have kb : wa.heap[w.heap.size]? = some (.cells #[.string xk, .bool xd, .string xv] 38 (0, 0)) := by rw [hwa]; exact World.alloc_heap_new _ _
  have HE : Hid (wa.cell? ⟨w.heap.size, 0, none⟩ = some (.string xk) ∧ wa.cell? ⟨w.heap.size, 1, none⟩ = some (.bool xd) ∧ wa.cell? ⟨w.heap.size, 2, none⟩ = some (.string xv)) := ⟨cell_of_obj kb rfl, cell_of_obj kb rfl, cell_of_obj kb rfl⟩
  have HR := hid (h.later hba)
  have HBA := hid hba
  obtain ⟨B, hB⟩ : ∃ B, B = w.heap.size := ⟨_, rfl⟩
  have hBs : Hid (B ≤ wa.heap.size) := hid (by rw [hB]; exact hba.size)
  rw [← hB] at HE HBA ⊢
  have e1 := HE.out.2.1
  clear h hba kb
  go_enter Tryd.func22, Tryd.ntmps22
  go_wp2_with fail
  rw [← hwa, ← hB]
  clear hwa hB e1
  go_loopg [5, 6, 7] l.length (fun g s5 s6 s7 wr => ∃ i : Nat, i ≤ l.length ∧ g = l.length - i ∧ s7 = .int .i64 i ∧ s6 = .bool (doneB (l.take i) ⟨xk, xd, xv⟩) ∧ Hid (OwnP wr wa.heap.size s5 (outL (l.take i) ⟨xk, xd, xv⟩)) ∧ Hid (Below wa.heap.size wa wr))
  case atStart => exact ⟨0, by omega, by omega, rfl, by simp [doneB], by cases xd <;> exact OwnP.nil _ _, Below.refl _ _⟩
  case round =>
    obtain ⟨i, hil, rfl, rfl, rfl, HO, HW⟩ := hrel
    obtain ⟨v5, hv5⟩ : ∃ v5, v5 = u5 := ⟨_, rfl⟩
    rw [← hv5] at HO ⊢
    clear hv5
    have b0 := cell_later HW.out HE.out.1
    have b1 := cell_later HW.out HE.out.2.1
    have b2 := cell_later HW.out HE.out.2.2
    by_cases hlt : i < l.length
    · obtain ⟨b, off, rfl, a0, a1⟩ := HR.out i hlt
      obtain ⟨y, hy⟩ : ∃ y, y = nth2 l i := ⟨_, rfl⟩
      rw [← hy] at a0 a1
      have d0 := cell_later HW.out a0
      have d1 := cell_later HW.out a1
      have HT : Hid (l.take (i + 1) = l.take i ++ [y]) := by show _ = _; rw [nth2_take hlt, hy]
      have hml : (l.take i).length = i := by rw [List.length_take]; omega
      obtain ⟨m, hm⟩ : ∃ m, m = l.take i := ⟨_, rfl⟩
      rw [← hm] at HT HO hml ⊢
      have hol := outL_len m ⟨xk, xd, xv⟩
      have HL1 : Hid (((outL m ⟨xk, xd, xv⟩).length + 1) * 64 ≤ 140737488355328) := hid (Nat.le_trans (Nat.mul_le_mul_right 64 (show _ ≤ l.length + 2 by omega)) hl)
      have HML := hid hml
      clear hm hml hol
      obtain ⟨yk, yv⟩ := y
      have HA0 : Hid (wa.cell? ⟨b, off + i * 2, none⟩ = some (.string yk) ∧ wa.cell? ⟨b, off + i * 2 + 1, none⟩ = some (.string yv)) := ⟨a0, a1⟩
      clear hy a0 a1
      simp only at d0 d1
      cases hd : doneB m ⟨xk, xd, xv⟩ with
      | true =>
        have HN : Hid (doneB (m ++ [(yk, yv)]) ⟨xk, xd, xv⟩ = true) := by show _ = _; rw [done_snoc, hd]; rfl
        have HN2 := hid (outL_done (y := (yk, yv)) hd)
        clear hd
        go_wp2_with fail
        go_quiet (fail)
        obtain ⟨wq, hwq⟩ : ∃ wq, wq = wr.drewN nq := ⟨_, rfl⟩
        have qwq : Below wr.heap.size wr wq := by rw [hwq]; exact Below.drewN (Below.refl _ _) _
        rw [← hwq]
        clear hwq
        have b0a := cell_later qwq b0
        have b1a := cell_later qwq b1
        have b2a := cell_later qwq b2
        have d0a := cell_later qwq d0
        have d1a := cell_later qwq d1
        have HOa := hid (HO.out.later qwq)
        have HWa : Hid (Below wa.heap.size wa wq) := Below.on HW.out qwq
        clear b0 b1 b2 d0 d1
        by_cases hk : yk = xk
        · have q1 := toList_beq' (decide_eq_true hk)
          have HN3 : Hid (outL (m ++ [(yk, yv)]) ⟨xk, xd, xv⟩ = outL m ⟨xk, xd, xv⟩) := by show _ = _; rw [HN2.out, if_pos hk]
          clear hk
          go_wp2_with fail
          go_quiet (fail)
          obtain ⟨w8, hw8⟩ : ∃ w8, w8 = wq.drewN nq := ⟨_, rfl⟩
          have qw8 : Below wq.heap.size wq w8 := by rw [hw8]; exact Below.drewN (Below.refl _ _) _
          rw [← hw8]
          clear hw8
          have b0az := cell_later qw8 b0a
          have b1az := cell_later qw8 b1a
          have b2az := cell_later qw8 b2a
          have d0az := cell_later qw8 d0a
          have d1az := cell_later qw8 d1a
          have HOaz := hid (HOa.out.later qw8)
          have HWaz : Hid (Below wa.heap.size wa w8) := Below.on HWa.out qw8
          clear b0a b1a b2a d0a d1a
          go_wp2_with fail
          go_roundg (l.length - (i + 1))
          case measure => omega
          case rel => exact ⟨i + 1, by omega, rfl, by go_num, by rw [HT.out, HN.out], by rw [HT.out, HN3.out]; exact HOaz.out, HWaz⟩
        · have q1 := toList_beq' (decide_eq_false hk)
          have HN3 : Hid (outL (m ++ [(yk, yv)]) ⟨xk, xd, xv⟩ = outL m ⟨xk, xd, xv⟩ ++ [(yk, yv)]) := by show _ = _; rw [HN2.out, if_neg hk]
          clear hk
          go_wp2_with fail
          go_quiet (fail)
          obtain ⟨w8, hw8⟩ : ∃ w8, w8 = wq.drewN nq := ⟨_, rfl⟩
          have qw8 : Below wq.heap.size wq w8 := by rw [hw8]; exact Below.drewN (Below.refl _ _) _
          rw [← hw8]
          clear hw8
          have b0az := cell_later qw8 b0a
          have b1az := cell_later qw8 b1a
          have b2az := cell_later qw8 b2a
          have d0az := cell_later qw8 d0a
          have d1az := cell_later qw8 d1a
          have HOaz := hid (HOa.out.later qw8)
          have HWaz : Hid (Below wa.heap.size wa w8) := Below.on HWa.out qw8
          clear b0a b1a b2a d0a d1a
          go_wp2_with (at_builtin; refine append_P rfl _ _ rfl (yk, yv) rfl (HOaz.out.later (Below.al (Below.refl _ _) _)) rfl (new2P _ _ _ _) HL1.out (by have := HWaz.out.size; simp at this ⊢; omega) ?_; intro v9 w9 ho hg; have HO9 := hid ho; have HB9 : Hid (Below wa.heap.size wa w9) := OwnP.grown (HOaz.out.later (Below.al (Below.refl _ _) (.cells #[.string yk, .string yv] 61))) hg (Below.al HWaz.out _) (Nat.le_refl _); clear ho hg)
          go_roundg (l.length - (i + 1))
          case measure => omega
          case rel => exact ⟨i + 1, by omega, rfl, by go_num, by rw [HT.out, HN.out], by rw [HT.out, HN3.out]; exact HO9.out, HB9⟩
      | false =>
        have hol2 : doneB m ⟨xk, xd, xv⟩ = false := hd
        cases hx : lt xk yk with
        | false =>
          have q : Op.bytesLess xk.toList yk.toList = false := hx
          have HN : Hid (doneB (m ++ [(yk, yv)]) ⟨xk, xd, xv⟩ = false) := by show _ = _; rw [done_snoc, hd]; exact hx
          have HN2 := hid (outL_not (y := (yk, yv)) hd hx)
          clear hd hol2 hx
          go_wp2_with fail
          go_quiet (fail)
          obtain ⟨wq, hwq⟩ : ∃ wq, wq = wr.drewN nq := ⟨_, rfl⟩
          have qwq : Below wr.heap.size wr wq := by rw [hwq]; exact Below.drewN (Below.refl _ _) _
          rw [← hwq]
          clear hwq
          have b0a := cell_later qwq b0
          have b1a := cell_later qwq b1
          have b2a := cell_later qwq b2
          have d0a := cell_later qwq d0
          have d1a := cell_later qwq d1
          have HOa := hid (HO.out.later qwq)
          have HWa : Hid (Below wa.heap.size wa wq) := Below.on HW.out qwq
          clear b0 b1 b2 d0 d1
          go_wp2_with fail
          by_cases hk : yk = xk
          · have q1 := toList_beq' (decide_eq_true hk)
            have HN3 : Hid (outL (m ++ [(yk, yv)]) ⟨xk, xd, xv⟩ = outL m ⟨xk, xd, xv⟩) := by show _ = _; rw [HN2.out, if_pos hk]
            clear hk
            go_wp2_with fail
            go_quiet (fail)
            obtain ⟨w8, hw8⟩ : ∃ w8, w8 = wq.drewN nq := ⟨_, rfl⟩
            have qw8 : Below wq.heap.size wq w8 := by rw [hw8]; exact Below.drewN (Below.refl _ _) _
            rw [← hw8]
            clear hw8
            have b0az := cell_later qw8 b0a
            have b1az := cell_later qw8 b1a
            have b2az := cell_later qw8 b2a
            have d0az := cell_later qw8 d0a
            have d1az := cell_later qw8 d1a
            have HOaz := hid (HOa.out.later qw8)
            have HWaz : Hid (Below wa.heap.size wa w8) := Below.on HWa.out qw8
            clear b0a b1a b2a d0a d1a
            go_wp2_with fail
            go_roundg (l.length - (i + 1))
            case measure => omega
            case rel => exact ⟨i + 1, by omega, rfl, by go_num, by rw [HT.out, HN.out], by rw [HT.out, HN3.out]; exact HOaz.out, HWaz⟩
          · have q1 := toList_beq' (decide_eq_false hk)
            have HN3 : Hid (outL (m ++ [(yk, yv)]) ⟨xk, xd, xv⟩ = outL m ⟨xk, xd, xv⟩ ++ [(yk, yv)]) := by show _ = _; rw [HN2.out, if_neg hk]
            clear hk
            go_wp2_with fail
            go_quiet (fail)
            obtain ⟨w8, hw8⟩ : ∃ w8, w8 = wq.drewN nq := ⟨_, rfl⟩
            have qw8 : Below wq.heap.size wq w8 := by rw [hw8]; exact Below.drewN (Below.refl _ _) _
            rw [← hw8]
            clear hw8
            have b0az := cell_later qw8 b0a
            have b1az := cell_later qw8 b1a
            have b2az := cell_later qw8 b2a
            have d0az := cell_later qw8 d0a
            have d1az := cell_later qw8 d1a
            have HOaz := hid (HOa.out.later qw8)
            have HWaz : Hid (Below wa.heap.size wa w8) := Below.on HWa.out qw8
            clear b0a b1a b2a d0a d1a
            go_wp2_with (at_builtin; refine append_P rfl _ _ rfl (yk, yv) rfl (HOaz.out.later (Below.al (Below.refl _ _) _)) rfl (new2P _ _ _ _) HL1.out (by have := HWaz.out.size; simp at this ⊢; omega) ?_; intro v9 w9 ho hg; have HO9 := hid ho; have HB9 : Hid (Below wa.heap.size wa w9) := OwnP.grown (HOaz.out.later (Below.al (Below.refl _ _) (.cells #[.string yk, .string yv] 61))) hg (Below.al HWaz.out _) (Nat.le_refl _); clear ho hg)
            go_roundg (l.length - (i + 1))
            case measure => omega
            case rel => exact ⟨i + 1, by omega, rfl, by go_num, by rw [HT.out, HN.out], by rw [HT.out, HN3.out]; exact HO9.out, HB9⟩
        | true =>
          have q : Op.bytesLess xk.toList yk.toList = true := hx
          have HN : Hid (doneB (m ++ [(yk, yv)]) ⟨xk, xd, xv⟩ = true) := by show _ = _; rw [done_snoc, hd]; exact hx
          have HN3 : Hid (outL (m ++ [(yk, yv)]) ⟨xk, xd, xv⟩ = outL m ⟨xk, xd, xv⟩ ++ [(xk, xv)] ++ [(yk, yv)]) := outL_here hd hx
          have q1 := toList_beq' (decide_eq_false (fun e : yk = xk => lt_ne hx e.symm))
          have hol : (outL m ⟨xk, xd, xv⟩).length + 1 ≤ l.length + 1 := by
            have h1 : (outL m ⟨xk, xd, xv⟩).length ≤ m.length := by unfold outL; rw [hd, if_neg (by decide)]; exact List.length_filter_le _ _
            have := HML.out; omega
          have HL2 : Hid (((outL m ⟨xk, xd, xv⟩ ++ [(xk, xv)]).length + 1) * 64 ≤ 140737488355328) := hid (Nat.le_trans (Nat.mul_le_mul_right 64 (show _ ≤ l.length + 2 by rw [List.length_append, List.length_singleton]; omega)) hl)
          clear hd hol2 hx hol
          go_wp2_with fail
          go_quiet (fail)
          obtain ⟨wq, hwq⟩ : ∃ wq, wq = wr.drewN nq := ⟨_, rfl⟩
          have qwq : Below wr.heap.size wr wq := by rw [hwq]; exact Below.drewN (Below.refl _ _) _
          rw [← hwq]
          clear hwq
          have b0a := cell_later qwq b0
          have b1a := cell_later qwq b1
          have b2a := cell_later qwq b2
          have d0a := cell_later qwq d0
          have d1a := cell_later qwq d1
          have HOa := hid (HO.out.later qwq)
          have HWa : Hid (Below wa.heap.size wa wq) := Below.on HW.out qwq
          clear b0 b1 b2 d0 d1
          go_wp2_with (at_builtin; refine append_P rfl _ _ rfl (xk, xv) rfl (HOa.out.later (Below.al (Below.refl _ _) _)) rfl (new2P _ _ _ _) HL1.out (by have := HWa.out.size; simp at this ⊢; omega) ?_; intro v7 w7 ho hg; have HO7 := hid ho; have HB7 : Hid (Below wa.heap.size wa w7) := OwnP.grown (HOa.out.later (Below.al (Below.refl _ _) (.cells #[.string xk, .string xv] 61))) hg (Below.al HWa.out _) (Nat.le_refl _); clear ho hg)
          have b0c : w7.cell? ⟨B, 0, none⟩ = some (.string xk) := cell_later HB7.out HE.out.1
          have b2c : w7.cell? ⟨B, 2, none⟩ = some (.string xv) := cell_later HB7.out HE.out.2.2
          have d0c : w7.cell? ⟨b, off + i * 2, none⟩ = some (.string yk) := cell_later HB7.out HA0.out.1
          have d1c : w7.cell? ⟨b, off + i * 2 + 1, none⟩ = some (.string yv) := cell_later HB7.out HA0.out.2
          go_quiet (fail)
          obtain ⟨w8, hw8⟩ : ∃ w8, w8 = w7.drewN nq := ⟨_, rfl⟩
          have qw8 : Below w7.heap.size w7 w8 := by rw [hw8]; exact Below.drewN (Below.refl _ _) _
          rw [← hw8]
          clear hw8
          have b0cz := cell_later qw8 b0c
          have b2cz := cell_later qw8 b2c
          have d0cz := cell_later qw8 d0c
          have d1cz := cell_later qw8 d1c
          have HO7z := hid (HO7.out.later qw8)
          have HB7z : Hid (Below wa.heap.size wa w8) := Below.on HB7.out qw8
          clear b0c b2c d0c d1c
          go_wp2_with (at_builtin; refine append_P rfl _ _ rfl (yk, yv) rfl (HO7z.out.later (Below.al (Below.refl _ _) _)) rfl (new2P _ _ _ _) HL2.out (by have := HB7z.out.size; simp at this ⊢; omega) ?_; intro v9 w9 ho hg; have HO9 := hid ho; have HB9 : Hid (Below wa.heap.size wa w9) := OwnP.grown (HO7z.out.later (Below.al (Below.refl _ _) (.cells #[.string yk, .string yv] 61))) hg (Below.al HB7z.out _) (Nat.le_refl _); clear ho hg)
          go_roundg (l.length - (i + 1))
          case measure => omega
          case rel => exact ⟨i + 1, by omega, rfl, by go_num, by rw [HT.out, HN.out], by rw [HT.out, HN3.out]; exact HO9.out, HB9⟩
    · obtain rfl : i = l.length := by omega
      rw [List.take_of_length_le (Nat.le_refl _)] at HO ⊢
      cases hd : doneB l ⟨xk, xd, xv⟩ with
      | true =>
        have HE2 : Hid (outL l ⟨xk, xd, xv⟩ = layX l ⟨xk, xd, xv⟩) := by show _ = _; unfold outL; rw [if_pos hd]
        clear hd
        go_wp2_with fail
        go_ret
        refine ⟨_, rfl, ?_, HBA.out.trans (HW.out.mono hBs.out)⟩
        have := HO.out; rw [HE2.out] at this
        exact this.base hBs.out
      | false =>
        have HE2 := hid (outL_end hd)
        have hol : (outL l ⟨xk, xd, xv⟩).length ≤ l.length := by unfold outL; rw [hd, if_neg (by decide)]; exact List.length_filter_le _ _
        have HL1 : Hid (((outL l ⟨xk, xd, xv⟩).length + 1) * 64 ≤ 140737488355328) := hid (Nat.le_trans (Nat.mul_le_mul_right 64 (show _ ≤ l.length + 2 by omega)) hl)
        clear hd hol
        go_wp2_with (at_builtin; refine append_P rfl _ _ rfl (xk, xv) rfl (HO.out.later (Below.al (Below.refl _ _) _)) rfl (new2P _ _ _ _) HL1.out (by have := HW.out.size; simp at this ⊢; omega) ?_; intro v7 w7 ho hg; have HO7 := hid ho; have HB7 : Hid (Below wa.heap.size wa w7) := OwnP.grown (HO.out.later (Below.al (Below.refl _ _) (.cells #[.string xk, .string xv] 61))) hg (Below.al HW.out _) (Nat.le_refl _); clear ho hg)
        go_ret
        refine ⟨_, rfl, ?_, HBA.out.trans (HB7.out.mono hBs.out)⟩
        have := HO7.out; rw [HE2.out] at this
        exact this.base hBs.out
end Go.Proofs.YtaknkodjganacaaDoor.Vs
