import Derived.Test.YtdllhkjdckcgmaaDoorIEnt
import Derived.Test.YtdllhkjdckcgmaaDoorIIndex
namespace Go.Proofs.YtdllhkjdckcgmaaDoor
open Go.RowKit Go.Sort
set_option linter.unusedVariables false

theorem entriesK_len (log : List Ch) (lo hi : ByteArray) (cs : List Ch) : (entriesK log lo hi cs).length ≤ cs.length := by
  induction cs using snoc_ind with
  | nil => simp [entriesK]
  | snoc cs c ih =>
    rw [entriesK_snoc, List.length_append]
    simp only [List.length_cons, List.length_nil]
    split
    · split
      · omega
      · split
        · rename_i v _ _ _
          have := setX_len (entriesK log lo hi cs) c.key v; omega
        · omega
    · omega

set_option maxHeartbeats 4000000 in
set_option maxRecDepth 8000 in
theorem refentries_is {w : World} {p : Nat} {v : Value} {log : List Ch} (h : Ri w p v log) (lo hi : ByteArray) :
    Calls Tryd.prog 31 #[.pointer (some ⟨p, 0, none⟩), .agg #[.string lo, .string hi]] w fun e w' => ∃ v', e = .returned v' ∧ OwnE w' w.heap.size v' (rangeX (ixL log) lo hi) ∧ Below w.heap.size w w' := by
  obtain ⟨wa, hwa⟩ : ∃ wa, wa = w.alloc (.cells #[.string lo, .string hi] 39) := ⟨_, rfl⟩
  have hba : Below w.heap.size w wa := by rw [hwa]; exact Below.al (Below.refl _ _) _
  have hcs : wa.cell? ⟨w.heap.size, 0, none⟩ = some (.string lo) ∧ wa.cell? ⟨w.heap.size, 1, none⟩ = some (.string hi) := by
    have hh := World.alloc_heap_new w (.cells #[.string lo, .string hi] 39)
    rw [hwa]; exact ⟨by simp only [World.cell?, hh]; rfl, by simp only [World.cell?, hh]; rfl⟩
  have hlen := h.len
  have ha := h.later hba
  obtain ⟨a, c, rfl, hrow⟩ := ha.row
  have HRi := hid ha
  have HRow := hid hrow
  have HC := hid hcs
  have HBA := hid hba
  have HFin : Hid (entriesK log lo hi log = rangeX (ixL log) lo hi) := entries_is log lo hi
  obtain ⟨B, hB⟩ : ∃ B, B = w.heap.size := ⟨_, rfl⟩
  have hBs : Hid (B ≤ wa.heap.size) := hid (by rw [hB]; exact hba.size)
  have c0a := ha.c0
  rw [← hB] at HC HBA ⊢
  clear h ha hrow hcs hba
  go_enter Tryd.func31, Tryd.ntmps31
  go_wp2_with fail
  rw [← hwa, ← hB]
  clear hwa hB
  go_loopg [5, 6] log.length (fun g s5 s6 wr => ∃ i : Nat, i ≤ log.length ∧ g = log.length - i ∧ s6 = .int .i64 i ∧ Hid (OwnE wr wa.heap.size s5 (entriesK log lo hi (log.take i))) ∧ Hid (Below wa.heap.size wa wr))
  case atStart => exact ⟨0, by omega, by omega, rfl, OwnE.nil _ _, Below.refl _ _⟩
  case round =>
    obtain ⟨i, hil, rfl, rfl, HO, HW⟩ := hrel
    have c0 := cell_later HW.out c0a
    by_cases hlt : i < log.length
    · obtain ⟨b, off, rfl, a0, a1, a2⟩ := HRow.out i hlt
      have d0 := cell_later HW.out a0
      obtain ⟨x, hx⟩ : ∃ x, x = nthH log i := ⟨_, rfl⟩
      have HT : Hid (log.take (i + 1) = log.take i ++ [x]) := by show _ = _; rw [nthH_take hlt, hx]
      rw [← hx] at d0
      clear hx a0 a1 a2
      have hml : (entriesK log lo hi (log.take i)).length ≤ i := Nat.le_trans (entriesK_len _ _ _ _) (List.length_take_le i log)
      have HEQ := hid (entriesK_snoc log lo hi (log.take i) x)
      have HMR := hid (entriesK_is log lo hi (log.take i)).1
      obtain ⟨m, hm⟩ : ∃ m, m = entriesK log lo hi (log.take i) := ⟨_, rfl⟩
      rw [← hm] at HO hml HEQ HMR
      rw [← HT.out] at HEQ
      clear hm
      obtain ⟨ea, ec, hv5, hre⟩ := rowE_of_owns HO.out
      subst hv5
      have HRE := hid hre
      clear hre
      have GE : Hid (Calls Tryd.prog 20 #[.pointer (some ⟨p, 0, none⟩), .string x.key] wr fun e w' => e = .returned (gotV (getL log x.key)) ∧ w' = wr) := refget_is (HRi.out.later HW.out) x.key
      obtain ⟨kn, hkn⟩ : ∃ kn, m.any (fun e => decide (e.1 = x.key)) = kn := ⟨_, rfl⟩
      have HS : Hid (Calls Tryd.prog 42 #[.slice ea m.length ec, .string x.key] wr fun e w' => e = .returned (.bool kn) ∧ w' = wr) := has_is hkn HRE.out (by omega)
      rw [hkn] at HEQ
      have s0 := cell_later HW.out HC.out.1
      have s1 := cell_later HW.out HC.out.2
      cases hg : getL log x.key with
      | none =>
        rw [hg] at GE HEQ
        have hgv : gotV none = .tuple #[.int .i64 0, .bool false] := rfl
        rw [hgv] at GE
        have HN : Hid (OwnE wr wa.heap.size (.slice ea m.length ec) (entriesK log lo hi (log.take (i + 1)))) := by have := HEQ.out; show OwnE _ _ _ _; rw [this]; exact HO.out
        clear hg hgv HEQ hkn
        go_wp2_with (first
          | (go_at_call 20; refine GE.out.mono ?_; rintro e w4 ⟨rfl, rfl⟩)
          | (go_at_call 42; refine HS.out.mono ?_; rintro e w4 ⟨rfl, rfl⟩))
        go_roundg (log.length - (i + 1))
        case measure => omega
        case rel => exact ⟨i + 1, by omega, rfl, by go_num, HN, HW⟩
      | some u =>
        rw [hg] at GE HEQ
        have hgv : gotV (some u) = .tuple #[.int .i64 u, .bool true] := rfl
        rw [hgv] at GE
        cases kn with
        | true =>
          have HN : Hid (OwnE wr wa.heap.size (.slice ea m.length ec) (entriesK log lo hi (log.take (i + 1)))) := by have := HEQ.out; show OwnE _ _ _ _; rw [this]; exact HO.out
          clear hg hgv HEQ hkn
          go_wp2_with (first
            | (go_at_call 20; refine GE.out.mono ?_; rintro e w4 ⟨rfl, rfl⟩)
            | (go_at_call 42; refine HS.out.mono ?_; rintro e w4 ⟨rfl, rfl⟩))
          go_roundg (log.length - (i + 1))
          case measure => omega
          case rel => exact ⟨i + 1, by omega, rfl, by go_num, HN, HW⟩
        | false =>
          cases hin : inS lo hi x.key with
          | false =>
            have IN := hid (in_is hin wr)
            have HN : Hid (OwnE wr wa.heap.size (.slice ea m.length ec) (entriesK log lo hi (log.take (i + 1)))) := by have := HEQ.out; rw [hin] at this; show OwnE _ _ _ _; rw [this]; exact HO.out
            clear hg hgv HEQ hkn hin
            go_wp2_with (first
              | (go_at_call 20; refine GE.out.mono ?_; rintro e w4 ⟨rfl, rfl⟩)
              | (go_at_call 42; refine HS.out.mono ?_; rintro e w4 ⟨rfl, rfl⟩)
              | (go_at_call 43; refine IN.out.mono ?_; rintro e w5 ⟨rfl, hb5⟩))
            go_roundg (log.length - (i + 1))
            case measure => omega
            case rel => exact ⟨i + 1, by omega, rfl, by go_num, HN.out.later hb5, Below.on HW.out hb5⟩
          | true =>
            have IN := hid (in_is hin wr)
            have HRm : Hid (Rising m → m.any (fun e => decide (e.1 = x.key)) = false → ins m (x.key, u) = setX m x.key u) := fun hr ha => ins_set hr (x.key, u) ha
            have HNE : Hid (entriesK log lo hi (log.take (i + 1)) = ins m (x.key, u)) := by
              have := HEQ.out
              rw [hin] at this
              show _ = _
              rw [this, HRm.out HMR.out hkn]; rfl
            have LA : Hid (∀ w5, Below wr.heap.size wr w5 → Calls Tryd.prog 44 #[.slice ea m.length ec, .agg #[.string x.key, .int .i64 u]] w5 fun r w' => ∃ v, r = .returned v ∧ OwnE w' wa.heap.size v (ins m (x.key, u)) ∧ Below w5.heap.size w5 w') := fun w5 hb =>
              (laid_is (e := (x.key, u)) (HRE.out.later hb) (by omega)).mono fun r w' ⟨v, hr, ho, hb'⟩ => ⟨v, hr, ho.base (Nat.le_trans HW.out.size hb.size), hb'⟩
            clear hg hgv HEQ hkn hin HRm HMR
            go_wp2_with (first
              | (go_at_call 20; refine GE.out.mono ?_; rintro e w4 ⟨rfl, rfl⟩)
              | (go_at_call 42; refine HS.out.mono ?_; rintro e w4 ⟨rfl, rfl⟩)
              | (go_at_call 43; refine IN.out.mono ?_; rintro e w5 ⟨rfl, hb5⟩)
              | (go_at_call 44; refine (LA.out _ hb5).mono ?_; rintro e w6 ⟨v6, rfl, ho6, hb6⟩))
            go_roundg (log.length - (i + 1))
            case measure => omega
            case rel => exact ⟨i + 1, by omega, rfl, by go_num, by rw [HNE.out]; exact ho6, Below.on (Below.on HW.out hb5) hb6⟩
    · obtain rfl : i = log.length := by omega
      have HO' : Hid (OwnE wr wa.heap.size u5 (rangeX (ixL log) lo hi)) := by
        have := HO.out
        rw [List.take_of_length_le (Nat.le_refl _), HFin.out] at this
        exact this
      obtain ⟨v5, hv5⟩ : ∃ v5, v5 = u5 := ⟨_, rfl⟩
      rw [← hv5] at HO' ⊢
      clear hv5 HO hlt
      go_wp2_with fail
      go_ret
      exact ⟨v5, rfl, HO'.out.base hBs.out, HBA.out.trans (HW.out.mono hBs.out)⟩

/-- the document's row of entries, read -/
theorem refent_is {w : World} {p : Nat} {v : Value} {log : List Ch} (h : Ri w p v log) (lo hi : ByteArray) {E : List En} (hE : rangeX (ixL log) lo hi = E) :
    Calls Tryd.prog 31 #[.pointer (some ⟨p, 0, none⟩), .agg #[.string lo, .string hi]] w fun e w' => ∃ a c, e = .returned (.slice a E.length c) ∧ RowE w' a E ∧ Below w.heap.size w w' :=
  (refentries_is h lo hi).mono fun e w' ⟨v', he, ho, hb⟩ => by
    rw [hE] at ho
    obtain ⟨a, c, hv, hr⟩ := rowE_of_owns ho
    exact ⟨a, c, by rw [he, hv], hr, hb⟩
theorem refnew_is (w : World) : Calls Tryd.prog 17 #[] w fun e w' => e = .returned (.pointer (some ⟨w.heap.size, 0, none⟩)) ∧ Ri w' w.heap.size (.slice none 0 0) [] ∧ Below w.heap.size w w' := by
  go_enter Tryd.func17, Tryd.ntmps17
  go_wp2_with fail
  go_ret
  have b := Boxed.new w 59 (.slice none 0 0)
  exact ⟨rfl, ⟨b, World.ownsRow_nil _ _ _ _, by simp [Value.ownBlock], by simp⟩, Below.al (Below.refl _ _) _⟩
theorem ixL_one (log : List Ch) (k : ByteArray) (v : Int) : ixL (log ++ [⟨k, v, false⟩]) = setX (ixL log) k v := by rw [ixL_snoc]; rfl
theorem ixL_gone (log : List Ch) (k : ByteArray) : ixL (log ++ [⟨k, 0, true⟩]) = delX (ixL log) k := by rw [ixL_snoc]; rfl
theorem new3 (w : World) (k : ByteArray) (v : Int) (g : Bool) (t : TypeId) : (w.alloc (.cells #[.string k, .int .i64 v, .bool g] t)).cell? ⟨w.heap.size, 0, none⟩ = some (.string k) ∧ (w.alloc (.cells #[.string k, .int .i64 v, .bool g] t)).cell? ⟨w.heap.size, 1, none⟩ = some (.int .i64 v) ∧ (w.alloc (.cells #[.string k, .int .i64 v, .bool g] t)).cell? ⟨w.heap.size, 2, none⟩ = some (.bool g) := by
  have h := World.alloc_heap_new w (.cells #[.string k, .int .i64 v, .bool g] t)
  exact ⟨by simp only [World.cell?, h]; rfl, by simp only [World.cell?, h]; rfl, by simp only [World.cell?, h]; rfl⟩
theorem append_H {w : World} {ops : Array Oper} {rest : List Oper} {o : Oper} {a : Act} {Q : Exit → Act → World → Prop} (hg : o.guard = none) (s x : Operand)
    (hop : o.op = Op.call { callee := Callee.builtin Builtin.append, args := #[s, x], argTypes := #[57, 57] }) {v : Value} {l : List Ch} (e : Ch) (hs : a.eval s = v) (hown : w.ownsRow 0 61 3 v l.length (flatH l))
    {g : Nat} (hx : a.eval x = .slice (some ⟨g, 0, none⟩) 1 1) (c : w.cell? ⟨g, 0, none⟩ = some (.string e.key) ∧ w.cell? ⟨g, 1, none⟩ = some (.int .i64 e.v) ∧ w.cell? ⟨g, 2, none⟩ = some (.bool e.gone)) (hl : (l.length + 1) * 64 ≤ 140737488355328)
    (hK : ∀ g' cap' w', w'.ownsRow 0 61 3 (.slice (some ⟨g', 0, none⟩) (l.length + 1) cap') (l ++ [e]).length (flatH (l ++ [e])) → w.grownBy w' v.ownBlock → (v.ownBlock = some g' ∨ g' = w.heap.size) → wpList Tryd.prog ops Q rest (a.put o.dst (.slice (some ⟨g', 0, none⟩) (l.length + 1) cap')) w') : wpList Tryd.prog ops Q (o :: rest) a w := by
  obtain ⟨i0, hi, hz0, hz1, hz2⟩ := info_ofI infoCh
  refine wpList_append_lies w hg s x 57 hop 0 61 i0 (.agg #[.string ⟨#[]⟩, .int .i64 0, .bool false]) 3 32 Tryd.underlying57 hi hz0 hz1 hz2 rfl (by decide) v l.length (flatH l) hs hown ⟨g, 0, none⟩ 1 1 [.string e.key, .int .i64 e.v, .bool e.gone] hx rfl ?_ ?_ (by decide) (by unfold maxLen; omega) (by omega) (Nat.zero_le _) w.heap.size rfl ?_
  · intro j u hj
    match j, hj with
    | 0, hj => simp at hj; subst hj; exact c.1
    | 1, hj => simp at hj; subst hj; exact c.2.1
    | 2, hj => simp at hj; subst hj; exact c.2.2
    | j + 3, hj => simp at hj
  · intro u hu; simp at hu; rcases hu with rfl | rfl | rfl <;> rfl
  · intro g' cap' w' ho hgr hgg _
    refine hK g' cap' w' ?_ hgr hgg
    rw [flatH_snoc, List.length_append]
    exact ho
/-- behind the append and the store of it -/
theorem ref_put {w w' : World} {p : Nat} {v : Value} {log : List Ch} {e : Ch} {g cap : Nat} {tmp : Obj} (h : Ri w p v log) (hl : (log.length + 2) * 64 ≤ 140737488355328)
    (ho : w'.ownsRow 0 61 3 (.slice (some ⟨g, 0, none⟩) (log.length + 1) cap) (log ++ [e]).length (flatH (log ++ [e]))) (hg : (w.alloc tmp).grownBy w' v.ownBlock) (hgg : v.ownBlock = some g ∨ g = (w.alloc tmp).heap.size) :
    w'.cell? ⟨p, 0, none⟩ = some v ∧ w'.frozen? ⟨p, 0, none⟩ = false ∧ Ri (w'.setCell ⟨p, 0, none⟩ (.slice (some ⟨g, 0, none⟩) (log.length + 1) cap)) p (.slice (some ⟨g, 0, none⟩) (log.length + 1) cap) (log ++ [e]) ∧
      Onl (Ri.has p v) w (w'.setCell ⟨p, 0, none⟩ (.slice (some ⟨g, 0, none⟩) (log.length + 1) cap)) ∧ (v.ownBlock = some g ∨ w.heap.size ≤ g) := by
  have hp := h.lt
  have hpb : w'.heap[p]? = w.heap[p]? := (hg.block p (by simp; omega) (fun e => h.np e.symm)).trans (Below.heap_alloc w tmp p hp)
  have hc : w'.cell? ⟨p, 0, none⟩ = some v := (World.cell?_of_block (a := ⟨p, 0, none⟩) hpb).trans h.c0
  have hlo : Loose w' p := fun o => (World.frozen?_of_block (a := ⟨p, o, none⟩) hpb).trans (h.loose o)
  have hgp : g ≠ p := by
    rcases hgg with e | e
    · intro e'; exact h.np (by rw [e, e'])
    · intro e'; rw [e] at e'; simp at e'; omega
  have hbx : Boxed w' p 59 v := hpb.trans h.box
  refine ⟨hc, hlo 0, ⟨hbx.set _, ?_, fun e' => hgp (by simpa [Value.ownBlock] using e'), by simpa using hl⟩, ?_, ?_⟩
  · refine ho.kept (grownBy_setCell' w' p _) (.inr fun e' => hgp ?_)
    simpa [Value.ownBlock] using e'
  · refine Onl.set ?_ (.inl rfl) 0 _
    exact (Onl.al (Onl.refl _ _) tmp).trans ((grown_onl hg).mono fun k hk => .inr hk)
  · rcases hgg with e | e
    · exact .inl e
    · exact .inr (by rw [e]; simp)

set_option maxHeartbeats 2000000 in
theorem refset_is {w : World} {p : Nat} {v : Value} {log : List Ch} (h : Ri w p v log) (key : ByteArray) (u : Int) (hl : (log.length + 2) * 64 ≤ 140737488355328) :
    Calls Tryd.prog 6 #[.pointer (some ⟨p, 0, none⟩), .string key, .int .i64 u] w fun e w' => ∃ v', e = .returned (.bool (getL log key).isNone) ∧ Ri w' p v' (log ++ [⟨key, u, false⟩]) ∧ Onl (Ri.has p v) w w' ∧ (∀ g, v'.ownBlock = some g → v.ownBlock = some g ∨ w.heap.size ≤ g) := by
  have GE := hid (refget_is h key)
  have c0 := h.c0
  have H := hid h
  obtain ⟨a, b, hv, hb⟩ : ∃ a b, gotV (getL log key) = .tuple #[.int .i64 a, .bool b] ∧ (getL log key).isSome = b := ⟨_, _, rfl, rfl⟩
  have hn : (getL log key).isNone = !b := by rw [← hb]; cases getL log key <;> rfl
  rw [hv] at GE
  rw [hn]
  have HL := hid hl
  clear h hv hb hn hl
  go_enter Tryd.func6, Tryd.ntmps6
  go_wp2_with (first
    | (go_at_call 20; refine GE.out.mono ?_; rintro e w1 ⟨rfl, rfl⟩)
    | (at_builtin; refine append_H rfl _ _ rfl ⟨key, u, false⟩ rfl (H.out.own.alloc _) rfl (new3 _ _ _ _ _) (by have := HL.out; omega) ?_; intro g' cap' w2 ho2 hg2 hgg2; obtain ⟨x0, x1, x2, x3, x4⟩ := ref_put H.out HL.out ho2 hg2 hgg2; have x2 := hid x2; have x3 := hid x3; have x4 := hid x4; clear ho2 hg2 hgg2))
  go_ret
  exact ⟨_, rfl, x2.out, x3.out, fun g hg => by have e : g' = g := (by simpa [Value.ownBlock] using hg); rw [← e]; exact x4.out⟩
set_option maxHeartbeats 2000000 in
theorem refdel_is {w : World} {p : Nat} {v : Value} {log : List Ch} (h : Ri w p v log) (key : ByteArray) (hl : (log.length + 2) * 64 ≤ 140737488355328) :
    Calls Tryd.prog 23 #[.pointer (some ⟨p, 0, none⟩), .string key] w fun e w' => ∃ v', e = .returned (.bool (getL log key).isSome) ∧ Ri w' p v' (log ++ [⟨key, 0, true⟩]) ∧ Onl (Ri.has p v) w w' ∧ (∀ g, v'.ownBlock = some g → v.ownBlock = some g ∨ w.heap.size ≤ g) := by
  have GE := hid (refget_is h key)
  have c0 := h.c0
  have H := hid h
  obtain ⟨a, b, hv, hb⟩ : ∃ a b, gotV (getL log key) = .tuple #[.int .i64 a, .bool b] ∧ (getL log key).isSome = b := ⟨_, _, rfl, rfl⟩
  rw [hv] at GE
  rw [hb]
  have HL := hid hl
  clear h hv hb hl
  go_enter Tryd.func23, Tryd.ntmps23
  go_wp2_with (first
    | (go_at_call 20; refine GE.out.mono ?_; rintro e w1 ⟨rfl, rfl⟩)
    | (at_builtin; refine append_H rfl _ _ rfl ⟨key, 0, true⟩ rfl (H.out.own.alloc _) rfl (new3 _ _ _ _ _) (by have := HL.out; omega) ?_; intro g' cap' w2 ho2 hg2 hgg2; obtain ⟨x0, x1, x2, x3, x4⟩ := ref_put H.out HL.out ho2 hg2 hgg2; have x2 := hid x2; have x3 := hid x3; have x4 := hid x4; clear ho2 hg2 hgg2))
  go_ret
  exact ⟨_, rfl, x2.out, x3.out, fun g hg => by have e : g' = g := (by simpa [Value.ownBlock] using hg); rw [← e]; exact x4.out⟩

end Go.Proofs.YtdllhkjdckcgmaaDoor
