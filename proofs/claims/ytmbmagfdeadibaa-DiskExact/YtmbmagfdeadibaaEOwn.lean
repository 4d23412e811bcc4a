import Derived.Test.YtmbmagfdeadibaaDFace
import Derived.Lib.AppendStr
import Derived.Laws.IdiomCopy
import Derived.Laws.MakeOwn
/- Rows of bytes whose block may be longer than the slice may grow (behind a three-index slice). -/
namespace Go.Proofs.Ytmbmagfdeadibaa
open Go.RowKit Go.Sort Go.Lib
set_option linter.unusedVariables false

def BRow (w : World) (v : Value) (l : List Nat) : Prop :=
  (v = .slice none 0 0 ∧ l = []) ∨ ∃ g cap cur, v = .slice (some ⟨g, 0, none⟩) l.length cap ∧ w.heap[g]? = some (.cells cur 5 (0, 0)) ∧ l.length ≤ cap ∧ cap ≤ maxLen ∧ cap ≤ cur.size ∧ cur.toList.take l.length = u8s l
theorem BRow.nil (w : World) : BRow w (.slice none 0 0) [] := .inl ⟨rfl, rfl⟩
theorem BRow.slice {w : World} {v : Value} {l : List Nat} (h : BRow w v l) : ∃ a c, v = .slice a l.length c ∧ l.length ≤ c := by
  rcases h with ⟨rfl, rfl⟩ | ⟨g, cap, cur, rfl, _, h1, _⟩
  · exact ⟨none, 0, rfl, Nat.le_refl _⟩
  · exact ⟨_, cap, rfl, h1⟩
theorem BRow.lt {w : World} {v : Value} {l : List Nat} (h : BRow w v l) : ∀ k, v.ownBlock = some k → k < w.heap.size := by
  intro k hk
  rcases h with ⟨rfl, rfl⟩ | ⟨g, cap, cur, rfl, hg, _⟩
  · simp [Value.ownBlock] at hk
  · simp [Value.ownBlock] at hk
    subst hk
    exact (Array.getElem?_eq_some_iff.1 hg).1
theorem BRow.keep {w w' : World} {v : Value} {l : List Nat} (h : BRow w v l) (hb : ∀ g, v.ownBlock = some g → w'.heap[g]? = w.heap[g]?) : BRow w' v l := by
  rcases h with h | ⟨g, cap, cur, rfl, hg, r⟩
  · exact .inl h
  · exact .inr ⟨g, cap, cur, rfl, by rw [hb g rfl]; exact hg, r⟩
theorem BRow.onl {w w' : World} {F : Nat → Prop} {v : Value} {l : List Nat} (h : BRow w v l) (ho : Onl F w w') (hF : ∀ g, v.ownBlock = some g → ¬ F g) : BRow w' v l :=
  h.keep fun g hg => ho.block g (h.lt g hg) (hF g hg)
theorem BRow.later {w w' : World} {v : Value} {l : List Nat} (h : BRow w v l) (hb : Below w.heap.size w w') : BRow w' v l := h.keep fun g hg => hb.block g (h.lt g hg)
theorem BRow.cell {w : World} {g n c : Nat} {l : List Nat} (h : BRow w (.slice (some ⟨g, 0, none⟩) n c) l) (i : Nat) (hi : i < l.length) : w.cell? ⟨g, i, none⟩ = some (.int .u8 ((l.getD i 0 : Nat) : Int)) := by
  rcases h with ⟨h, _⟩ | ⟨g', cap, cur, e, hg, h1, h2, h3, h4⟩
  · simp at h
  · injection e with e1 e2 e3
    injection e1 with e1
    injection e1 with e1
    subst e1
    rw [cell_of_row w g i cur _ (0, 0) hg]
    have : cur.toList[i]? = some (.int .u8 ((l.getD i 0 : Nat) : Int)) := by
      have h5 : (cur.toList.take l.length)[i]? = cur.toList[i]? := by rw [List.getElem?_take, if_pos hi]
      rw [← h5, h4]
      simp [u8s, hi]
    simpa using this
/-- as a text -/
theorem BRow.convert {w : World} {v : Value} {l : List Nat} (h : BRow w v l) : (convert 53 9 v).run Try.prog w = .ok (.string (ofNats l)) w := by
  have h' := h
  rcases h' with ⟨rfl, rfl⟩ | ⟨g, cap, cur, rfl, _⟩
  · exact run_convert_bytes_nil w 53 5 Try.underlying53 Try.underlying5 0 0 9 Try.underlying9
  · have hcv := run_convert_bytes_arg (P := Try.prog) w 53 5 Try.underlying53 Try.underlying5 g 0 l.length cap (l.map Int.ofNat) (by rw [List.length_map]) (fun i hi => by
        have hc := h.cell i (by omega)
        rw [Nat.zero_add, hc]
        simp [List.getD, hi]) 9 Try.underlying9
    rw [strOfNums_nats] at hcv
    exact hcv
/-- the first n bytes, with no room behind them -/
theorem BRow.first {w : World} {a : Option Addr} {m c n : Nat} {l : List Nat} (h : BRow w (.slice a m c) l) (hn : n ≤ l.length) : n ≤ c ∧ BRow w (.slice a n n) (l.take n) := by
  rcases h with ⟨e, rfl⟩ | ⟨g, cap, cur, e, hg, h1, h2, h3, h4⟩
  · injection e with e1 e2 e3
    obtain rfl : n = 0 := by simpa using hn
    exact ⟨by omega, .inl ⟨by rw [e1], by simp⟩⟩
  · injection e with e1 e2 e3
    subst e1 e3
    have hl : (l.take n).length = n := by rw [List.length_take]; omega
    refine ⟨by omega, .inr ⟨g, n, cur, by rw [hl], hg, by omega, by omega, by omega, ?_⟩⟩
    have : cur.toList.take n = (cur.toList.take l.length).take n := by rw [List.take_take, Nat.min_eq_left hn]
    rw [hl, this, h4, u8s, u8s, List.map_take]
theorem strCells_ofNats {t : List Nat} (ht : B8 t) : strCells (ofNats t) = u8s t := by
  have h := nums_ofNats ht
  unfold nums at h
  rw [strCells, u8s]
  conv => rhs; rw [← h]
  rw [List.map_map]
  rfl
theorem BRow.of_owns {w : World} {B : Nat} {v : Value} {l : List Nat} (h : w.ownsRow B 5 1 v l.length (u8s l)) : BRow w v l := by
  rcases h.2 with ⟨rfl, h0⟩ | ⟨g, cap, cur, rfl, hb, hg, h1, h2, h3, h4⟩
  · exact .inl ⟨rfl, List.length_eq_zero_iff.1 h0⟩
  · exact .inr ⟨g, cap, cur, rfl, hg, h1, h2, by omega, by simpa using h4⟩
/-- append(b, s...) -/
theorem BRow.append {w : World} {v : Value} {l t : List Nat} (h : BRow w v l) (ht : B8 t) (hl : l.length + t.length ≤ 1048576) (ty : TypeId) :
    ∃ v' w', (Builtin.append_ #[53, 9] ty #[v, .string (ofNats t)]).run Try.prog w = .ok v' w' ∧ BRow w' v' (l ++ t) ∧ w.grownBy w' v.ownBlock ∧ (∀ g, v'.ownBlock = some g → v.ownBlock = some g ∨ w.heap.size ≤ g) := by
  obtain ⟨i0, hi, hz0, hz1, hz2⟩ := info_of Try.infoU8
  have hsz := ofNats_size t
  have h' := h
  rcases h' with ⟨rfl, rfl⟩ | ⟨g, cap, cur, rfl, hg, h1, h2, h3, h4⟩
  · obtain ⟨v', w', hr, ho, hgr, _⟩ := run_append_own_string (P := Try.prog) w w.heap.size 53 9 ty 5 i0 Try.underlying53 Try.underlying9 hi hz0 hz1 hz2 (.slice none 0 0) 0 [] (World.ownsRow_nil _ _ _ _) (ofNats t) (by rw [hsz]; unfold maxLen; omega) (by rw [hsz]; simp at hl; omega) (Nat.le_refl _)
    rw [strCells_ofNats ht, hsz, Nat.zero_add, List.nil_append] at ho
    exact ⟨v', w', hr, BRow.of_owns ho, hgr, fun g hg => .inr (ho.lt g hg).1⟩
  · have hlen : (u8s l).length = l.length := u8s_length l
    by_cases hroom : l.length + t.length ≤ cap
    · have hr := run_append_room_string (P := Try.prog) w 53 9 ty 5 i0 Try.underlying53 Try.underlying9 hi hz1 g l.length cap cur hg (ofNats t) (by rw [hsz]; exact hroom) (by rw [hsz]; omega)
      rw [hsz, strCells_ofNats ht] at hr
      refine ⟨_, _, hr, .inr ⟨g, cap, _, by rw [List.length_append], setRow_heap w g cur _ _ _ hg, by rw [List.length_append]; omega, h2, ?_, ?_⟩, ⟨rfl, rfl, rfl, by simp, fun k _ hk => setRow_other w g k _ (fun e => hk (by simp [Value.ownBlock, e]))⟩, fun k hk => .inl hk⟩
      · simp only [List.size_toArray, List.length_append, List.length_take, List.length_drop, Array.length_toList, u8s_length]
        omega
      · rw [h4, ← u8s_append]
        have : (u8s (l ++ t)).length = (l ++ t).length := u8s_length _
        rw [← this]
        exact List.take_left
    · have holds : ∀ j u, (u8s l)[j]? = some u → w.cell? ((⟨g, 0, none⟩ : Addr).add j) = some u := by
        intro j u hj
        have hj' : j < l.length := by
          have := (List.getElem?_eq_some_iff.1 hj).1; rw [hlen] at this; exact this
        rw [Addr.add_lit, Nat.zero_add, h.cell j hj', ← hj]
        simp [u8s, hj']
      have hr := run_append_grow_string (P := Try.prog) w 53 9 ty 5 i0 (.int .u8 0) Try.underlying53 Try.underlying9 hi hz0 ⟨g, 0, none⟩ l.length cap (u8s l) (by rw [hz1]; omega) holds (ofNats t) (by rw [hsz]; omega) (by rw [hsz]; omega) (by rw [hz2, hsz]; exact growslice_fits (by omega) (by omega))
      rw [hsz, strCells_ofNats ht] at hr
      have hge := grownCap_ge w (l.length + t.length) cap 5
      have hcm : grownCap w (l.length + t.length) cap 5 ≤ maxLen := grownCap_le_maxLen w (l.length + t.length) cap 5 (by unfold maxLen; omega)
      refine ⟨_, _, hr, .inr ⟨w.heap.size, _, _, by rw [List.length_append], heap_alloc_new w.drew _, by rw [List.length_append]; exact hge, hcm, ?_, ?_⟩, ⟨rfl, rfl, rfl, by simp, fun k hk _ => heap_alloc_old w.drew _ hk⟩, fun k hk => .inr (by simp [Value.ownBlock] at hk; omega)⟩
      · have hz1 : (Value.int IntKind.u8 0).cells.size = 1 := rfl
        simp only [Array.size_append, List.size_toArray, size_zeroCells, hz1, u8s_length]
        omega
      · simp only [Array.toList_append, List.append_assoc]
        rw [← List.append_assoc, ← u8s_append]
        have : (u8s (l ++ t)).length = (l ++ t).length := u8s_length _
        rw [← this]
        exact List.take_left
/-- append(b, s...), for the walk -/
theorem wpList_append_brow {ops : Array Oper} {rest : List Oper} {o : Oper} {a : Act} {w : World} {Q : Exit → Act → World → Prop} (hgd : o.guard = none) (sl x : Operand)
    (ho : o.op = .call { callee := .builtin .append, args := #[sl, x], argTypes := #[53, 9] })
    (v : Value) (l t : List Nat) (hs : a.eval sl = v) (hx : a.eval x = .string (ofNats t)) (h : BRow w v l) (ht : B8 t) (hl : l.length + t.length ≤ 1048576)
    (k : ∀ v' w', BRow w' v' (l ++ t) → w.grownBy w' v.ownBlock → (∀ g, v'.ownBlock = some g → v.ownBlock = some g ∨ w.heap.size ≤ g) → wpList Try.prog ops Q rest (a.put o.dst v') w') : wpList Try.prog ops Q (o :: rest) a w := by
  refine wpList_plain hgd fun K hK => ?_
  obtain ⟨v', w', hr, h2, h3, h4⟩ := h.append ht hl o.type
  unfold Oper.wp execOp
  simp only [ho, resolve, invoke, builtin, Sem.run_bind, Sem.run_pure, Result.andThen_ok, List.map_toArray, List.map_cons, List.map_nil, hs, hx, hr]
  exact hK _ _ (k v' w' h2 h3 h4)
theorem make_b (w : World) (n : Nat) (h : n ≤ 281474976710656) : (Instr.makeSlice 53 (.int .i64 (n : Int)) (.int .i64 (n : Int))).run Try.prog w = .ok (.slice (some ⟨w.heap.size, 0, none⟩) n n) (w.alloc (.cells (madeCells (Value.int .u8 0).cells n) 5)) := by
  obtain ⟨i0, hi, hz0, hz1, hz2⟩ := info_of Try.infoU8
  have := run_make (P := Try.prog) w 53 5 i0 (.int .u8 0) Try.underlying53 hi hz0 .i64 .i64 n n (by omega) (by omega) (by rw [hz2]; omega) (by omega)
  rw [this, hz1]
  simp
theorem Try.sizeB : (Try.prog.info? 5).map (·.size) = some 1 := by kernel_rfl
theorem u8s_cells (l : List Nat) : ∀ v ∈ u8s l, v.oneCell' = true := by
  intro v hv
  simp only [u8s, List.mem_map] at hv
  obtain ⟨x, _, rfl⟩ := hv
  rfl
/-- copy into a row that was just made -/
theorem BRow.copy {w wa : World} {v : Value} {l : List Nat} (h : BRow w v l) (hl : l.length ≤ 1048576) (hwa : wa = w.alloc (.cells (madeCells (Value.int .u8 0).cells l.length) 5)) :
    ∃ w', (∀ ty, (Builtin.copy_ #[53, 53] ty #[.slice (some ⟨w.heap.size, 0, none⟩) l.length l.length, v]).run Try.prog wa = .ok (goInt l.length) w') ∧ BRow w' (.slice (some ⟨w.heap.size, 0, none⟩) l.length l.length) l ∧ Below w.heap.size w w' := by
  have hb : Below w.heap.size w wa := by rw [hwa]; exact Below.al (Below.refl _ _) _
  have hnew : wa.heap[w.heap.size]? = some (.cells (madeCells (Value.int .u8 0).cells l.length) 5 (0, 0)) := by rw [hwa]; exact heap_alloc_new w _
  have hsz : (madeCells (Value.int .u8 0).cells l.length).size = l.length := size_madeCells _ _
  have h' := h
  rcases h' with ⟨rfl, rfl⟩ | ⟨g, cap, cur, rfl, hg, h1, h2, h3, h4⟩
  · refine ⟨wa, fun ty => run_copy_nil Try.prog wa _ _ ty 5 _ 0 0 Try.underlying53 (by rw [Try.sizeB]; rfl), .inr ⟨w.heap.size, 0, _, rfl, hnew, Nat.le_refl _, Nat.zero_le _, Nat.zero_le _, by simp [u8s]⟩, hb⟩
  · have hl' := u8s_length l
    have hc := (h.later hb).cell
    have hr := fun ty => run_copy_row (P := Try.prog) wa 53 53 ty 5 w.heap.size 0 l.length l.length ⟨g, 0, none⟩ l.length cap _ 5 (u8s l) Try.underlying53 Try.sizeB hnew (by rw [hl']; exact (Nat.min_self _).symm) (fun j u hj => by
      have hj' : j < l.length := by
        have := (List.getElem?_eq_some_iff.1 hj).1; rw [hl'] at this; exact this
      rw [Addr.add_lit, Nat.zero_add, hc j hj', ← hj]
      simp [u8s, hj']) (by rw [hl', hsz]; omega) (u8s_cells l)
    have hall : ((madeCells (Value.int .u8 0).cells l.length).toList.take 0 ++ u8s l ++ (madeCells (Value.int .u8 0).cells l.length).toList.drop (0 + (u8s l).length)).toArray = (u8s l).toArray := by
      rw [List.take_zero, List.nil_append, Nat.zero_add, List.drop_eq_nil_of_le (by rw [hl', Array.length_toList, hsz]; exact Nat.le_refl _), List.append_nil]
    rw [hall, hl'] at hr
    refine ⟨_, hr, .inr ⟨w.heap.size, l.length, _, rfl, setRow_heap wa _ _ _ _ _ hnew, Nat.le_refl _, by unfold maxLen; omega, by simp [hl'], by rw [← hl']; simp⟩, ?_⟩
    exact ⟨hb.os, hb.tape, hb.output, by simpa using hb.size, fun k hk => (setRow_other wa _ k _ (by omega)).trans (hb.block k hk)⟩
theorem wpList_copy_b {w w' : World} {ops : Array Oper} {rest : List Oper} {o : Oper} {act : Act} {Q : Exit → Act → World → Prop} (hgd : o.guard = none) (d s : Operand)
    (ho : o.op = .call { callee := .builtin .copy, args := #[d, s], argTypes := #[53, 53] }) {x y : Value} {n : Nat} (hd : act.eval d = x) (hs : act.eval s = y)
    (hrun : ∀ ty, (Builtin.copy_ #[53, 53] ty #[x, y]).run Try.prog w = .ok (goInt n) w')
    (h : wpList Try.prog ops Q rest (act.put o.dst (goInt n)) w') : wpList Try.prog ops Q (o :: rest) act w := by
  refine wpList_plain hgd fun K hK => ?_
  unfold Oper.wp
  simp [execOp, ho, resolve, invoke, builtin, hd, hs, hrun, Result.andThen]
  exact hK _ _ h

end Go.Proofs.Ytmbmagfdeadibaa
