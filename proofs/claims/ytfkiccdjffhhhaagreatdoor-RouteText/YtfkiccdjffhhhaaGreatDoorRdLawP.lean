import Derived.Test.YtfkiccdjffhhhaaGreatDoorRdU
import Derived.Test.YtfkiccdjffhhhaaGreatDoorRdSame
import Derived.Test.YtfkiccdjffhhhaaGreatDoorRdCut
import Derived.Test.YtfkiccdjffhhhaaGreatDoorRFitN
/- What the statement is handed; what it lays together, plain. -/
namespace Go.Proofs.YtfkiccdjffhhhaaGreatDoor.Rt
open Go.RowKit Go.Sort
set_option linter.unusedVariables false

structure Wn where
  c : Cf
  n : ByteArray
  x : Int
abbrev Wn.val (x : Wn) : Value := .agg #[.int .i64 x.c.sh, .int .i64 x.c.cl, .slice x.c.a x.c.ss.length x.c.cp, .int .i64 x.c.ca, .int .i64 x.c.pk, .int .u64 x.c.wi, .string x.n, .int .i64 x.x]
structure BoxW (w : World) (p : Nat) (x : Wn) : Prop where
  c0 : w.cell? ⟨p, 0, none⟩ = some (.int .i64 x.c.sh)
  c1 : w.cell? ⟨p, 1, none⟩ = some (.int .i64 x.c.cl)
  c2 : w.cell? ⟨p, 2, none⟩ = some (.slice x.c.a x.c.ss.length x.c.cp)
  c3 : w.cell? ⟨p, 3, none⟩ = some (.int .i64 x.c.ca)
  c4 : w.cell? ⟨p, 4, none⟩ = some (.int .i64 x.c.pk)
  c5 : w.cell? ⟨p, 5, none⟩ = some (.int .u64 x.c.wi)
  c6 : w.cell? ⟨p, 6, none⟩ = some (.string x.n)
  c7 : w.cell? ⟨p, 7, none⟩ = some (.int .i64 x.x)
theorem BoxW.later {w w' : World} {p : Nat} {x : Wn} (h : BoxW w p x) (hb : Below w.heap.size w w') : BoxW w' p x :=
  ⟨cell_later hb h.c0, cell_later hb h.c1, cell_later hb h.c2, cell_later hb h.c3, cell_later hb h.c4, cell_later hb h.c5, cell_later hb h.c6, cell_later hb h.c7⟩
theorem BoxW.new (w : World) (x : Wn) (t : TypeId) : BoxW (w.alloc (.cells #[.int .i64 x.c.sh, .int .i64 x.c.cl, .slice x.c.a x.c.ss.length x.c.cp, .int .i64 x.c.ca, .int .i64 x.c.pk, .int .u64 x.c.wi, .string x.n, .int .i64 x.x] t)) w.heap.size x := by
  constructor <;> simp [go_sem]
theorem BoxW.setc {w : World} {p q o : Nat} {x : Wn} {v : Value} (h : BoxW w p x) (hn : p ≠ q) : BoxW (w.setCell ⟨q, o, none⟩ v) p x := by
  have k : ∀ {j : Nat} {u : Value}, w.cell? ⟨p, j, none⟩ = some u → (w.setCell ⟨q, o, none⟩ v).cell? ⟨p, j, none⟩ = some u := fun {j u} hc => by
    rw [World.cell?_setCell_other (h := fun e => hn (congrArg Addr.block e).symm)]; exact hc
  exact ⟨k h.c0, k h.c1, k h.c2, k h.c3, k h.c4, k h.c5, k h.c6, k h.c7⟩
/-- six cells at q, whatever stands in them -/
structure Six (w : World) (q : Nat) : Prop where
  c : ∀ o, o < 6 → ∃ v, w.cell? ⟨q, o, none⟩ = some v
  f : ∀ o, w.frozen? ⟨q, o, none⟩ = false
  lt : q < w.heap.size
theorem Six.later {w w' : World} {q : Nat} (h : Six w q) (hb : Below w.heap.size w w') : Six w' q :=
  ⟨fun o ho => by obtain ⟨v, hv⟩ := h.c o ho; exact ⟨v, cell_later hb hv⟩, fun o => (hb.frozen (p := ⟨q, o, none⟩) h.lt).trans (h.f o), Nat.lt_of_lt_of_le h.lt hb.size⟩
theorem Six.setc {w : World} {q o : Nat} {v : Value} (h : Six w q) : Six (w.setCell ⟨q, o, none⟩ v) q := by
  refine ⟨fun j hj => ?_, fun j => by rw [World.frozen?_setCell]; exact h.f j, by rw [World.size_setCell]; exact h.lt⟩
  obtain ⟨u, hu⟩ := h.c j hj
  by_cases e : j = o
  · subst e; exact ⟨v, World.cell?_setCell_same _ _ _ hu⟩
  · exact ⟨u, by rw [World.cell?_setCell_other (h := fun e' => e (congrArg Addr.off e').symm)]; exact hu⟩
/-- the third loop's state -/
structure Xs (w wr : World) (x : Wn) (p q : Nat) : Prop where
  bel : Below w.heap.size w wr
  box : BoxW wr p x
  six : Six wr q
  ge : w.heap.size ≤ q
  ne : p ≠ q
theorem Xs.later {w wr w' : World} {x : Wn} {p q : Nat} (h : Xs w wr x p q) (hb : Below wr.heap.size wr w') : Xs w w' x p q := ⟨Below.on h.bel hb, h.box.later hb, h.six.later hb, h.ge, h.ne⟩
theorem Xs.setc {w wr : World} {x : Wn} {p q o : Nat} {v : Value} (h : Xs w wr x p q) : Xs w (wr.setCell ⟨q, o, none⟩ v) x p q :=
  ⟨Below.setCell h.bel (p := ⟨q, o, none⟩) h.ge _, h.box.setc h.ne, h.six.setc, h.ge, h.ne⟩

/-- a configuration stored over what stands at q -/
abbrev put6 (w : World) (q : Nat) (c : Cf) : World := (((((w.setCell ⟨q, 0, none⟩ (.int .i64 c.sh)).setCell ⟨q, 1, none⟩ (.int .i64 c.cl)).setCell ⟨q, 2, none⟩ (.slice c.a c.ss.length c.cp)).setCell ⟨q, 3, none⟩ (.int .i64 c.ca)).setCell ⟨q, 4, none⟩ (.int .i64 c.pk)).setCell ⟨q, 5, none⟩ (.int .u64 c.wi)
theorem set_same {w : World} {q o : Nat} {v : Value} (h : Six w q) (ho : o < 6) : (w.setCell ⟨q, o, none⟩ v).cell? ⟨q, o, none⟩ = some v := by
  obtain ⟨u, hu⟩ := h.c o ho
  exact World.cell?_setCell_same _ _ _ hu
theorem set_on {w : World} {q o j : Nat} {v u : Value} (h : w.cell? ⟨q, j, none⟩ = some u) (hn : j ≠ o) : (w.setCell ⟨q, o, none⟩ v).cell? ⟨q, j, none⟩ = some u := by
  rw [World.cell?_setCell_other (h := fun e => hn (congrArg Addr.off e).symm)]; exact h
theorem put6_box {w : World} {q : Nat} (h : Six w q) (c : Cf) : BoxC (put6 w q c) q c :=
  ⟨set_on (set_on (set_on (set_on (set_on (set_same h (by decide)) (by decide)) (by decide)) (by decide)) (by decide)) (by decide),
   set_on (set_on (set_on (set_on (set_same h.setc (by decide)) (by decide)) (by decide)) (by decide)) (by decide),
   set_on (set_on (set_on (set_same h.setc.setc (by decide)) (by decide)) (by decide)) (by decide),
   set_on (set_on (set_same h.setc.setc.setc (by decide)) (by decide)) (by decide),
   set_on (set_same h.setc.setc.setc.setc (by decide)) (by decide),
   set_same h.setc.setc.setc.setc.setc (by decide)⟩
theorem put6_row {w : World} {q : Nat} {a : Option Addr} {ss : List ByteArray} (c : Cf) (h : RowS w a ss) (hn : ∀ g o, a = some ⟨g, o, none⟩ → g ≠ q) : RowS (put6 w q c) a ss := by
  intro i hi
  obtain ⟨b, off, e, hc⟩ := h i hi
  refine ⟨b, off, e, ?_⟩
  have hb := hn b off e
  have k : ∀ {w : World} {o : Nat} {v u : Value}, w.cell? ⟨b, off + i, none⟩ = some u → (w.setCell ⟨q, o, none⟩ v).cell? ⟨b, off + i, none⟩ = some u := fun {w o v u} h => by
    rw [World.cell?_setCell_other (h := fun e => hb (congrArg Addr.block e).symm)]; exact h
  exact k (k (k (k (k (k hc)))))
theorem Xs.put6 {w wr : World} {x : Wn} {p q : Nat} (h : Xs w wr x p q) (c : Cf) : Xs w (put6 wr q c) x p q := h.setc.setc.setc.setc.setc.setc
/-! the lines -/
abbrev Cf.ls (c : Cf) : List (List UInt8) := c.part [0, 1, 2, 3, 4]
theorem ls_length (c : Cf) : c.ls.length = c.ss.length + 5 := by simp [Cf.part, Cf.wS]
theorem ls_at (c : Cf) {k : Nat} (hk : k < 5) : c.ls[k]'(by rw [ls_length]; omega) = ln k (c.wN k) := by
  match k, hk with
  | 0, _ | 1, _ | 2, _ | 3, _ | 4, _ => rfl
theorem ls_erase (c : Cf) {k : Nat} (hk : k < 5) : c.ls.eraseIdx k = c.part ([0, 1, 2, 3, 4].erase k) := by
  match k, hk with
  | 0, _ | 1, _ | 2, _ | 3, _ | 4, _ => rfl
theorem take_erase {ls : List (List UInt8)} {x k : Nat} (hk : k < ls.length) : flat ((ls.take (k + 1)).eraseIdx x) = if k = x then flat ((ls.take k).eraseIdx x) else flat ((ls.take k).eraseIdx x) ++ (ls[k] ++ [10]) := by
  have hl : (ls.take k).length = k := by simp; omega
  rw [List.take_succ_eq_append_getElem hk]
  by_cases h : k = x
  · subst h
    rw [if_pos rfl, List.eraseIdx_append_of_length_le (by omega), hl]
    rw [List.eraseIdx_of_length_le (l := ls.take k) (by omega)]
    simp
  · rw [if_neg h]
    rcases Nat.lt_or_ge x k with h1 | h1
    · rw [List.eraseIdx_append_of_lt_length (by omega), flatApp]
      simp [flat]
    · rw [List.eraseIdx_append_of_length_le (by omega), hl, flatApp, List.eraseIdx_of_length_le (l := ls.take k) (by omega), List.eraseIdx_of_length_le (by simp; omega)]
      simp [flat]
theorem flat_cons2 (l : List UInt8) (b : List (List UInt8)) : flat (l :: b) = (l ++ [10]) ++ flat b := by simp [flat]
/-- one moved to the front -/
theorem moved_front (c : Cf) {k : Nat} (hk : k < 5) : (ln k (c.wN k) ++ [10]) ++ flat (c.ls.eraseIdx k) = flat (c.part (front k)) := by
  rw [ls_erase c hk, ← flat_cons2]
  rfl
theorem moved_twice (c : Cf) {k : Nat} : (ln k (c.wN k) ++ [10]) ++ flat c.ls = flat (c.part (k :: [0, 1, 2, 3, 4])) := by
  rw [← flat_cons2]
  rfl
theorem ls_no10 {c : Cf} (hc : c.okB = true) : ∀ l ∈ c.ls, (10 : UInt8) ∉ l := by
  intro l hl
  rcases List.mem_append.1 hl with h | h
  · obtain ⟨k, _, rfl⟩ := List.mem_map.1 h; exact wN_no10 hc k
  · exact wS_no10 l h
theorem endB_data (l : List UInt8) : (endB l).data.toList = l ++ [10] := by simp [endB]
theorem app_data (a b : ByteArray) : (a ++ b).data.toList = a.data.toList ++ b.data.toList := by rw [ByteArray.data_append, Array.toList_append]
theorem app_size (a b : ByteArray) : (a ++ b).size = a.size + b.size := by rw [Lib.size_eq, Lib.size_eq, Lib.size_eq, app_data, List.length_append]
theorem flat_sub {a b : List (List UInt8)} (h : a.Sublist b) : (flat a).length ≤ (flat b).length := by
  induction h with
  | slnil => exact Nat.le_refl _
  | cons l _ ih => rw [flat_cons2]; simp only [List.length_append]; omega
  | cons_cons l _ ih => rw [flat_cons2, flat_cons2]; simp only [List.length_append]; omega
theorem wo_size {c : Cf} {k y : Nat} {W T : ByteArray} (hT : T.data.toList = flat c.ls) (hW : W.data.toList = flat ((c.ls.take k).eraseIdx y)) : W.size ≤ T.size := by
  rw [Lib.size_eq, Lib.size_eq, hT, hW]
  exact flat_sub ((List.eraseIdx_sublist _ _).trans (List.take_sublist _ _))
theorem line_size {c : Cf} {T : ByteArray} (hT : T.data.toList = flat c.ls) {k : Nat} (hk : k < c.ls.length) : (endB c.ls[k]).size ≤ T.size := by
  rw [Lib.size_eq, Lib.size_eq, hT, endB_data]
  have := flat_sub (List.singleton_sublist.2 (List.getElem_mem hk))
  have e : (flat [c.ls[k]]).length = (c.ls[k] ++ [10]).length := by simp [flat]
  omega
/-- a number's remainder by five, not below zero -/
theorem five (a : Int) (h : -9223372036854775808 ≤ a ∧ a ≤ 9223372036854775807) : ∃ y : Nat, y < 5 ∧ ((0 ≤ a.tmod 5 ∧ a.tmod 5 = y) ∨ (a.tmod 5 < 0 ∧ a.tmod 5 = (y : Int) - 5)) := by
  have h1 : -5 < a.tmod 5 ∧ a.tmod 5 < 5 := by
    rcases Int.le_total 0 a with h0 | h0
    · rw [Int.tmod_eq_emod_of_nonneg h0]; omega
    · have : a.tmod 5 = -((-a) % 5) := by rw [← Int.tmod_eq_emod_of_nonneg (by omega : 0 ≤ -a), Int.neg_tmod]; omega
      omega
  rcases Int.lt_or_le (a.tmod 5) 0 with h0 | h0
  · exact ⟨(a.tmod 5 + 5).toNat, by omega, .inr ⟨h0, by omega⟩⟩
  · exact ⟨(a.tmod 5).toNat, by omega, .inl ⟨h0, by omega⟩⟩
/-- a note so far -/
structure Nt (N : ByteArray) (i : Nat) : Prop where
  d : ∃ r, N.data.toList = 35 :: r ∧ (10 : UInt8) ∉ r
  s : N.size ≤ i + 1
theorem Nt.ahead {N : ByteArray} {i : Nat} (h : Nt N i) : Ahead (N ++ ⟨#[10]⟩).data.toList := by
  obtain ⟨r, e, hr⟩ := h.d
  refine .inr ⟨35 :: r, by rw [app_data, e], ?_, .inr ⟨r, rfl⟩⟩
  simp [hr]
theorem Nt.more {N b : ByteArray} {i : Nat} {u : UInt8} (h : Nt N i) (hb : b.data.toList = [u]) (hu : u ≠ 10) : Nt (N ++ b) (i + 1) := by
  obtain ⟨r, e, hr⟩ := h.d
  refine ⟨⟨r ++ [u], by rw [app_data, e, hb]; rfl, by simp [hr]; exact fun e => hu e.symm⟩, ?_⟩
  rw [app_size, Lib.size_eq b, hb]
  have := h.s
  simp; omega
theorem Nt.same {N : ByteArray} {i : Nat} (h : Nt N i) : Nt N (i + 1) := ⟨h.d, by have := h.s; omega⟩
end Go.Proofs.YtfkiccdjffhhhaaGreatDoor.Rt
