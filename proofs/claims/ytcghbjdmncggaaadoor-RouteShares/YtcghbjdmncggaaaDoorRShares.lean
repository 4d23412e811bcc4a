import Derived.Test.YtcghbjdmncggaaaDoorRTab
import Derived.Test.YtcghbjdmncggaaaDoorRRowP
/- Shares: the walk. -/
namespace Go.Proofs.YtcghbjdmncggaaaDoor.Rt
open Go.RowKit Go.Sort
set_option linter.unusedVariables false

/-- the spans of shard i among some parts -/
def atS (i : Nat) (l : List Pt) : List T2 := l.filterMap fun p => if p.1 = i then some p.2 else none
theorem atS_snoc (i : Nat) (l : List Pt) (p : Pt) : atS i (l ++ [p]) = atS i l ++ if p.1 = i then [p.2] else [] := by
  simp only [atS, List.filterMap_append]
  by_cases h : p.1 = i <;> simp [h]
theorem cutN_at (ss : List ByteArray) (s : T2) (i : Nat) : ∀ n, atS i (cutN ss s n) = if i < n then (comm (reachN ss i) s).toList else []
  | 0 => by simp [cutN, atS]
  | n + 1 => by
    have ih := cutN_at ss s i n
    rw [cutN]
    cases hc : comm (reachN ss n) s with
    | none =>
      simp only [List.append_nil]
      rw [ih]
      by_cases h1 : i < n
      · rw [if_pos h1, if_pos (by omega)]
      · by_cases h2 : i = n
        · subst h2; rw [if_neg h1, if_pos (by omega), hc]; rfl
        · rw [if_neg h1, if_neg (by omega)]
    | some t =>
      simp only
      rw [atS_snoc, ih]
      show (if i < n then (comm (reachN ss i) s).toList else []) ++ (if n = i then [t] else []) = _
      by_cases h1 : i < n
      · have h3 : ¬ n = i := by omega
        rw [if_pos h1, if_neg h3, if_pos (by omega), List.append_nil]
      · by_cases h2 : n = i
        · subst h2; rw [if_neg h1, if_pos rfl, if_pos (by omega), hc]; rfl
        · rw [if_neg h1, if_neg h2, if_neg (by omega)]; rfl
theorem cutL_at2 {ss : List ByteArray} (s : T2) {i : Nat} (hi : i ≤ ss.length) : atS i (cutL ss s) = (comm (reachN ss i) s).toList := by
  rw [cutL, cutN_at, if_pos (by omega)]
theorem atS_le {ss : List ByteArray} (s : T2) {i : Nat} (hi : i ≤ ss.length) (j : Nat) : (atS i ((cutL ss s).take j)).length ≤ 1 := by
  have h1 : (atS i ((cutL ss s).take j)).length ≤ (atS i (cutL ss s)).length := ((List.take_sublist _ _).filterMap _).length_le
  have h2 : ((comm (reachN ss i) s).toList).length ≤ 1 := by cases comm (reachN ss i) s <;> simp
  rw [cutL_at2 s hi] at h1
  omega
theorem reads_snoc (ss : List ByteArray) {rs : List T2} {m : Nat} (h : m < rs.length) (i : Nat) : readsL ss (rs.take (m + 1)) i = readsL ss (rs.take m) i ++ (comm (reachN ss i) (nth2 rs m)).toList := by
  rw [nth2_take h]
  simp only [readsL, List.filterMap_append]
  cases h2 : comm (reachN ss i) (nth2 rs m) <;> simp [h2]
theorem writes_snoc (ss : List ByteArray) {ws : List Wr} {m : Nat} (h : m < ws.length) (i : Nat) : writesL ss (ws.take (m + 1)) i = writesL ss (ws.take m) i ++ if ownN ss (nthW ws m).key = i then [nthW ws m] else [] := by
  rw [nthW_take h]
  simp only [writesL, List.filter_append]
  congr 1
  by_cases h2 : ownN ss (nthW ws m).key = i <;> simp [h2]
theorem reads_le (ss : List ByteArray) (rs : List T2) (i : Nat) : (readsL ss rs i).length ≤ rs.length := List.length_filterMap_le _ _
theorem writes_le (ss : List ByteArray) (ws : List Wr) (i : Nat) : (writesL ss ws i).length ≤ ws.length := List.length_filter_le _ _

theorem infoSh : (Tryd.prog.info? 49).map (fun i => (i.zero, i.size, i.bytes)) = some (some (.agg #[.int .u32 0, .slice none 0 0, .slice none 0 0]), 3, 56) := by kernel_rfl
theorem makeSh (w : World) (n : Nat) (h : n ≤ 6) : (Instr.makeSlice 42 (.int .i64 (n : Int)) (.int .i64 (n : Int))).run Tryd.prog w = .ok (.slice (some ⟨w.heap.size, 0, none⟩) n n) (w.alloc (.cells (madeCells (Value.agg #[.int .u32 0, .slice none 0 0, .slice none 0 0]).cells (n * 3)) 49)) := by
  obtain ⟨i0, hi, hz0, hz1, hz2⟩ := info_ofR infoSh
  have := run_make (P := Tryd.prog) w 42 49 i0 _ Tryd.underlying42 hi hz0 .i64 .i64 n n (by omega) (by omega) (by rw [hz2]; omega) (by omega)
  rw [this, hz1]
  simp
theorem Tb.new (w : World) (n : Nat) : Tb (w.alloc (.cells (madeCells (Value.agg #[.int .u32 0, .slice none 0 0, .slice none 0 0]).cells (n * 3)) 49)) w.heap.size n (fun _ => .slice none 0 0) (fun _ => .slice none 0 0) (fun _ => []) (fun _ => []) := by
  refine ⟨fun i hi => ?_, fun i hi => World.ownsRow_nil _ _ _ _, fun i hi => World.ownsRow_nil _ _ _ _, fun _ _ _ _ _ => .inl rfl, fun _ _ _ _ _ => .inl rfl, fun o => by simp [go_sem], by simp⟩
  have h0 : i * 3 < n * 3 := by omega
  have h1 : i * 3 + 1 < n * 3 := by omega
  have h2 : i * 3 + 2 < n * 3 := by omega
  refine ⟨?_, ?_, ?_⟩
  · simp [go_sem, madeCells, h0]
  · simp [go_sem, madeCells, h1, Nat.add_mod]
  · simp [go_sem, madeCells, h2, Nat.add_mod]

end Go.Proofs.YtcghbjdmncggaaaDoor.Rt
