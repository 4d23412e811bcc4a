import Derived.Test.YtofpaldolcnmiaaGreatRows
import Derived.Test.YtofpaldolcnmiaaGreatChecked
import Derived.OpenShut
import Derived.Deep.Slices
import Derived.Deep.DeepHandedRow
import Derived.ProofKit
import Derived.SizedLaws
import Derived.Test.YtofpaldolcnmiaaGreatB44
import Derived.Test.YtofpaldolcnmiaaGreatB07
import Derived.Test.YtofpaldolcnmiaaGreatB27
import Derived.Test.YtofpaldolcnmiaaGreatB36
set_option linter.unusedVariables false
namespace Go.Proofs.YtofpaldolcnmiaaGreat
open Go.ChangeShapes Go.WideShapes Go.ChangeAt Go.RowKit Go.Deep
def RowC {α : Type} (z : α) (cells : α → List Value) (n : Nat) (W : World) (a : Option Addr) (xs : List α) : Prop :=
  ∀ i, i < xs.length → ∃ b off, a = some ⟨b, off, none⟩ ∧ ∀ o u, (cells (xs[i]?.getD z))[o]? = some u → W.cell? ⟨b, off + i * n + o, none⟩ = some u
theorem weightsAll_mem {H : Type} {P : Program} {e : TypeId} {k : Nat} : ∀ {l : List (DataW H)} {d : DataW H}, d ∈ l → k ∈ d.weights P e → k ∈ DataW.weightsAll P e l
  | x :: l, d, hd, hk => by
    rw [DataW.weightsAll, List.mem_append]
    rcases List.mem_cons.1 hd with rfl | hd
    · exact .inl hk
    · exact .inr (weightsAll_mem hd hk)
theorem bulk_pos {H : Type} (d : DataW H) : 1 ≤ Rows.uptoBulk d := by
  cases d with
  | lit l => cases l <;> simp [Rows.uptoBulk]
  | _ => simp [Rows.uptoBulk]
theorem bulkAll_len {H : Type} : ∀ l : List (DataW H), l.length ≤ Rows.uptoBulkAll l
  | [] => by simp
  | x :: l => by have := bulkAll_len l; have := bulk_pos x; simp only [List.length_cons, Rows.uptoBulkAll]; omega
theorem bulkAll_mem {H : Type} : ∀ {l : List (DataW H)} {d : DataW H}, d ∈ l → Rows.uptoBulk d ≤ Rows.uptoBulkAll l
  | x :: l, d, hd => by
    rcases List.mem_cons.1 hd with rfl | hd
    · simp only [Rows.uptoBulkAll]; omega
    · have := bulkAll_mem hd; simp only [Rows.uptoBulkAll]; omega
theorem bulkAll_sum {H α : Type} (z : α) (f : α → Nat) : ∀ {el : List (DataW H)} {xs : List α}, el.length = xs.length → (∀ i, i < xs.length → ∃ d, el[i]? = some d ∧ f (xs[i]?.getD z) ≤ Rows.uptoBulk d) → (xs.map f).sum ≤ Rows.uptoBulkAll el
  | [], [], _, _ => by simp
  | e :: el, x :: xs, hl, h => by
    obtain ⟨d, hd, h0⟩ := h 0 (by simp)
    simp at hd h0
    subst hd
    have := bulkAll_sum z f (el := el) (xs := xs) (by simpa using hl) (fun i hi => by
      obtain ⟨d, hd, h1⟩ := h (i + 1) (by simpa using hi)
      exact ⟨d, by simpa using hd, by simpa using h1⟩)
    simp only [List.map_cons, List.sum_cons, Rows.uptoBulkAll]
    omega
def InReach {H : Type} (t : TypeId) (d : DataW H) : Prop := (∀ k ∈ d.weights Tryz.prog t, k ≤ reachBytes) ∨ Rows.uptoBulk d ≤ 1048576
theorem InReach.part {H : Type} {t : TypeId} {fs : Array Field} {ps : List (DataW H)} (h : InReach t (.agg ps)) (ht : Tryz.prog.underlying t = some (.struct fs)) {j : Nat} {f : Field} {d : DataW H} (hf : fs[j]? = some f) (hd : ps[j]? = some d) : InReach f.type d := by
  rcases h with h | h
  · refine .inl fun k hk => h k ?_
    simp only [DataW.weights, ht]
    exact DataW.weights_mem_each (j := j) (by simp [hf]) hd k hk
  · have := bulkAll_mem (List.mem_of_getElem? hd)
    simp only [Rows.uptoBulk] at h
    exact .inr (by omega)
theorem InReach.elem {H : Type} {t e : TypeId} {el sp : List (DataW H)} (h : InReach t (.slice el sp)) (ht : Tryz.prog.underlying t = some (.slice e)) {d : DataW H} (hd : d ∈ el) : InReach e d := by
  rcases h with h | h
  · refine .inl fun k hk => h k ?_
    simp only [DataW.weights, ht, List.mem_cons, List.mem_append]
    exact .inr (.inl (weightsAll_mem hd hk))
  · have := bulkAll_mem hd
    simp only [Rows.uptoBulk] at h
    exact .inr (by omega)
theorem InReach.len {H : Type} {t e : TypeId} {el sp : List (DataW H)} (h : InReach t (.slice el sp)) (ht : Tryz.prog.underlying t = some (.slice e)) {n : Nat} (hb : Tryz.prog.bytesOf e = n) (hn : n ≤ 65536) : el.length * n ≤ reachBytes := by
  rcases h with h | h
  · have := h ((el.length + sp.length) * Tryz.prog.bytesOf e) (by simp [DataW.weights, ht])
    rw [hb] at this
    exact Nat.le_trans (Nat.mul_le_mul_right _ (Nat.le_add_right _ _)) this
  · have := bulkAll_len el
    simp only [Rows.uptoBulk] at h
    have h1 : el.length * n ≤ 1048576 * 65536 := Nat.mul_le_mul (by omega) hn
    exact Nat.le_trans h1 (by decide)
theorem open_rows {H : Type} {enc : TypeId × Value → H} {W : World} {base fuel : Nat} {v : Value} {y : DataW H × List MemPlace} {t e : TypeId} {n : Nat} (ht : Tryz.prog.underlying t = some (.slice e)) (hn : Tryz.prog.cellsOf e = n) (hn0 : 0 < n)
    {α : Type} (z : α) (cells : α → List Value) (good : α → DataW H → Prop)
    (hrd : ∀ fuel cs y, DataW.trod enc Tryz.prog W base (fun _ => true) true fuel e cs = some y → InReach e y.1 → ∃ x, cs = cells x ∧ good x y.1)
    (hf : DataW.trod enc Tryz.prog W base (fun _ => true) true fuel t [v] = some y) (hr : InReach t y.1) :
    ∃ (a : Option Addr) (cap : Nat) (xs : List α), v = .slice a xs.length cap ∧ xs.length ≤ cap ∧ xs.length ≤ 9223372036854775807 ∧ RowC z cells n W a xs ∧
      (xs = [] ∨ ∃ el sp, y.1 = .slice el sp ∧ el.length = xs.length ∧ ∀ i, i < xs.length → ∃ d, el[i]? = some d ∧ good (xs[i]?.getD z) d) := by
  rcases open_slice ht hf with ⟨e3, _⟩ | ⟨a, len, cap, m, n', D, Pl, e3, hb, hlc, hm, hmm, hxx, hel⟩
  · injection e3 with e3
    subst e3
    exact ⟨none, 0, [], rfl, by simp, by simp, fun i hi => by simp at hi, .inl rfl⟩
  · injection e3 with e3
    subst e3
    have hlm : len ≤ m := by rw [hmm]; split <;> omega
    have each : ∀ i, i < len → ∃ x : α, good x (D i) ∧ ∃ bb off, a = ⟨bb, off, none⟩ ∧ ∀ o u, (cells x)[o]? = some u → W.cell? ⟨bb, off + i * n + o, none⟩ = some u := by
      intro i hi
      obtain ⟨cs', hc, ht'⟩ := hel i (by omega)
      have hrD : InReach e (D i) := by
        rw [hxx] at hr
        exact hr.elem ht (List.mem_map.2 ⟨i, List.mem_range.2 hi, rfl⟩)
      obtain ⟨x, rfl, hg⟩ := hrd _ _ _ ht' hrD
      rw [hn] at hc
      obtain ⟨_, hl, hcell⟩ := World.cells?_some hc
      obtain ⟨bb, off, spot⟩ := a
      have hspot : spot = none := by
        obtain ⟨cs0, hc0, ht0⟩ := hel 0 (by omega)
        rw [hn] at hc0
        obtain ⟨_, hl0, hcell0⟩ := World.cells?_some hc0
        have h0 := hcell0 0 hn0
        cases hv0 : cs0[0]? with
        | none => rw [List.getElem?_eq_none_iff] at hv0; omega
        | some u =>
          rw [hv0] at h0
          have hs := World.cell?_spot h0
          clear hcell hcell0
          simpa [Addr.add] using hs
      subst hspot
      refine ⟨x, hg, bb, off, rfl, fun o u ho => ?_⟩
      have hol : o < n := by have := (List.getElem?_eq_some_iff.1 ho).1; omega
      have := hcell o hol
      rw [ho] at this
      simpa [Addr.add_lit, Nat.add_assoc] using this
    obtain ⟨f, hq⟩ := @choose_lt α ⟨z⟩ _ _ each
    have hnn : ∀ i, i < len → (((List.range len).map f)[i]?).getD z = f i := fun i hi => by simp [hi]
    refine ⟨some a, cap, (List.range len).map f, by simp, by simpa using hlc, by simp [maxLen] at hm ⊢; omega, fun i hi => ?_, .inr ⟨(List.range len).map D, (List.range (m - len)).map fun j => D (len + j), by rw [hxx], by simp, fun i hi => ?_⟩⟩
    · have hi' : i < len := by simpa using hi
      obtain ⟨hx, bb, off, e, c⟩ := hq i hi'
      rw [hnn i hi']
      exact ⟨bb, off, by rw [e], c⟩
    · have hi' : i < len := by simpa using hi
      rw [hnn i hi']
      exact ⟨D i, by simp [hi'], (hq i hi').1⟩
end Go.Proofs.YtofpaldolcnmiaaGreat
namespace Go.Proofs.YtofpaldolcnmiaaGreat.Ig
open Ys Go.ChangeShapes Go.WideShapes Go.ChangeAt Go.RowKit Go.Deep
abbrev rcs (m : Rg) : List Value := [.int .i64 m.k, .int .u64 m.x, .int .u32 m.c, .int .u32 m.s, .int .u32 m.h, .int .i64 m.oc, .int .u64 m.w, .int .u32 m.l, .int .u32 m.n, .slice m.ra m.rs.length m.rc, .slice m.wa m.ws.length m.wc, .string m.im]
theorem cells_str : Tryz.prog.cellsOf 9 = 1 := by kernel_rfl
theorem cells_bool : Tryz.prog.cellsOf 4 = 1 := by kernel_rfl
theorem cells_u64 : Tryz.prog.cellsOf 31 = 1 := by kernel_rfl
theorem cells_u32 : Tryz.prog.cellsOf 22 = 1 := by kernel_rfl
theorem cells_kind : Tryz.prog.cellsOf 30 = 1 := by kernel_rfl
theorem cells_outc : Tryz.prog.cellsOf 34 = 1 := by kernel_rfl
theorem cells_txn : Tryz.prog.cellsOf 33 = 2 := by kernel_rfl
theorem cells_stamp : Tryz.prog.cellsOf 36 = 3 := by kernel_rfl
theorem cells_spans : Tryz.prog.cellsOf 37 = 1 := by kernel_rfl
theorem cells_writes : Tryz.prog.cellsOf 38 = 1 := by kernel_rfl
theorem cells_recs : Tryz.prog.cellsOf 23 = 1 := by kernel_rfl
theorem cells_Span : Tryz.prog.cellsOf 126 = 2 := by kernel_rfl
theorem cells_Write : Tryz.prog.cellsOf 117 = 3 := by kernel_rfl
theorem cells_rec : Tryz.prog.cellsOf 40 = 12 := by kernel_rfl
theorem cells_log : Tryz.prog.cellsOf 25 = 3 := by kernel_rfl
theorem cells_int : Tryz.prog.cellsOf 3 = 1 := by kernel_rfl
theorem bytes_Span : Tryz.prog.bytesOf 126 = 32 := by kernel_rfl
theorem bytes_Write : Tryz.prog.bytesOf 117 = 40 := by kernel_rfl
theorem list2 {α : Type} {cs : List α} (h : cs.length = 2) : ∃ c0 c1, cs = [c0, c1] := by
  match cs, h with
  | [c0, c1], _ => exact ⟨c0, c1, rfl⟩
theorem list3 {α : Type} {cs : List α} (h : cs.length = 3) : ∃ c0 c1 c2, cs = [c0, c1, c2] := by
  match cs, h with
  | [c0, c1, c2], _ => exact ⟨c0, c1, c2, rfl⟩
theorem list9 {α : Type} {cs : List α} (h : cs.length = 9) : ∃ c0 c1 c2 c3 c4 c5 c6 c7 c8, cs = [c0, c1, c2, c3, c4, c5, c6, c7, c8] := by
  match cs, h with
  | [c0, c1, c2, c3, c4, c5, c6, c7, c8], _ => exact ⟨c0, c1, c2, c3, c4, c5, c6, c7, c8, rfl⟩
theorem list12 {α : Type} {cs : List α} (h : cs.length = 12) : ∃ c0 c1 c2 c3 c4 c5 c6 c7 c8 c9 c10 c11, cs = [c0, c1, c2, c3, c4, c5, c6, c7, c8, c9, c10, c11] := by
  match cs, h with
  | [c0, c1, c2, c3, c4, c5, c6, c7, c8, c9, c10, c11], _ => exact ⟨c0, c1, c2, c3, c4, c5, c6, c7, c8, c9, c10, c11, rfl⟩
section
variable {H : Type} {enc : TypeId × Value → H} {w : World} {base : Nat} {fuel : Nat} {cs : List Value} {y : DataW H × List MemPlace}
theorem trod_Span (h : DataW.trod enc Tryz.prog w base (fun _ => true) true fuel 126 cs = some y) : ∃ x : T2, cs = Lk.encS x := by
  obtain ⟨ys, n, _, rfl, hl, hlen, hf⟩ := DataW.trod_struct Tryz.underlying126 h
  rw [cells_Span] at hl
  obtain ⟨c0, c1, rfl⟩ := list2 hl
  obtain ⟨y0, y1, rfl⟩ := list2 (cs := ys) (by simpa using hlen)
  obtain ⟨s0, e0, _, _⟩ := DataW.trod_string Tryz.underlying9 (hf 0 _ rfl)
  obtain ⟨s1, e1, _, _⟩ := DataW.trod_string Tryz.underlying9 (hf 1 _ rfl)
  simp [cells_str] at e0 e1
  subst e0 e1
  exact ⟨(s0, s1), rfl⟩
theorem trod_Write (h : DataW.trod enc Tryz.prog w base (fun _ => true) true fuel 117 cs = some y) : ∃ x : Wr, cs = Lk.encW x := by
  obtain ⟨ys, n, _, rfl, hl, hlen, hf⟩ := DataW.trod_struct Tryz.underlying117 h
  rw [cells_Write] at hl
  obtain ⟨c0, c1, c2, rfl⟩ := list3 hl
  obtain ⟨y0, y1, y2, rfl⟩ := list3 (cs := ys) (by simpa using hlen)
  obtain ⟨s0, e0, _, _⟩ := DataW.trod_string Tryz.underlying9 (hf 0 _ rfl)
  obtain ⟨b1, e1, _⟩ := DataW.trod_bool Tryz.underlying4 (hf 1 _ rfl)
  obtain ⟨s2, e2, _, _⟩ := DataW.trod_string Tryz.underlying9 (hf 2 _ rfl)
  simp [cells_str, cells_bool] at e0 e1 e2
  subst e0 e1 e2
  exact ⟨⟨s0, b1, s2⟩, rfl⟩
theorem trod_txn (h : DataW.trod enc Tryz.prog w base (fun _ => true) true fuel 33 cs = some y) : ∃ a b : Int, cs = [.int .u32 a, .int .u32 b] ∧ okU 4294967295 a ∧ okU 4294967295 b := by
  obtain ⟨ys, n, _, rfl, hl, hlen, hf⟩ := DataW.trod_struct Tryz.underlying33 h
  rw [cells_txn] at hl
  obtain ⟨c0, c1, rfl⟩ := list2 hl
  obtain ⟨y0, y1, rfl⟩ := list2 (cs := ys) (by simpa using hlen)
  obtain ⟨s0, e0, _, w0⟩ := DataW.trod_int Tryz.underlying22 (hf 0 _ rfl)
  obtain ⟨s1, e1, _, w1⟩ := DataW.trod_int Tryz.underlying22 (hf 1 _ rfl)
  simp [cells_u32] at e0 e1
  subst e0 e1
  exact ⟨s0, s1, rfl, bounds_u32 w0, bounds_u32 w1⟩
theorem trod_st (h : DataW.trod enc Tryz.prog w base (fun _ => true) true fuel 36 cs = some y) : ∃ t : Vs.Sp, cs = [.int .u64 t.a, .int .u32 t.b, .int .u32 t.c] ∧ OkS t ∧ 4 ≤ Rows.uptoBulk y.1 := by
  obtain ⟨ys, n, _, rfl, hl, hlen, hf⟩ := DataW.trod_struct Tryz.underlying36 h
  rw [cells_stamp] at hl
  obtain ⟨c0, c1, c2, rfl⟩ := list3 hl
  obtain ⟨y0, y1, y2, rfl⟩ := list3 (cs := ys) (by simpa using hlen)
  obtain ⟨s0, e0, _, w0⟩ := DataW.trod_int Tryz.underlying31 (hf 0 _ rfl)
  obtain ⟨s1, e1, _, w1⟩ := DataW.trod_int Tryz.underlying22 (hf 1 _ rfl)
  obtain ⟨s2, e2, _, w2⟩ := DataW.trod_int Tryz.underlying22 (hf 2 _ rfl)
  simp [cells_u32, cells_u64] at e0 e1 e2
  subst e0 e1 e2
  refine ⟨⟨s0, s1, s2⟩, rfl, ⟨bounds_u64 w0, bounds_u32 w1, bounds_u32 w2⟩, ?_⟩
  have h0 := bulk_pos y0.1
  have h1 := bulk_pos y1.1
  have h2 := bulk_pos y2.1
  simp only [List.map_cons, List.map_nil, Rows.uptoBulk, Rows.uptoBulkAll]
  omega
theorem Span_cell {v : Value} (hf : DataW.trod enc Tryz.prog w base (fun _ => true) true fuel 37 [v] = some y) (hr : InReach 37 y.1) :
    ∃ (a : Option Addr) (cap : Nat) (xs : List T2), v = .slice a xs.length cap ∧ Row2 w a xs ∧ xs.length + 1 ≤ 8796093022208 := by
  obtain ⟨a, cap, xs, rfl, _, _, hrow, hel⟩ := open_rows Tryz.underlying37 cells_Span (by decide) ((⟨#[]⟩, ⟨#[]⟩) : T2) Lk.encS (fun _ _ => True) (fun _ _ _ h _ => by obtain ⟨x, e⟩ := trod_Span h; exact ⟨x, e, trivial⟩) hf hr
  refine ⟨a, cap, xs, rfl, fun i hi => ?_, ?_⟩
  · obtain ⟨b, off, e, hc⟩ := hrow i hi
    exact ⟨b, off, e, hc 0 _ rfl, hc 1 _ rfl⟩
  · rcases hel with rfl | ⟨el, sp, e1, e2, _⟩
    · simp
    · rw [e1] at hr
      have := hr.len Tryz.underlying37 bytes_Span (by decide)
      rw [e2] at this
      simp only [reachBytes] at this
      omega
theorem Write_cell {v : Value} (hf : DataW.trod enc Tryz.prog w base (fun _ => true) true fuel 38 [v] = some y) (hr : InReach 38 y.1) :
    ∃ (a : Option Addr) (cap : Nat) (xs : List Wr), v = .slice a xs.length cap ∧ RowW w a xs ∧ xs.length + 1 ≤ 7036874417766 := by
  obtain ⟨a, cap, xs, rfl, _, _, hrow, hel⟩ := open_rows Tryz.underlying38 cells_Write (by decide) (⟨⟨#[]⟩, false, ⟨#[]⟩⟩ : Wr) Lk.encW (fun _ _ => True) (fun _ _ _ h _ => by obtain ⟨x, e⟩ := trod_Write h; exact ⟨x, e, trivial⟩) hf hr
  refine ⟨a, cap, xs, rfl, fun i hi => ?_, ?_⟩
  · obtain ⟨b, off, e, hc⟩ := hrow i hi
    exact ⟨b, off, e, hc 0 _ rfl, hc 1 _ rfl, hc 2 _ rfl⟩
  · rcases hel with rfl | ⟨el, sp, e1, e2, _⟩
    · simp
    · rw [e1] at hr
      have := hr.len Tryz.underlying38 bytes_Write (by decide)
      rw [e2] at this
      simp only [reachBytes] at this
      omega
set_option maxRecDepth 100000 in
theorem trod_Rec (h : DataW.trod enc Tryz.prog w base (fun _ => true) true fuel 40 cs = some y) (hr : InReach 40 y.1) : ∃ r : Rg, cs = rcs r ∧ RgL w r ∧ 13 ≤ Rows.uptoBulk y.1 := by
  obtain ⟨ys, n, _, rfl, hl, hlen, hfld⟩ := DataW.trod_struct Tryz.underlying40 h
  rw [cells_rec] at hl
  obtain ⟨c0, c1, c2, c3, c4, c5, c6, c7, c8, c9, c10, c11, rfl⟩ := list12 hl
  obtain ⟨y0, y1, y2, y3, y4, y5, y6, y7, y8, rfl⟩ := list9 (cs := ys) (by simpa using hlen)
  obtain ⟨a0, e0, _, _⟩ := DataW.trod_int Tryz.underlying30 (hfld 0 _ rfl)
  obtain ⟨a1, e1, _, w1⟩ := DataW.trod_int Tryz.underlying31 (hfld 1 _ rfl)
  obtain ⟨a2, a3, e2, hc, hs⟩ := trod_txn (hfld 2 _ rfl)
  obtain ⟨a4, e4, _, w4⟩ := DataW.trod_int Tryz.underlying22 (hfld 3 _ rfl)
  obtain ⟨a5, e5, _, _⟩ := DataW.trod_int Tryz.underlying34 (hfld 4 _ rfl)
  obtain ⟨t, e6, hst, hb5⟩ := trod_st (hfld 5 _ rfl)
  obtain ⟨s8, e8, _, _⟩ := DataW.trod_string Tryz.underlying9 (hfld 8 _ rfl)
  have s6 : ([c0, c1, c2, c3, c4, c5, c6, c7, c8, c9, c10, c11].drop 9).take (Tryz.prog.cellsOf 37) = [c9] := by rw [cells_spans]; rfl
  have s7 : ([c0, c1, c2, c3, c4, c5, c6, c7, c8, c9, c10, c11].drop 10).take (Tryz.prog.cellsOf 38) = [c10] := by rw [cells_writes]; rfl
  have g6 : DataW.trod enc Tryz.prog w base (fun _ => true) true n 37 [c9] = some y6 := by rw [← s6]; exact hfld 6 _ rfl
  have g7 : DataW.trod enc Tryz.prog w base (fun _ => true) true n 38 [c10] = some y7 := by rw [← s7]; exact hfld 7 _ rfl
  obtain ⟨ra, rc, rs, rfl, hR, hrl⟩ := Span_cell g6 (InReach.part (ps := [y0.1, y1.1, y2.1, y3.1, y4.1, y5.1, y6.1, y7.1, y8.1]) hr Tryz.underlying40 (j := 6) rfl rfl)
  obtain ⟨wa, wc, ws, rfl, hW, hwl⟩ := Write_cell g7 (InReach.part (ps := [y0.1, y1.1, y2.1, y3.1, y4.1, y5.1, y6.1, y7.1, y8.1]) hr Tryz.underlying40 (j := 7) rfl rfl)
  have HBK : 13 ≤ Rows.uptoBulk (DataW.agg [y0.1, y1.1, y2.1, y3.1, y4.1, y5.1, y6.1, y7.1, y8.1]) := by
    have h0 := bulk_pos y0.1
    have h1 := bulk_pos y1.1
    have h2 := bulk_pos y2.1
    have h3 := bulk_pos y3.1
    have h4 := bulk_pos y4.1
    have h6 := bulk_pos y6.1
    have h7 := bulk_pos y7.1
    have h8 := bulk_pos y8.1
    simp only [Rows.uptoBulk, Rows.uptoBulkAll]
    omega
  simp [cells_kind, cells_u64, cells_u32, cells_outc, cells_txn, cells_stamp, cells_str] at e0 e1 e2 e4 e5 e6 e8
  obtain ⟨e2, e3⟩ := e2
  obtain ⟨e6, e7, e9⟩ := e6
  subst e0 e1 e2 e3 e4 e5 e6 e7 e8 e9
  exact ⟨⟨a0, a1, a2, a3, a4, a5, t.a, t.b, t.c, ra, rs, rc, wa, ws, wc, s8⟩, rfl, ⟨⟨hR, hW, by show rs.length ≤ _; omega, by show ws.length ≤ _; omega, hs.1, hst.a⟩, ⟨bounds_u64 w1, hst⟩, ⟨hc, hs, bounds_u32 w4⟩, hrl, hwl⟩, HBK⟩
theorem sum_const {α : Type} (c : Nat) : ∀ l : List α, (l.map (fun _ => c)).sum = c * l.length
  | [] => by simp
  | x :: l => by
    have := sum_const c l
    rw [List.map_cons, List.sum_cons, List.length_cons, Nat.mul_add, this]
    omega
theorem Rec_cell {v : Value} (hf : DataW.trod enc Tryz.prog w base (fun _ => true) true fuel 23 [v] = some y) (hr : InReach 23 y.1) (hk : Rows.uptoBulk y.1 ≤ 1048576) :
    ∃ (a : Option Addr) (cap : Nat) (xs : List Rg), v = .slice a xs.length cap ∧ RowL w a xs ∧ xs.length ≤ 92000 := by
  obtain ⟨a, cap, xs, rfl, _, _, hrow, hel⟩ := open_rows Tryz.underlying23 cells_rec (by decide) Rg.zero rcs (fun r d => RgL w r ∧ 13 ≤ Rows.uptoBulk d) (fun _ _ _ h k => trod_Rec h k) hf hr
  refine ⟨a, cap, xs, rfl, fun i r hr' => ?_, ?_⟩
  · have hi : i < xs.length := (List.getElem?_eq_some_iff.1 hr').1
    obtain ⟨b, off, e, hc⟩ := hrow i hi
    rw [hr'] at hc
    refine ⟨⟨b, off, e, hc 0 _ rfl, hc 1 _ rfl, hc 2 _ rfl, hc 3 _ rfl, hc 4 _ rfl, hc 5 _ rfl, hc 6 _ rfl, hc 7 _ rfl, hc 8 _ rfl, hc 9 _ rfl, hc 10 _ rfl, hc 11 _ rfl⟩, ?_⟩
    rcases hel with rfl | ⟨el, sp, _, _, e3⟩
    · simp at hi
    · obtain ⟨d, _, hg⟩ := e3 i hi
      rw [hr'] at hg
      exact hg.1
  · rcases hel with rfl | ⟨el, sp, e1, e2, e3⟩
    · simp
    · rw [e1] at hk
      have h1 := bulkAll_sum Rg.zero (fun _ => 13) (el := el) (xs := xs) e2 (fun i hi => by
        obtain ⟨d, hd, hg⟩ := e3 i hi
        exact ⟨d, hd, hg.2⟩)
      rw [sum_const] at h1
      simp only [Rows.uptoBulk] at hk
      omega
end
set_option maxRecDepth 100000 in
theorem open_log {H : Type} {enc : TypeId × Value → H} {W : World} {r : Reach} {b : Nat} {v : Value} {d : DataW H} {p : List MemPlace}
    (hv : Value.okWide Tryz.prog W r b 25 v) (h : DataW.Trod enc Tryz.prog W 0 (fun _ => true) true 25 v d p) (hk : Rows.uptoBulk d ≤ 1048576) :
    ∃ x : Lx, v = x.val ∧ RowL W x.la x.ls ∧ x.ls.length ≤ 92000 ∧ okU 4294967295 x.node ∧ (-9223372036854775808 ≤ x.cut ∧ x.cut ≤ 9223372036854775807) := by
  obtain ⟨cs, rfl, hs⟩ := okWide_struct Tryz.underlying25 hv
  obtain ⟨fuel, hf⟩ := h
  obtain ⟨ys, n, hfu, hd, hl, hlen, hfld⟩ := DataW.trod_struct Tryz.underlying25 hf
  rw [cells_log] at hl
  obtain ⟨cs⟩ := cs
  simp only [Value.cells] at hl hfld
  obtain ⟨c0, c1, c2, rfl⟩ := list3 hl
  obtain ⟨y0, y1, y2, rfl⟩ := list3 (cs := ys) (by simpa using hlen)
  have hd1 : d = .agg [y0.1, y1.1, y2.1] := by injection hd
  rw [hd1] at hk
  simp only [Rows.uptoBulk, Rows.uptoBulkAll] at hk
  obtain ⟨a0, e0, _, w0⟩ := DataW.trod_int Tryz.underlying22 (hfld 0 _ rfl)
  obtain ⟨a2, e2, _, w2⟩ := DataW.trod_int Tryz.underlying3 (hfld 2 _ rfl)
  have s1 : ([c0, c1, c2].drop 1).take (Tryz.prog.cellsOf 23) = [c1] := by rw [cells_recs]; rfl
  have g1 : DataW.trod enc Tryz.prog W 0 (fun _ => true) true n 23 [c1] = some y1 := by rw [← s1]; exact hfld 1 _ rfl
  have k1 : Rows.uptoBulk y1.1 ≤ 1048576 := by omega
  obtain ⟨la, lc, ls, rfl, hL, hll⟩ := Rec_cell g1 (.inr k1) k1
  simp [cells_u32, cells_int] at e0 e2
  subst e0 e2
  exact ⟨⟨a0, la, ls, lc, a2⟩, rfl, hL, hll, bounds_u32 w0, bounds_i64 w2⟩
end Go.Proofs.YtofpaldolcnmiaaGreat.Ig
namespace Go.Proofs.YtofpaldolcnmiaaGreat.Lg
open Go.RowKit Go.Sort Lk
theorem len_is {w : World} {p oo : Nat} {ty : TypeId} {m : Option Nat} {M : List En} (T : LgO w p oo ty m M) :
    Calls Tryz.prog 143 #[.pointer (some ⟨p, oo, none⟩)] w fun r w' => r = .returned (goInt M.length) ∧ w' = w := by
  have c0 := T.c0
  have hl : ∀ ty, (Builtin.len_ #[84] ty #[.map m]).run Tryz.prog w = .ok (goInt M.length) w := fun ty => by
    have := T.ents.len (P := Tryz.prog) Tryz.underlying84 ty
    simpa using this
  go_enter Tryz.func143, Tryz.ntmps143
  go_wp2_with fail
  go_ret
  exact ⟨rfl, rfl⟩
end Go.Proofs.YtofpaldolcnmiaaGreat.Lg
namespace Go.Proofs.YtofpaldolcnmiaaGreat.Ys
open Go.RowKit Go.Sort
theorem St.again {F : Nat → Prop} {w : World} {q p : Nat} {m1 m2 m : Option Nat} {V : List Lk.Hv} {I : Lk.It} {s : Ps} (T : St F w q m1 m2 m V I s) (hp : w.heap[p]? = w.heap[q]?) : St (fun b => b = p ∨ F b) w p m1 m2 m V I s := by
  obtain ⟨root, hob⟩ := T.obj
  have hob' := hp.trans hob
  refine ⟨⟨root, hob'⟩, ?_, ?_, ?_, T.h, T.ty, T.dm⟩
  · obtain ⟨cs, h1, h2⟩ := T.tb.obj
    exact ⟨⟨cs, hp.trans h1, h2⟩, bare13 hob', T.tb.held, T.tb.ints, T.tb.rows, T.tb.ok, T.tb.nil, T.tb.ne⟩
  · obtain ⟨cs, h1, h2⟩ := T.lg.obj
    exact ⟨⟨cs, hp.trans h1, h2⟩, T.lg.ents⟩
  · obtain ⟨x, hx, ex⟩ := T.st
    refine ⟨x, ⟨?_, hx.ty, ?_, hx.row, hx.apart, hx.good, .inl rfl, fun e he => .inr (hx.fr e he), ?_⟩, ex⟩
    · obtain ⟨cs, h1, h2⟩ := hx.obj
      exact ⟨cs, hp.trans h1, h2⟩
    · obtain ⟨Tr, cs, t, h1, h2⟩ := hx.xi
      exact ⟨Tr, cs, t, hp.trans h1, h2⟩
    · rintro b (rfl | hb)
      · exact ⟨_, _, _, hob', .inl rfl⟩
      · exact hx.own b hb
theorem empty_yes {F : Nat → Prop} {w : World} {p : Nat} {m1 m2 m : Option Nat} {V : List Lk.Hv} {I : Lk.It} {n : Int} (T : St F w p m1 m2 m V I (zero n)) :
    Calls Tryz.prog 72 #[.pointer (some ⟨p, 1, none⟩)] w fun e w' => e = .returned (.bool true) ∧ Below w.heap.size w w' := by
  have c1 : w.cell? ⟨p, 1, none⟩ = some (.int .u64 0) := T.cell fun _ => rfl
  have hV : V = [] := List.map_eq_nil_iff.1 T.h
  have W1 := hid (Vs.wmark_is T.st)
  have W2 : Hid (∀ W, Below w.heap.size w W → Calls Tryz.prog 142 #[.pointer (some ⟨p, 2, none⟩)] W fun e w' => e = .returned (.int .i64 0) ∧ Below w.heap.size w w') := hid fun W hb => by
    refine (Lk.len_is (T.later hb).tb).mono ?_
    rintro e w' ⟨h1, h2⟩
    exact ⟨by rw [h1, hV]; rfl, Below.on hb h2⟩
  have W3 : Hid (∀ W, Below w.heap.size w W → Calls Tryz.prog 143 #[.pointer (some ⟨p, 4, none⟩)] W fun e w' => e = .returned (.int .i64 0) ∧ Below w.heap.size w w') := hid fun W hb => by
    refine (Lg.len_is (T.later hb).lg).mono ?_
    rintro e w' ⟨h1, h2⟩
    exact ⟨by rw [h1]; rfl, by rw [h2]; exact hb⟩
  have W4 : Hid (∀ W, Below w.heap.size w W → Calls Tryz.prog 144 #[.pointer (some ⟨p, 5, none⟩)] W fun e w' => e = .returned (.int .i64 0) ∧ Below w.heap.size w w') := hid fun W hb => by
    refine (Vs.stolen_is (T.later hb).st (by simp [Vs.countM])).mono ?_
    rintro e w' ⟨h1, h2⟩
    exact ⟨by rw [h1]; simp [Vs.countM], Below.on hb h2⟩
  clear T hV
  go_enter Tryz.func72, Tryz.ntmps72
  go_wp2_with fail
  refine W1.out.mono ?_
  rintro e w1 ⟨rfl, hb1⟩
  have q2 := hid (W2.out w1 hb1)
  clear W1
  go_wp2_with fail
  refine q2.out.mono ?_
  rintro e w2 ⟨rfl, hb2⟩
  have q3 := hid (W3.out w2 hb2)
  clear q2
  go_wp2_with fail
  refine q3.out.mono ?_
  rintro e w3 ⟨rfl, hb3⟩
  have q4 := hid (W4.out w3 hb3)
  clear q3
  go_wp2_with fail
  refine q4.out.mono ?_
  rintro e w4 ⟨rfl, hb4⟩
  go_wp2_with fail
  go_ret
  exact ⟨rfl, hb4⟩
theorem heap_put12 {w : World} {p : Nat} {t : TypeId} {z : Nat × Nat} {a0 a1 a2 a3 a4 a5 a6 a7 a8 a9 a10 a11 a12 : Value} (h : w.heap[p]? = some (.cells #[a0, a1, a2, a3, a4, a5, a6, a7, a8, a9, a10, a11, a12] t z)) (v1 v2 v3 v4 v5 v6 v7 v8 v9 v10 v11 v12 : Value) :
    ((((((((((((w.setCell ⟨p, 1, none⟩ v1).setCell ⟨p, 2, none⟩ v2).setCell ⟨p, 3, none⟩ v3).setCell ⟨p, 4, none⟩ v4).setCell ⟨p, 5, none⟩ v5).setCell ⟨p, 6, none⟩ v6).setCell ⟨p, 7, none⟩ v7).setCell ⟨p, 8, none⟩ v8).setCell ⟨p, 9, none⟩ v9).setCell ⟨p, 10, none⟩ v10).setCell ⟨p, 11, none⟩ v11).setCell ⟨p, 12, none⟩ v12).heap[p]? = some (.cells #[a0, v1, v2, v3, v4, v5, v6, v7, v8, v9, v10, v11, v12] t z) := by
  have h1 : _ = some (Obj.cells #[a0, v1, a2, a3, a4, a5, a6, a7, a8, a9, a10, a11, a12] t z) := heap_put (o := 1) v1 h
  have h2 : _ = some (Obj.cells #[a0, v1, v2, a3, a4, a5, a6, a7, a8, a9, a10, a11, a12] t z) := heap_put (o := 2) v2 h1
  have h3 : _ = some (Obj.cells #[a0, v1, v2, v3, a4, a5, a6, a7, a8, a9, a10, a11, a12] t z) := heap_put (o := 3) v3 h2
  have h4 : _ = some (Obj.cells #[a0, v1, v2, v3, v4, a5, a6, a7, a8, a9, a10, a11, a12] t z) := heap_put (o := 4) v4 h3
  have h5 : _ = some (Obj.cells #[a0, v1, v2, v3, v4, v5, a6, a7, a8, a9, a10, a11, a12] t z) := heap_put (o := 5) v5 h4
  have h6 : _ = some (Obj.cells #[a0, v1, v2, v3, v4, v5, v6, a7, a8, a9, a10, a11, a12] t z) := heap_put (o := 6) v6 h5
  have h7 : _ = some (Obj.cells #[a0, v1, v2, v3, v4, v5, v6, v7, a8, a9, a10, a11, a12] t z) := heap_put (o := 7) v7 h6
  have h8 : _ = some (Obj.cells #[a0, v1, v2, v3, v4, v5, v6, v7, v8, a9, a10, a11, a12] t z) := heap_put (o := 8) v8 h7
  have h9 : _ = some (Obj.cells #[a0, v1, v2, v3, v4, v5, v6, v7, v8, v9, a10, a11, a12] t z) := heap_put (o := 9) v9 h8
  have h10 : _ = some (Obj.cells #[a0, v1, v2, v3, v4, v5, v6, v7, v8, v9, v10, a11, a12] t z) := heap_put (o := 10) v10 h9
  have h11 : _ = some (Obj.cells #[a0, v1, v2, v3, v4, v5, v6, v7, v8, v9, v10, v11, a12] t z) := heap_put (o := 11) v11 h10
  have h12 : _ = some (Obj.cells #[a0, v1, v2, v3, v4, v5, v6, v7, v8, v9, v10, v11, v12] t z) := heap_put (o := 12) v12 h11
  exact h12
set_option maxHeartbeats 4000000 in
theorem replace_yes {F : Nat → Prop} {w : World} {p : Nat} {m1 m2 m : Option Nat} {V : List Lk.Hv} {I : Lk.It} {n : Int} {s : Ps} {bs : List Nat} (T : St F w p m1 m2 m V I (zero n)) (r : Rg) (hb : B8 bs) (hl : bs.length ≤ 1099511627776) (ht : Ig.takeP n (.at bs) = some s) (hi : Ig.ImOk s) (he : Ig.imgB s = bs) (hn : s.node = n) (hr : r.im = ofNats bs) :
    Calls Tryz.prog 35 #[sp p, r.val] w fun e w' => e = .returned (.int .i64 0) ∧ Hid ((∃ F' m1' m2' m' V' I', St F' w' p m1' m2' m' V' I' s ∧ ∀ b, F' b ∨ Bm p m1' m2' m' b → b = p ∨ w.heap.size ≤ b) ∧ Onl (fun b => b = p) w w') := by
  obtain ⟨wx, hwx⟩ : ∃ wx, wx = w.alloc (.cells r.cells 40) := ⟨_, rfl⟩
  have hbx : Below w.heap.size w wx := by rw [hwx]; exact Below.al (Below.refl _ _) _
  have BX : BoxG wx w.heap.size r := by rw [hwx]; exact boxG w r _
  have EM := hid (empty_yes (T.later hbx))
  have hpl : p < w.heap.size := T.lt
  have HT := hid (T.later hbx)
  have HBX := hid hbx
  obtain ⟨S, hS⟩ : ∃ S, r.im = S := ⟨_, rfl⟩
  have X11 : Hid (wx.cell? ⟨w.heap.size, 11, none⟩ = some (.string S)) := by rw [← hS]; exact hid BX.c11
  have LD : Hid (∀ W, Calls Tryz.prog 9 #[.int .u32 n, .string S] W fun e w' => e = .returned (.tuple #[.pointer (some ⟨W.heap.size, 0, none⟩), .int .i64 0]) ∧ Hid (Sta W.heap.size w' W.heap.size s) ∧ Hid (Below W.heap.size W w')) := by
    rw [← hS, hr]
    exact hid fun W => Ig.Load_yes hb hl ht hi he
  have HN := hid hn
  clear T hbx BX hb hl ht hi he hn hr hS
  go_enter Tryz.func35, Tryz.ntmps35
  go_wp2_with fail
  rw [← hwx]
  clear hwx
  refine EM.out.mono ?_
  rintro e w2 ⟨rfl, hb2⟩
  have HT2 := hid (HT.out.later hb2)
  have HB2 := hid (Below.on HBX.out hb2)
  have x11 := cell_later hb2 X11.out
  have p0 : w2.cell? ⟨p, 0, none⟩ = some (.int .u32 n) := HT2.out.cell fun _ => rfl
  clear hb2 EM HT X11 HBX
  go_upto_region 3 with fail
  go_cut [5, 6] (fun s5 s6 wz => ∃ q : Nat, s5 = sp q ∧ s6 = .int .i64 0 ∧ Hid (w2.heap.size ≤ q ∧ Sta w2.heap.size wz q s ∧ Below w2.heap.size w2 wz))
  case first =>
    go_region_held3 (fun w' => w'.cell? ⟨p, 0, none⟩ = some (.int .u32 n) ∧ w'.cell? ⟨w.heap.size, 11, none⟩ = some (.string S) ∧ Below w2.heap.size w2 w')
      ((refine (fun (hB : Below w2.heap.size w2 _) => ⟨cell_later hB p0, cell_later hB x11, hB⟩) ?_; (repeat (first | with_reducible exact Below.refl _ _ | with_reducible assumption | with_reducible refine Below.drew ?_ | with_reducible refine Below.al ?_ _ | with_reducible refine Below.setCell ?_ (by first | exact Nat.le_refl _ | (simp; omega) | (simp; done)) _ | with_reducible refine Below.on ?_ (by assumption)))))
      ((go_at_call 9; refine (LD.out _).mono ?_; rintro e w3 ⟨rfl, HT3, HB3⟩; have hb3 := HB3.out))
    all_goals (try go_wp2_with fail)
    all_goals go_meet
    all_goals exact ⟨w2.heap.size, rfl, rfl, hid ⟨Nat.le_refl _, HT3.out.later (by (repeat (first | with_reducible exact Below.refl _ _ | with_reducible assumption | with_reducible refine Below.drew ?_ | with_reducible refine Below.al ?_ _ | with_reducible refine Below.setCell ?_ (by first | exact Nat.le_refl _ | (simp; omega) | (simp; done)) _ | with_reducible refine Below.on ?_ (by assumption)))), (show Below w2.heap.size w2 w3 from HB3.out.mono (Nat.le_refl _) |> fun h => ⟨h.os, h.tape, h.output, h.size, h.block⟩)⟩⟩
  case rest =>
    obtain ⟨q, rfl, rfl, HQ⟩ := hcut
    obtain ⟨hq, ⟨F', k1, k2, k, V', I', T', hf⟩, hbz⟩ := HQ.out
    obtain ⟨root, hob⟩ := T'.obj
    have q1 := Vs.cell_of_obj (o := 1) hob rfl
    have q2 := Vs.cell_of_obj (o := 2) hob rfl
    have q3 := Vs.cell_of_obj (o := 3) hob rfl
    have q4 := Vs.cell_of_obj (o := 4) hob rfl
    have q5 := Vs.cell_of_obj (o := 5) hob rfl
    have q6 := Vs.cell_of_obj (o := 6) hob rfl
    have q7 := Vs.cell_of_obj (o := 7) hob rfl
    have q8 := Vs.cell_of_obj (o := 8) hob rfl
    have q9 := Vs.cell_of_obj (o := 9) hob rfl
    have q10 := Vs.cell_of_obj (o := 10) hob rfl
    have q11 := Vs.cell_of_obj (o := 11) hob rfl
    have q12 := Vs.cell_of_obj (o := 12) hob rfl
    obtain ⟨root0, hp0⟩ := (HT2.out.later hbz).obj
    have p1 := Vs.cell_of_obj (o := 1) hp0 rfl
    have p2 := Vs.cell_of_obj (o := 2) hp0 rfl
    have p3 := Vs.cell_of_obj (o := 3) hp0 rfl
    have p4 := Vs.cell_of_obj (o := 4) hp0 rfl
    have p5 := Vs.cell_of_obj (o := 5) hp0 rfl
    have p6 := Vs.cell_of_obj (o := 6) hp0 rfl
    have p7 := Vs.cell_of_obj (o := 7) hp0 rfl
    have p8 := Vs.cell_of_obj (o := 8) hp0 rfl
    have p9 := Vs.cell_of_obj (o := 9) hp0 rfl
    have p10 := Vs.cell_of_obj (o := 10) hp0 rfl
    have p11 := Vs.cell_of_obj (o := 11) hp0 rfl
    have p12 := Vs.cell_of_obj (o := 12) hp0 rfl
    have pf : ∀ j, wc.frozen? ⟨p, j, none⟩ = false := fun j => frozen_of_row wc p j _ _ hp0
    have HP0 := hid hp0
    have HOB := hid hob
    have HT' := hid T'
    have HF := hid hf
    have HBZ := hid hbz
    clear hp0 hob T' hf hbz HQ
    go_wp2_with fail
    obtain ⟨w4, hw4⟩ : ∃ w4, w4 = ((((((((((((wc.setCell ⟨p, 1, none⟩ (.int .u64 s.ceil)).setCell ⟨p, 2, none⟩ (.map k1)).setCell ⟨p, 3, none⟩ (.map k2)).setCell ⟨p, 4, none⟩ (.map k)).setCell ⟨p, 5, none⟩ (.pointer root)).setCell ⟨p, 6, none⟩ (.int .u64 s.wm.a)).setCell ⟨p, 7, none⟩ (.int .u32 s.wm.b)).setCell ⟨p, 8, none⟩ (.int .u32 s.wm.c)).setCell ⟨p, 9, none⟩ (.bool s.cm)).setCell ⟨p, 10, none⟩ (.int .u64 s.lc.a)).setCell ⟨p, 11, none⟩ (.int .u32 s.lc.b)).setCell ⟨p, 12, none⟩ (.int .u32 s.lc.c)) := ⟨_, rfl⟩
    have kp : w4.heap[p]? = some (.cells (scs s k1 k2 k root) SS (0, 0)) := by
      rw [hw4]
      have h := heap_put12 HP0.out (.int .u64 s.ceil) (.map k1) (.map k2) (.map k) (.pointer root) (.int .u64 s.wm.a) (.int .u32 s.wm.b) (.int .u32 s.wm.c) (.bool s.cm) (.int .u64 s.lc.a) (.int .u32 s.lc.b) (.int .u32 s.lc.c)
      rw [show (zero n).node = s.node from HN.out.symm] at h
      exact h
    have ho : Onl (fun b => b = p) wc w4 := by
      rw [hw4]
      repeat (first | with_reducible exact Onl.refl _ _ | with_reducible refine Onl.set ?_ (p := p) (F := fun b => b = p) (by rfl) _ _)
    have hs2 : w.heap.size ≤ w2.heap.size := HB2.out.size
    have hnp : ∀ b, F' b ∨ Bm q k1 k2 k b → ¬ b = p := fun b hb e => by have := HF.out b hb; omega
    have T4 : St F' w4 q k1 k2 k V' I' s := St.far HT'.out ho (fun b e cs t z hc => by
      subst e
      rw [HP0.out] at hc
      injection hc with hc
      injection hc with _ e _
      exact .inl e.symm) hnp
    have kq : w4.heap[q]? = some (.cells (scs s k1 k2 k root) SS (0, 0)) := (ho.block q HT'.out.lt (hnp q (.inr (.inl rfl)))).trans HOB.out
    have T5 := T4.again (kp.trans kq.symm)
    have HO := hid ((Onl.of_below (Below.on HB2.out HBZ.out) : Onl (fun b => b = p) w wc).trans ho)
    have HT5 := hid T5
    have HF5 : Hid (∀ b, (b = p ∨ F' b) ∨ Bm p k1 k2 k b → b = p ∨ w.heap.size ≤ b) := hid fun b hb => by
      rcases hb with (hb | hb) | hb | hb
      · exact .inl hb
      · exact .inr (Nat.le_trans hs2 (HF.out b (.inl hb)))
      · exact .inl hb
      · exact .inr (Nat.le_trans hs2 (HF.out b (.inr (.inr hb))))
    rw [← hw4]
    clear hw4 kp ho T4 kq T5 q1 q2 q3 q4 q5 q6 q7 q8 q9 q10 q11 q12 p1 p2 p3 p4 p5 p6 p7 p8 p9 p10 p11 p12 pf
    go_ret
    exact ⟨rfl, hid ⟨⟨_, k1, k2, k, V', I', HT5.out, HF5.out⟩, HO.out⟩⟩
end Go.Proofs.YtofpaldolcnmiaaGreat.Ys
namespace Go.Proofs.YtofpaldolcnmiaaGreat.Ys
open Go.RowKit Go.Sort
set_option maxHeartbeats 1000000 in
theorem apply_img {F : Nat → Prop} {w : World} {p : Nat} {m1 m2 m : Option Nat} {V : List Lk.Hv} {I : Lk.It} {s : Ps} (T : St F w p m1 m2 m V I s) (r : Rg) (hr : r.ok w) (he : r.err = 0) (hk : r.k = 5) {n : Int} {t : Ps} {bs : List Nat} (hz : s = zero n) (hB : B8 bs) (hl : bs.length ≤ 1099511627776) (ht : Ig.takeP n (.at bs) = some t) (hi : Ig.ImOk t) (hm : Ig.imgB t = bs) (hn : t.node = n) (him : r.im = ofNats bs) :
    Calls Tryz.prog 7 #[sp p, r.val] w fun e w' => e = .returned (.int .i64 (0)) ∧ Aft2 F w p m1 m2 m (t) w' := by
  obtain ⟨wx, hwx⟩ : ∃ wx, wx = w.alloc (.cells r.cells 40) := ⟨_, rfl⟩
  have hbx : Below w.heap.size w wx := by rw [hwx]; exact Below.al (Below.refl _ _) _
  have BX : BoxG wx w.heap.size r := by rw [hwx]; exact boxG w r _
  have VA := hid (walvalid_is wx r (hr.later hbx))
  rw [he] at VA
  have HX := hid BX
  have HT := hid (T.later hbx)
  have HBX := hid hbx
  have HK := hid hk
  have HNI : Hid (¬ (fun b => F b ∨ Bm p m1 m2 m b) w.heap.size) := hid fun h => by have := T.all h; omega
  have RU : Hid (∀ W, Below wx.heap.size wx W → Calls Tryz.prog 35 #[.pointer (some ⟨p, 0, none⟩), .agg #[.int .i64 5, .int .u64 r.x, .int .u32 r.c, .int .u32 r.s, .int .u32 r.h, .int .i64 r.oc, .int .u64 r.w, .int .u32 r.l, .int .u32 r.n, .slice r.ra r.rs.length r.rc, .slice r.wa r.ws.length r.wc, .string r.im]] W fun e w' => e = .returned (.int .i64 (0)) ∧ Hid ((Aft2 F w p m1 m2 m (t) w') ∧ Onl (fun b => F b ∨ Bm p m1 m2 m b) W w')) := hid fun W hb => by
    have hBW := Below.on hbx hb
    have := replace_yes (by rw [hz] at HT; exact HT.out.later hb) r hB hl ht hi hm hn him
    rw [show r.val = .agg #[.int .i64 5, .int .u64 r.x, .int .u32 r.c, .int .u32 r.s, .int .u32 r.h, .int .i64 r.oc, .int .u64 r.w, .int .u32 r.l, .int .u32 r.n, .slice r.ra r.rs.length r.rc, .slice r.wa r.ws.length r.wc, .string r.im] from by simp [hk]] at this
    refine this.mono ?_
    rintro e w' ⟨he, h2⟩
    obtain ⟨⟨F', m1', m2', m', V', I', T', hf⟩, ho⟩ := h2.out
    have h9 : Onl (fun b => F b ∨ Bm p m1 m2 m b) W w' := ho.mono fun b e => .inr (.inl e)
    exact ⟨he, hid ⟨⟨F', m1', m2', m', V', I', T', fun b hb' => (hf b hb').elim (fun e => .inl (.inr (.inl e))) (fun h => .inr (Nat.le_trans hBW.size h)), (Onl.of_below hBW).trans h9⟩, h9⟩⟩
  clear T hr he hbx BX hk hz hB hl ht hi hm hn him
  go_enter Tryz.func7, Tryz.ntmps7
  go_wp2_with fail
  rw [← hwx]
  clear hwx
  refine VA.out.mono ?_
  rintro e w2 ⟨rfl, hb2⟩
  obtain ⟨w3, hw3⟩ : ∃ w3, w3 = w2.alloc (.cells #[.nilFunc, .func (.func 31) #[] #[], .func (.func 32) #[] #[], .func (.func 33) #[] #[], .func (.func 34) #[] #[], .func (.func 35) #[] #[]] 69) := ⟨_, rfl⟩
  have hb3 : Below wx.heap.size wx w3 := by rw [hw3]; exact Below.al hb2 _
  have t1 : w3.cell? ⟨w2.heap.size, 5, none⟩ = some (.func (.func 35) #[] #[]) := by rw [hw3]; exact Vs.cell_of_obj (World.alloc_heap_new w2 _) rfl
  have hnt : ¬ (fun b => F b ∨ Bm p m1 m2 m b) w2.heap.size := fun h => by have := HT.out.all h; have := hb2.size; omega
  have hni := HNI.out
  have BG := HX.out.later hb3
  have d0 : w3.cell? ⟨w.heap.size, 0, none⟩ = some (.int .i64 5) := by rw [BG.c0, HK.out]
  have d1 := BG.c1
  have d2 := BG.c2
  have d3 := BG.c3
  have d4 := BG.c4
  have d5 := BG.c5
  have d6 := BG.c6
  have d7 := BG.c7
  have d8 := BG.c8
  have d9 := BG.c9
  have d10 := BG.c10
  have d11 := BG.c11
  have HB3 := hid hb3
  clear hb2 VA BG
  go_wp2_with fail
  rw [← hw3]
  clear hw3
  go_region_held3 (fun w' => w'.cell? ⟨w.heap.size, 0, none⟩ = some (.int .i64 5) ∧ w'.cell? ⟨w.heap.size, 1, none⟩ = some (.int .u64 r.x) ∧ w'.cell? ⟨w.heap.size, 2, none⟩ = some (.int .u32 r.c) ∧ w'.cell? ⟨w.heap.size, 3, none⟩ = some (.int .u32 r.s) ∧ w'.cell? ⟨w.heap.size, 4, none⟩ = some (.int .u32 r.h) ∧ w'.cell? ⟨w.heap.size, 5, none⟩ = some (.int .i64 r.oc) ∧ w'.cell? ⟨w.heap.size, 6, none⟩ = some (.int .u64 r.w) ∧ w'.cell? ⟨w.heap.size, 7, none⟩ = some (.int .u32 r.l) ∧ w'.cell? ⟨w.heap.size, 8, none⟩ = some (.int .u32 r.n) ∧ w'.cell? ⟨w.heap.size, 9, none⟩ = some (.slice r.ra r.rs.length r.rc) ∧ w'.cell? ⟨w.heap.size, 10, none⟩ = some (.slice r.wa r.ws.length r.wc) ∧ w'.cell? ⟨w.heap.size, 11, none⟩ = some (.string r.im) ∧ w'.cell? ⟨w2.heap.size, 5, none⟩ = some (.func (.func 35) #[] #[]) ∧ Onl (fun b => F b ∨ Bm p m1 m2 m b) w3 w')
    ((refine (fun (hO : Onl (fun b => F b ∨ Bm p m1 m2 m b) w3 _) => ⟨hO.cell hni d0, hO.cell hni d1, hO.cell hni d2, hO.cell hni d3, hO.cell hni d4, hO.cell hni d5, hO.cell hni d6, hO.cell hni d7, hO.cell hni d8, hO.cell hni d9, hO.cell hni d10, hO.cell hni d11, hO.cell hnt t1, hO⟩) ?_; (repeat (first | with_reducible exact Onl.refl _ _ | with_reducible assumption | with_reducible refine Onl.drew ?_ | with_reducible refine Onl.al ?_ _))))
    (first | (go_at_call 35; refine (RU.out _ (by refine Below.on HB3.out ?_; (repeat (first | with_reducible exact Below.refl _ _ | with_reducible assumption | with_reducible refine Below.drew ?_ | with_reducible refine Below.al ?_ _ | with_reducible refine Below.setCell ?_ (by first | exact Nat.le_refl _ | (simp; omega) | (simp; done)) _ | with_reducible refine Below.on ?_ (by assumption))))).mono ?_; rintro e w4 ⟨rfl, HP⟩; have hO2 : Onl (fun b => F b ∨ Bm p m1 m2 m b) w3 w4 := (by refine Onl.trans ?_ HP.out.2; (repeat (first | with_reducible exact Onl.refl _ _ | with_reducible assumption | with_reducible refine Onl.drew ?_ | with_reducible refine Onl.al ?_ _)))))
  all_goals (try go_wp2_with fail)
  all_goals go_ret
  all_goals exact ⟨rfl, HP.out.1⟩
end Go.Proofs.YtofpaldolcnmiaaGreat.Ys
namespace Go.Proofs.YtofpaldolcnmiaaGreat.Ig
open Go.RowKit Go.Sort Ys
structure Fit (s : Ps) (r : Rg) : Prop where
  rg : RgR r
  k : r.k ≠ 5
  cnt : Vs.countM s.M ≤ 268435456
  jb : r.k = 2 → acB s (at' r) = true → jbB (at' r) = true
  ok : apE s r = 0
structure Img (n : Int) (r : Rg) (t : Ps) : Prop where
  k : r.k = 5
  err : r.err = 0
  b8 : B8 (imgB t)
  len : (imgB t).length ≤ 1099511627776
  take : takeP n (.at (imgB t)) = some t
  ok : ImOk t
  nd : t.node = n
  im : r.im = ofNats (imgB t)
inductive Stp : Ps → Rg → Ps → Prop
  | ap {s : Ps} {r : Rg} : Fit s r → Stp s r (apS s r)
  | im {n : Int} {r : Rg} {t : Ps} : Img n r t → Stp (zero n) r t
inductive Fol : Ps → List Rg → Ps → Prop
  | nil {s : Ps} : Fol s [] s
  | cons {s t u : Ps} {r : Rg} {l : List Rg} : Stp s r t → Fol t l u → Fol s (r :: l) u
theorem Fol.join {s t : Ps} {l : List Rg} (h : Fol s l t) : ∀ {m : List Rg} {u : Ps}, Fol t m u → Fol s (l ++ m) u := by
  induction h with
  | nil => intro m u k; exact k
  | cons h1 _ ih => intro m u k; exact .cons h1 (ih k)
theorem Fit.own {s : Ps} {r : Rg} (h : Fit s r) (g1 g2 : Nat) : Fit s (r.own g1 g2) ∧ apS s (r.own g1 g2) = apS s r := by
  have e := own_apE s r (some ⟨g1, 0, none⟩) (some ⟨g2, 0, none⟩) (r.rs.length + 1) (r.ws.length + 1) (own_err r g1 g2)
  exact ⟨⟨⟨h.rg.x, h.rg.t⟩, h.k, h.cnt, h.jb, e.1.trans h.ok⟩, e.2⟩
theorem Stp.own {s t : Ps} {r : Rg} (h : Stp s r t) (g1 g2 : Nat) : Stp s (r.own g1 g2) t := by
  cases h with
  | ap h =>
    obtain ⟨h1, h2⟩ := h.own g1 g2
    rw [← h2]
    exact .ap h1
  | im h => exact .im ⟨h.k, (own_err r g1 g2).trans h.err, h.b8, h.len, h.take, h.ok, h.nd, h.im⟩
inductive Own : List Rg → List Rg → Prop
  | nil : Own [] []
  | cons {r : Rg} {l m : List Rg} (g1 g2 : Nat) : Own l m → Own (r :: l) (r.own g1 g2 :: m)
theorem Own.fol {l m : List Rg} (h : Own l m) : ∀ {s t : Ps}, Fol s l t → Fol s m t := by
  induction h with
  | nil => intro s t k; exact k
  | cons g1 g2 _ ih =>
    intro s t k
    cases k with
    | cons k1 k2 => exact .cons (k1.own g1 g2) (ih k2)
theorem Own.snoc {l m : List Rg} (h : Own l m) (r : Rg) (g1 g2 : Nat) : Own (l ++ [r]) (m ++ [r.own g1 g2]) := by
  induction h with
  | nil => exact .cons g1 g2 .nil
  | cons a b _ ih => exact .cons a b ih
theorem Fol.eqv {s t : Ps} {l : List Rg} (h : Fol s l t) : (∀ r ∈ l, r.k ≠ 5) → ∀ {s' : Ps}, Eqv s s' → ∃ t', Fol s' l t' ∧ Eqv t t' := by
  induction h with
  | nil => intro _ s' k; exact ⟨s', .nil, k⟩
  | @cons s t u r l h1 _ ih =>
    intro hk s' k
    cases h1 with
    | im h => exact absurd h.k (hk r (by simp))
    | ap h =>
      obtain ⟨e1, e2⟩ := k.ap r
      obtain ⟨t', q1, q2⟩ := ih (fun x hx => hk x (by simp [hx])) e2
      exact ⟨t', .cons (.ap ⟨h.rg, h.k, by rw [k.M]; exact h.cnt, fun h2 ha => h.jb h2 (by unfold acB at ha ⊢; rw [k.cm, k.lc] at ha; exact ha), e1.trans h.ok⟩) q1, q2⟩
theorem sta_stp {B : Nat} {w : World} {p : Nat} {s t : Ps} {r : Rg} (h : Sta B w p s) (hB : B ≤ w.heap.size) (hr : r.ok w) (hs : Stp s r t) :
    Calls Tryz.prog 7 #[sp p, r.val] w fun e w' => e = .returned (.int .i64 0) ∧ Hid (Sta B w' p t ∧ Below B w w') := by
  obtain ⟨F, m1, m2, m, V, I, T, hl⟩ := h
  have fin : ∀ {e : Ending} {w' : World}, Aft2 F w p m1 m2 m t w' → Sta B w' p t ∧ Below B w w' := by
    rintro e w' ⟨F', m1', m2', m', V', I', T', g1, g2⟩
    refine ⟨⟨F', m1', m2', m', V', I', T', fun b hb => ?_⟩, g2.below hl hB⟩
    rcases g1 b hb with k | k
    · exact hl b k
    · exact Nat.le_trans hB k
  cases hs with
  | ap h =>
    have hc := apply_any T r hr h.rg h.k h.cnt h.jb
    rw [h.ok] at hc
    exact hc.mono fun e w' ⟨he, ha⟩ => ⟨he, hid (fin (e := e) ha)⟩
  | im h => exact (apply_img T r hr h.err h.k rfl h.b8 h.len h.take h.ok rfl h.nd h.im).mono fun e w' ⟨he, ha⟩ => ⟨he, hid (fin (e := e) ha)⟩
end Go.Proofs.YtofpaldolcnmiaaGreat.Ig
namespace Go.Proofs.YtofpaldolcnmiaaGreat.Ig
open Go.RowKit Go.Sort Ys
structure Ldb (n : Int) (u : Ps) : Prop where
  ok : ImOk u
  len : (imgB u).length ≤ 1099511627776
  nd : u.node = n
  tk : ∃ t, takeP n (.at (imgB u)) = some t ∧ Eqv u t
theorem ldb_tw {n : Int} {u : Ps} {I : Lk.It} (T : Tw u) (U : Und u) (hg : Vs.Good u.M) (hk : Lk.Ok u.H I) (ho : ImOk u) (hl : (imgB u).length ≤ 1099511627776) (hn : u.node = n) : Ldb n u :=
  ⟨ho, hl, hn, twin u, by rw [← hn]; exact take_twin T U hg hk ho, eqv_twin hk.ids T.nd⟩
theorem Run.ldb {n : Int} {i : Nat} {s : Ps} (h : Run n i s) (hi : i ≤ 93000) (hg : Vs.Good s.M) {I : Lk.It} (hk : Lk.Ok s.H I) : Ldb n s :=
  ldb_tw h.tw h.und hg hk (h.imOk hi) (h.len hi) h.nd
def imR (u : Ps) : Rg := ⟨5, 0, 0, 0, 0, 0, 0, 0, 0, none, [], 0, none, [], 0, ofNats (imgB u)⟩
theorem imR_err {u : Ps} (hl : (imgB u).length ≤ 1048560) : (imR u).err = 0 := by
  have hs : (ofNats (imgB u)).size ≤ 1048560 := by
    rw [show (ofNats (imgB u)).size = (imgB u).length from by simp [ofNats, ByteArray.size]]
    exact hl
  simp [Rg.err, Rg.valid, Rg.named, Rg.rules, sameR, imR, sameT, sameB, hs, Rg.zero]
theorem Ldb.img {n : Int} {u : Ps} (h : Ldb n u) (hl : (imgB u).length ≤ 1048560) : ∃ t, Img n (imR u) t ∧ Eqv u t := by
  obtain ⟨t, h1, h2⟩ := h.tk
  have e := h2.img
  exact ⟨t, ⟨rfl, imR_err hl, (h2.imOk h.ok).b8, by rw [e]; exact h.len, by rw [e]; exact h1, h2.imOk h.ok, by rw [h2.node]; exact h.nd, by rw [e]; rfl⟩, h2⟩
theorem ldb_zero {n : Int} (hn : okU 4294967295 n) : Ldb n (zero n) := by
  have ho : ImOk (zero n) := ⟨hn, ⟨Int.le_refl 0, by show (0 : Int) ≤ 18446744073709551615; decide⟩, okS_0, fun x hx => (by cases hx), fun x hx => (by cases hx), fun x hx => (by cases hx), by simp, by simp, by simp [Vs.countM]⟩
  have hE : tImg (.at (imgB (zero n))) = (imgOf (zero n), .at []) := by
    have := img_codec.app (imgOf (zero n)) ho.okI []
    rw [List.append_nil] at this
    exact this
  refine ⟨ho, ?_, rfl, zero n, ?_, ⟨rfl, rfl, rfl, rfl, rfl, rfl, List.Perm.refl _, List.Perm.refl _, by simp, by simp⟩⟩
  · have q0 := eU_le (by decide) ho.node
    have q1 := eU_le (by decide) ho.ceil
    have q2 := eS_len (zero n).wm
    have l1 := srt_len (f := Lk.Hd.id) (l := [])
    have l2 := srt_len (f := Lg.En.id) (l := [])
    have q3 := eL_le (e := eHeld) (K := 0) (l := srt Lk.Hd.id []) (fun x hx => by rw [srt_mem] at hx; cases hx) (by rw [l1]; decide)
    have q4 := eL_le (e := eEntry) (K := 0) (l := srt Lg.En.id []) (fun x hx => by rw [srt_mem] at hx; cases hx) (by rw [l2]; decide)
    have q5 := eL_le (e := eVersion) (K := 0) (l := Vs.dumpM []) (fun x hx => by cases hx) (by decide)
    show (eU n ++ (eU 0 ++ (eS ⟨0, 0, 0⟩ ++ (eL eHeld (srt Lk.Hd.id []) ++ (eL eEntry (srt Lg.En.id []) ++ eL eVersion (Vs.dumpM [])))))).length ≤ _
    have q2' : (eS ⟨0, 0, 0⟩).length = 16 := q2
    have q1' : (eU 0).length ≤ 10 := q1
    have q0' : (eU n).length ≤ 10 := q0
    simp only [List.length_append]
    omega
  · unfold takeP
    rw [hE]
    show (if n = n then fillP n 0 ⟨0, 0, 0⟩ [] [] [] else none) = _
    rw [if_pos rfl]
    rfl
end Go.Proofs.YtofpaldolcnmiaaGreat.Ig
namespace Go.Proofs.YtofpaldolcnmiaaGreat.Ig
open Go.RowKit Go.Sort Ys
theorem okS_1 : okS ⟨1, 0, 0⟩ := ⟨⟨by decide, by decide⟩, ⟨by decide, by decide⟩, by decide, by decide⟩
theorem img_short {u : Ps} (ho : ImOk u) (hh : u.H.length ≤ 1) (hH : ∀ h ∈ u.H, (eHeld h).length ≤ 4000) (hE : u.E = []) (hM : u.M = []) : (imgB u).length ≤ 1099511627776 := by
  have q0 := eU_le (by decide) ho.node
  have q1 := eU_le (by decide) ho.ceil
  have q2 := eS_len u.wm
  have l1 := srt_len (f := Lk.Hd.id) u.H
  have l2 := srt_len (f := Lg.En.id) u.E
  have q3 := eL_le (e := eHeld) (K := 4000) (l := srt Lk.Hd.id u.H) (fun x hx => hH x (srt_mem.1 hx)) (by omega)
  have q4 := eL_le (e := eEntry) (K := 0) (l := srt Lg.En.id u.E) (fun x hx => by rw [srt_mem, hE] at hx; cases hx) (by rw [l2, hE]; decide)
  have q5 := eL_le (e := eVersion) (K := 0) (l := Vs.dumpM u.M) (fun x hx => by rw [hM] at hx; cases hx) (by rw [hM]; decide)
  show (eU u.node ++ (eU u.ceil ++ (eS u.wm ++ (eL eHeld (srt Lk.Hd.id u.H) ++ (eL eEntry (srt Lg.En.id u.E) ++ eL eVersion (Vs.dumpM u.M)))))).length ≤ _
  simp only [List.length_append]
  omega
theorem ldb_1 {n : Int} (hn : okU 4294967295 n) : Ldb n (hdS n 1) := by
  have hT : Tw (hdS n 1) := by
    refine ⟨⟨?_, ?_⟩, hn, ⟨okS_0, ?_⟩, fun e he => (by cases he), fun e he => (by cases he), fun e he => (by cases he), ?_, rfl, rfl⟩
    · show (0 : Int) < 8; decide
    · show (8 : Int) ≤ 18446744073709551615; decide
    · show (0 : Int) < 18446744073709551615; decide
    · simp [hdS]
  have ho : ImOk (hdS n 1) := ⟨hn, ⟨by show (0 : Int) ≤ 8; decide, hT.ceil.2⟩, okS_0, fun e he => (by cases he), fun e he => (by cases he), fun e he => (by cases he), by simp [hdS], by simp [hdS], by simp [hdS, Vs.countM]⟩
  exact ldb_tw hT (fun h hh => by cases hh) Vs.Good.nil Lk.ok_nil ho (img_short ho (by simp [hdS]) (fun h hh => by cases hh) rfl rfl) rfl
abbrev hdH : Lk.Hd := ⟨(4294967295, 1), 0, 1, 0, 0, [], [kv]⟩
theorem hd_okHeld : okHeld hdH := by
  refine ⟨⟨⟨?_, ?_⟩, ⟨?_, ?_⟩, ?_, ?_⟩, okS_1, ⟨fun x hx => (by cases hx), ?_⟩, ⟨fun x hx => ?_, ?_⟩⟩
  · show (0 : Int) ≤ 4294967295; decide
  · show (4294967295 : Int) ≤ 4294967295; decide
  · show (0 : Int) ≤ 1; decide
  · show (1 : Int) ≤ 4294967295; decide
  · show (0 : Int) ≤ 0; decide
  · show (0 : Int) ≤ 4294967295; decide
  · simp
  · rw [List.mem_singleton] at hx
    subst hx
    exact ⟨by show (1 : Nat) ≤ 32; decide, by show (1 : Nat) ≤ 64; decide⟩
  · simp
theorem hd_rgP : (rgP hdH).err = 0 := by
  have hw := writes_kv
  simp only [kv] at hw
  simp [Rg.err, Rg.valid, Rg.named, Rg.rules, sameR, rgP, sameT, sameB, hw, topW, readsOk, allB]
theorem hd_ok2 : Lk.Ok [hdH] [(⟨#[107]⟩, (4294967295, 1))] := by
  refine ⟨by simp, by simp, fun k i => ?_, by simp⟩
  constructor
  · intro h
    rw [List.mem_singleton] at h
    injection h with h1 h2
    subst h1 h2
    exact ⟨hdH, by simp, rfl, kv, by simp, rfl⟩
  · rintro ⟨h, hh, hi, x, hx, hk⟩
    rw [List.mem_singleton] at hh
    subst hh
    rw [List.mem_singleton] at hx
    subst hx
    rw [← hi, ← hk]
    simp
theorem ldb_2 {n : Int} (hn : okU 4294967295 n) : Ldb n (hdS n 2) := by
  have hH : (hdS n 2).H = [hdH] := rfl
  have hm : ∀ h ∈ (hdS n 2).H, h = hdH := fun h hh => by rw [hH] at hh; exact List.mem_singleton.1 hh
  have hT : Tw (hdS n 2) := by
    refine ⟨⟨?_, ?_⟩, hn, ⟨okS_0, ?_⟩, fun e he => (by cases he), fun e he => (by cases he), fun h hh => ?_, ?_, rfl, rfl⟩
    · show (0 : Int) < 8; decide
    · show (8 : Int) ≤ 18446744073709551615; decide
    · show (0 : Int) < 18446744073709551615; decide
    · rw [hm h hh]
      refine ⟨hd_okHeld, hd_rgP, ?_, ?_⟩
      · show (1 : Int) < 8; decide
      · simp [hdS]
    · simp [hdS]
  have ho : ImOk (hdS n 2) := ⟨hn, ⟨by show (0 : Int) ≤ 8; decide, hT.ceil.2⟩, okS_0, fun h hh => by rw [hm h hh]; exact hd_okHeld, fun e he => (by cases he), fun e he => (by cases he), by simp [hdS], by simp [hdS], by simp [hdS, Vs.countM]⟩
  exact ldb_tw hT (fun h hh x hx e he => by cases he) Vs.Good.nil (by rw [hH]; exact hd_ok2) ho (img_short ho (by simp [hdS]) (fun h hh => by rw [hm h hh]; exact eHeld_le hd_okHeld (by simp) (by simp)) rfl rfl) rfl
end Go.Proofs.YtofpaldolcnmiaaGreat.Ig
namespace Go.Proofs.YtofpaldolcnmiaaGreat.Ig
open Go.RowKit Go.Sort Ys
structure Tkn (n : Int) (L : List Rg) (s : Ps) : Prop where
  no5 : ∀ r ∈ L, r.k ≠ 5
  pre : ∀ j, j ≤ L.length → ∃ u, Fol (zero n) (L.take j) u ∧ Ldb n u ∧ Fol u (L.drop j) s
theorem Tkn.fol {n : Int} {L : List Rg} {s : Ps} (h : Tkn n L s) : Fol (zero n) L s := by
  obtain ⟨u, h1, _, h2⟩ := h.pre L.length (Nat.le_refl _)
  have := h1.join h2
  rwa [List.take_append_drop] at this
theorem Tkn.more {n : Int} {L : List Rg} {s t : Ps} {r : Rg} (h : Tkn n L s) (hr : r.k ≠ 5) (hs : Stp s r t) (hl : Ldb n t) : Tkn n (L ++ [r]) t := by
  refine ⟨fun x hx => ?_, fun j hj => ?_⟩
  · rcases List.mem_append.1 hx with k | k
    · exact h.no5 x k
    · rw [List.mem_singleton.1 k]; exact hr
  · rw [List.length_append, List.length_singleton] at hj
    by_cases hjl : j ≤ L.length
    · obtain ⟨u, h1, h2, h3⟩ := h.pre j hjl
      refine ⟨u, by rw [List.take_append_of_le_length hjl]; exact h1, h2, ?_⟩
      rw [List.drop_append_of_le_length hjl]
      exact h3.join (.cons hs .nil)
    · have e : j = (L ++ [r]).length := by rw [List.length_append, List.length_singleton]; omega
      refine ⟨t, ?_, hl, ?_⟩
      · rw [e, List.take_length]
        exact h.fol.join (.cons hs .nil)
      · rw [e, List.drop_length]
        exact .nil
theorem hd_fit (n : Int) (h k : Nat) (hk : k < 3) : Stp (hdS n k) (hdR h k) (hdS n (k + 1)) := by
  have hs := hd_step n h k hk
  have := Stp.ap (s := hdS n k) (r := hdR h k) ⟨hd_rgr h k, hd_k h k, hd_cnt n k, hd_jb n h k, hs.1⟩
  rw [hs.2] at this
  exact this
theorem tkn_nil {n : Int} (hn : okU 4294967295 n) : Tkn n [] (zero n) :=
  ⟨fun r hr => (by cases hr), fun j hj => ⟨zero n, by rw [List.take_nil]; exact .nil, ldb_zero hn, by rw [List.drop_nil]; exact .nil⟩⟩
theorem tkn_head {n : Int} (hn : okU 4294967295 n) (h : Nat) (hg : Vs.Good (hdS n 3).M) {I : Lk.It} (hk : Lk.Ok (hdS n 3).H I) : Tkn n [hdR h 0, hdR h 1, hdR h 2] (hdS n 3) :=
  (((tkn_nil hn).more (hd_k h 0) (hd_fit n h 0 (by decide)) (ldb_1 hn)).more (hd_k h 1) (hd_fit n h 1 (by decide)) (ldb_2 hn)).more (hd_k h 2) (hd_fit n h 2 (by decide)) ((run_hd hn).ldb (by decide) hg hk)
theorem Tkn.run {n : Int} {i : Nat} {L : List Rg} {s : Ps} {r : Rg} (h : Tkn n L s) (hR : Run n i s) (hi : i + 1 ≤ 93000) (hg : Vs.Good s.M) {I : Lk.It} (hk : Lk.Ok s.H I) (hr : RgR r) (hx : RgX r) (he : axE s r = 0) (hg' : Vs.Good (axS s r).M) {J : Lk.It} (hk' : Lk.Ok (axS s r).H J) : Tkn n (L ++ [r]) (axS s r) := by
  have h5 : r.k ≠ 5 := fun h5 => by
    unfold axE at he
    rw [if_pos h5] at he
    split at he <;> cases he
  have hRun := hR.step hg hk hr hx
  have hst : Stp s r (axS s r) := by
    have e1 : axE s r = apE s r := by unfold axE; rw [if_neg h5]
    have e2 : axS s r = apS s r := by unfold axS; rw [if_neg h5]
    rw [e2]
    exact .ap ⟨hr, h5, run_cnt hR (by omega), fun _ => hR.jb, by rw [← e1]; exact he⟩
  exact h.more h5 hst (hRun.ldb hi hg' hk')
theorem Tkn.fold {n : Int} {L : List Rg} {s : Ps} (h : Tkn n L s) {j : Nat} (hj : j ≤ L.length) : ∃ u, Fol (zero n) (L.take j) u ∧ Ldb n u ∧ ((imgB u).length ≤ 1048560 → ∃ t, Fol (zero n) (imR u :: L.drop j) t ∧ Eqv s t) := by
  obtain ⟨u, h1, h2, h3⟩ := h.pre j hj
  refine ⟨u, h1, h2, fun hl => ?_⟩
  obtain ⟨t, q1, q2⟩ := h2.img hl
  obtain ⟨t', q3, q4⟩ := h3.eqv (fun r hr => h.no5 r (List.mem_of_mem_drop hr)) q2
  exact ⟨t', .cons (.im q1) q3, q4⟩
end Go.Proofs.YtofpaldolcnmiaaGreat.Ig
