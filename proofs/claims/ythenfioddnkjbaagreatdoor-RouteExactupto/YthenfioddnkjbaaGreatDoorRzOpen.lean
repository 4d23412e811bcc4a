import Derived.Test.YthenfioddnkjbaaGreatDoorRows
import Derived.Test.YthenfioddnkjbaaGreatDoorChecked
import Derived.OpenShut
import Derived.Deep.Slices
import Derived.Deep.DeepHandedRow
import Derived.ProofKit
import Derived.SizedLaws
import Derived.Test.YthenfioddnkjbaaGreatDoorRzLaw
import Derived.Test.YthenfioddnkjbaaGreatDoorRdLaid
/- A list of structs, opened: any struct, with what its elements are read as. -/
namespace Go.Proofs.YthenfioddnkjbaaGreatDoor
open Go.ChangeShapes Go.WideShapes Go.ChangeAt Go.RowKit Go.Deep
set_option linter.unusedVariables false

/-- a row of elements of n cells each -/
def RowC {α : Type} (z : α) (cells : α → List Value) (n : Nat) (W : World) (a : Option Addr) (xs : List α) : Prop :=
  ∀ i, i < xs.length → ∃ b off, a = some ⟨b, off, none⟩ ∧ ∀ o u, (cells (xs[i]?.getD z))[o]? = some u → W.cell? ⟨b, off + i * n + o, none⟩ = some u

theorem weightsAll_mem {H : Type} {P : Program} {e : TypeId} {k : Nat} : ∀ {l : List (DataW H)} {d : DataW H}, d ∈ l → k ∈ d.weights P e → k ∈ DataW.weightsAll P e l
  | x :: l, d, hd, hk => by
    rw [DataW.weightsAll, List.mem_append]
    rcases List.mem_cons.1 hd with rfl | hd
    · exact .inl hk
    · exact .inr (weightsAll_mem hd hk)

/-- what a small bulk says -/
theorem bulk_pos {H : Type} (d : DataW H) : 1 ≤ Rows.uptoBulk d := by
  cases d with
  | lit l => cases l <;> simp [Rows.uptoBulk]
  | _ => simp [Rows.uptoBulk]
theorem bulkAll_len {H : Type} : ∀ l : List (DataW H), l.length ≤ Rows.uptoBulkAll l
  | [] => by simp
  | x :: l => by have := bulkAll_len l; have := bulk_pos x; simp only [List.length_cons, Rows.uptoBulkAll]; omega
theorem bulkAll_mem {H : Type} : ∀ {l : List (DataW H)} {d : DataW H}, d ∈ l → Rows.uptoBulk d ≤ Rows.uptoBulkAll l
  | x :: l, d, hd => by
    rcases List.mem_cons.1 hd with rfl | hd
    · simp only [Rows.uptoBulkAll]; omega
    · have := bulkAll_mem hd; simp only [Rows.uptoBulkAll]; omega
theorem bulkAll_sum {H α : Type} (z : α) (f : α → Nat) : ∀ {el : List (DataW H)} {xs : List α}, el.length = xs.length → (∀ i, i < xs.length → ∃ d, el[i]? = some d ∧ f (xs[i]?.getD z) ≤ Rows.uptoBulk d) → (xs.map f).sum ≤ Rows.uptoBulkAll el
  | [], [], _, _ => by simp
  | e :: el, x :: xs, hl, h => by
    obtain ⟨d, hd, h0⟩ := h 0 (by simp)
    simp at hd h0
    subst hd
    have := bulkAll_sum z f (el := el) (xs := xs) (by simpa using hl) (fun i hi => by
      obtain ⟨d, hd, h1⟩ := h (i + 1) (by simpa using hi)
      exact ⟨d, by simpa using hd, by simpa using h1⟩)
    simp only [List.map_cons, List.sum_cons, Rows.uptoBulkAll]
    omega
/-- all of its weights are within the reach, or its bulk is small -/
def InReach {H : Type} (t : TypeId) (d : DataW H) : Prop := (∀ k ∈ d.weights Tryz.prog t, k ≤ reachBytes) ∨ Rows.uptoBulk d ≤ 1048576
theorem InReach.of_args {H : Type} {t : TypeId} {d : DataW H} {ts : List TypeId} {gs : List (DataW H)} (hsz : (DataW.weightsEach Tryz.prog (t :: ts) (d :: gs)).all (· ≤ reachBytes) = true) : InReach t d := .inl fun k hk => by
  have := List.all_eq_true.1 hsz k (DataW.weights_mem_each (j := 0) rfl rfl k hk)
  simpa using this
theorem InReach.part {H : Type} {t : TypeId} {fs : Array Field} {ps : List (DataW H)} (h : InReach t (.agg ps)) (ht : Tryz.prog.underlying t = some (.struct fs)) {j : Nat} {f : Field} {d : DataW H} (hf : fs[j]? = some f) (hd : ps[j]? = some d) : InReach f.type d := by
  rcases h with h | h
  · refine .inl fun k hk => h k ?_
    simp only [DataW.weights, ht]
    exact DataW.weights_mem_each (j := j) (by simp [hf]) hd k hk
  · have := bulkAll_mem (List.mem_of_getElem? hd)
    simp only [Rows.uptoBulk] at h
    exact .inr (by omega)
theorem InReach.elem {H : Type} {t e : TypeId} {el sp : List (DataW H)} (h : InReach t (.slice el sp)) (ht : Tryz.prog.underlying t = some (.slice e)) {d : DataW H} (hd : d ∈ el) : InReach e d := by
  rcases h with h | h
  · refine .inl fun k hk => h k ?_
    simp only [DataW.weights, ht, List.mem_cons, List.mem_append]
    exact .inr (.inl (weightsAll_mem hd hk))
  · have := bulkAll_mem hd
    simp only [Rows.uptoBulk] at h
    exact .inr (by omega)
theorem InReach.len {H : Type} {t e : TypeId} {el sp : List (DataW H)} (h : InReach t (.slice el sp)) (ht : Tryz.prog.underlying t = some (.slice e)) {n : Nat} (hb : Tryz.prog.bytesOf e = n) (hn : n ≤ 65536) : el.length * n ≤ reachBytes := by
  rcases h with h | h
  · have := h ((el.length + sp.length) * Tryz.prog.bytesOf e) (by simp [DataW.weights, ht])
    rw [hb] at this
    exact Nat.le_trans (Nat.mul_le_mul_right _ (Nat.le_add_right _ _)) this
  · have := bulkAll_len el
    simp only [Rows.uptoBulk] at h
    have h1 : el.length * n ≤ 1048576 * 65536 := Nat.mul_le_mul (by omega) hn
    exact Nat.le_trans h1 (by decide)
theorem InReach.text {H : Type} {t : TypeId} {s : ByteArray} (h : InReach (H := H) t (.lit (.string s.data.toList))) : s.size ≤ reachBytes := by
  rcases h with h | h
  · have := h s.data.toList.length (by simp [DataW.weights])
    simpa using this
  · simp only [Rows.uptoBulk, Array.length_toList] at h
    have e : s.size = s.data.size := rfl
    simp only [reachBytes]
    omega
theorem open_rows {H : Type} {enc : TypeId × Value → H} {W : World} {base fuel : Nat} {v : Value} {y : DataW H × List MemPlace} {t e : TypeId} {n : Nat} (ht : Tryz.prog.underlying t = some (.slice e)) (hn : Tryz.prog.cellsOf e = n) (hn0 : 0 < n)
    {α : Type} (z : α) (cells : α → List Value) (good : α → DataW H → Prop)
    (hrd : ∀ fuel cs y, DataW.trod enc Tryz.prog W base (fun _ => true) true fuel e cs = some y → InReach e y.1 → ∃ x, cs = cells x ∧ good x y.1)
    (hf : DataW.trod enc Tryz.prog W base (fun _ => true) true fuel t [v] = some y) (hr : InReach t y.1) :
    ∃ (a : Option Addr) (cap : Nat) (xs : List α), v = .slice a xs.length cap ∧ xs.length ≤ cap ∧ xs.length ≤ 9223372036854775807 ∧ RowC z cells n W a xs ∧
      (xs = [] ∨ ∃ el sp, y.1 = .slice el sp ∧ el.length = xs.length ∧ ∀ i, i < xs.length → ∃ d, el[i]? = some d ∧ good (xs[i]?.getD z) d) := by
  rcases open_slice ht hf with ⟨e3, _⟩ | ⟨a, len, cap, m, n', D, Pl, e3, hb, hlc, hm, hmm, hxx, hel⟩
  · injection e3 with e3
    subst e3
    exact ⟨none, 0, [], rfl, by simp, by simp, fun i hi => by simp at hi, .inl rfl⟩
  · injection e3 with e3
    subst e3
    have hlm : len ≤ m := by rw [hmm]; split <;> omega
    have each : ∀ i, i < len → ∃ x : α, good x (D i) ∧ ∃ bb off, a = ⟨bb, off, none⟩ ∧ ∀ o u, (cells x)[o]? = some u → W.cell? ⟨bb, off + i * n + o, none⟩ = some u := by
      intro i hi
      obtain ⟨cs', hc, ht'⟩ := hel i (by omega)
      have hrD : InReach e (D i) := by
        rw [hxx] at hr
        exact hr.elem ht (List.mem_map.2 ⟨i, List.mem_range.2 hi, rfl⟩)
      obtain ⟨x, rfl, hg⟩ := hrd _ _ _ ht' hrD
      rw [hn] at hc
      obtain ⟨_, hl, hcell⟩ := World.cells?_some hc
      obtain ⟨bb, off, spot⟩ := a
      have hspot : spot = none := by
        obtain ⟨cs0, hc0, ht0⟩ := hel 0 (by omega)
        rw [hn] at hc0
        obtain ⟨_, hl0, hcell0⟩ := World.cells?_some hc0
        have h0 := hcell0 0 hn0
        cases hv0 : cs0[0]? with
        | none => rw [List.getElem?_eq_none_iff] at hv0; omega
        | some u =>
          rw [hv0] at h0
          have hs := World.cell?_spot h0
          clear hcell hcell0
          simpa [Addr.add] using hs
      subst hspot
      refine ⟨x, hg, bb, off, rfl, fun o u ho => ?_⟩
      have hol : o < n := by have := (List.getElem?_eq_some_iff.1 ho).1; omega
      have := hcell o hol
      rw [ho] at this
      simpa [Addr.add_lit, Nat.add_assoc] using this
    obtain ⟨f, hq⟩ := @choose_lt α ⟨z⟩ _ _ each
    have hnn : ∀ i, i < len → (((List.range len).map f)[i]?).getD z = f i := fun i hi => by simp [hi]
    refine ⟨some a, cap, (List.range len).map f, by simp, by simpa using hlc, by simp [maxLen] at hm ⊢; omega, fun i hi => ?_, .inr ⟨(List.range len).map D, (List.range (m - len)).map fun j => D (len + j), by rw [hxx], by simp, fun i hi => ?_⟩⟩
    · have hi' : i < len := by simpa using hi
      obtain ⟨hx, bb, off, e, c⟩ := hq i hi'
      rw [hnn i hi']
      exact ⟨bb, off, by rw [e], c⟩
    · have hi' : i < len := by simpa using hi
      rw [hnn i hi']
      exact ⟨D i, by simp [hi'], (hq i hi').1⟩

end Go.Proofs.YthenfioddnkjbaaGreatDoor
/- A script of steps, opened; what is asked of the variables. -/
namespace Go.Proofs.YthenfioddnkjbaaGreatDoor.Bg
open Go.ChangeShapes Go.WideShapes Go.ChangeAt Go.RowKit Go.Deep Go.Proofs.YthenfioddnkjbaaGreatDoor Go.Proofs.YthenfioddnkjbaaGreatDoor.Rt
set_option linter.unusedVariables false

theorem cells_str : Tryz.prog.cellsOf 9 = 1 := by kernel_rfl
theorem cells_bool : Tryz.prog.cellsOf 4 = 1 := by kernel_rfl
theorem cells_int : Tryz.prog.cellsOf 3 = 1 := by kernel_rfl
theorem cells_u64 : Tryz.prog.cellsOf 24 = 1 := by kernel_rfl
theorem cells_strs : Tryz.prog.cellsOf 23 = 1 := by kernel_rfl
theorem cells_spans : Tryz.prog.cellsOf 50 = 1 := by kernel_rfl
theorem cells_writes : Tryz.prog.cellsOf 51 = 1 := by kernel_rfl
theorem cells_Cfg : Tryz.prog.cellsOf 26 = 6 := by kernel_rfl
theorem cells_Span : Tryz.prog.cellsOf 49 = 2 := by kernel_rfl
theorem cells_Write : Tryz.prog.cellsOf 135 = 3 := by kernel_rfl
theorem cells_Step : Tryz.prog.cellsOf 53 = 12 := by kernel_rfl
theorem list2 {α : Type} {cs : List α} (h : cs.length = 2) : ∃ c0 c1, cs = [c0, c1] := by
  match cs, h with
  | [c0, c1], _ => exact ⟨c0, c1, rfl⟩
theorem list3 {α : Type} {cs : List α} (h : cs.length = 3) : ∃ c0 c1 c2, cs = [c0, c1, c2] := by
  match cs, h with
  | [c0, c1, c2], _ => exact ⟨c0, c1, c2, rfl⟩
theorem list6 {α : Type} {cs : List α} (h : cs.length = 6) : ∃ c0 c1 c2 c3 c4 c5, cs = [c0, c1, c2, c3, c4, c5] := by
  match cs, h with
  | [c0, c1, c2, c3, c4, c5], _ => exact ⟨c0, c1, c2, c3, c4, c5, rfl⟩
theorem list12 {α : Type} {cs : List α} (h : cs.length = 12) : ∃ c0 c1 c2 c3 c4 c5 c6 c7 c8 c9 c10 c11, cs = [c0, c1, c2, c3, c4, c5, c6, c7, c8, c9, c10, c11] := by
  match cs, h with
  | [c0, c1, c2, c3, c4, c5, c6, c7, c8, c9, c10, c11], _ => exact ⟨c0, c1, c2, c3, c4, c5, c6, c7, c8, c9, c10, c11, rfl⟩
theorem u64_in {a : Int} (h : (Lit.int .u64 a).wf = true) : 0 ≤ a ∧ a ≤ 18446744073709551615 := by
  simp [Lit.wf, IntKind.min, IntKind.max, IntKind.bits, IntKind.signed] at h; omega
theorem i64_inn {a : Int} (h : (Lit.int .i64 a).wf = true) : -9223372036854775808 ≤ a ∧ a ≤ 9223372036854775807 := by
  simp [Lit.wf, IntKind.min, IntKind.max, IntKind.bits, IntKind.signed] at h; omega
section
variable {H : Type} {enc : TypeId × Value → H} {w : World} {base : Nat} {fuel : Nat} {cs : List Value} {y : DataW H × List MemPlace}
theorem trod_Wr (h : DataW.trod enc Tryz.prog w base (fun _ => true) true fuel 135 cs = some y) : ∃ x : Wr, cs = [.string x.key, .bool x.del, .string x.val] := by
  obtain ⟨ys, n, _, rfl, hl, hlen, hf⟩ := DataW.trod_struct Tryz.underlying135 h
  rw [cells_Write] at hl
  obtain ⟨c0, c1, c2, rfl⟩ := list3 hl
  obtain ⟨y0, y1, y2, rfl⟩ := list3 (cs := ys) (by simpa using hlen)
  obtain ⟨s0, e0, _, _⟩ := DataW.trod_string Tryz.underlying9 (hf 0 _ rfl)
  obtain ⟨b1, e1, _⟩ := DataW.trod_bool Tryz.underlying4 (hf 1 _ rfl)
  obtain ⟨s2, e2, _, _⟩ := DataW.trod_string Tryz.underlying9 (hf 2 _ rfl)
  simp [cells_str, cells_bool] at e0 e1 e2
  subst e0 e1 e2
  exact ⟨⟨s0, b1, s2⟩, rfl⟩
theorem trod_Spa (h : DataW.trod enc Tryz.prog w base (fun _ => true) true fuel 49 cs = some y) : ∃ s : T2, cs = [.string s.1, .string s.2] := by
  obtain ⟨ys, n, _, rfl, hl, hlen, hf⟩ := DataW.trod_struct Tryz.underlying49 h
  rw [cells_Span] at hl
  obtain ⟨c0, c1, rfl⟩ := list2 hl
  obtain ⟨y0, y1, rfl⟩ := list2 (cs := ys) (by simpa using hlen)
  obtain ⟨s0, e0, _, _⟩ := DataW.trod_string Tryz.underlying9 (hf 0 _ rfl)
  obtain ⟨s1, e1, _, _⟩ := DataW.trod_string Tryz.underlying9 (hf 1 _ rfl)
  simp [cells_str] at e0 e1
  subst e0 e1
  exact ⟨(s0, s1), rfl⟩
theorem writes_cell {v : Value} (hf : DataW.trod enc Tryz.prog w base (fun _ => true) true fuel 51 [v] = some y) (hr : InReach 51 y.1) :
    ∃ a c, ∃ l : List Wr, v = .slice a l.length c ∧ RowW w a l ∧ l.length ≤ Rows.uptoBulk y.1 := by
  obtain ⟨a, cap, xs, rfl, hcap, _, hrow, hel⟩ := open_rows Tryz.underlying51 cells_Write (by decide) (⟨⟨#[]⟩, false, ⟨#[]⟩⟩ : Wr) (fun x => [.string x.key, .bool x.del, .string x.val]) (fun _ _ => True) (fun _ _ _ h _ => by obtain ⟨x, e⟩ := trod_Wr h; exact ⟨x, e, trivial⟩) hf hr
  refine ⟨a, cap, xs, rfl, fun i hi => ?_, ?_⟩
  · obtain ⟨b, off, ha, hc⟩ := hrow i hi
    exact ⟨b, off, ha, hc 0 _ rfl, hc 1 _ rfl, hc 2 _ rfl⟩
  · rcases hel with rfl | ⟨el, sp, e1, e2, _⟩
    · simp
    · have := bulkAll_len el
      rw [e1]; simp only [Rows.uptoBulk]; omega
theorem spans_cell {v : Value} (hf : DataW.trod enc Tryz.prog w base (fun _ => true) true fuel 50 [v] = some y) (hr : InReach 50 y.1) :
    ∃ a c, ∃ l : List T2, v = .slice a l.length c ∧ Row2 w a l ∧ l.length ≤ Rows.uptoBulk y.1 := by
  obtain ⟨a, cap, xs, rfl, hcap, _, hrow, hel⟩ := open_rows Tryz.underlying50 cells_Span (by decide) ((⟨#[]⟩, ⟨#[]⟩) : T2) (fun x => [.string x.1, .string x.2]) (fun _ _ => True) (fun _ _ _ h _ => by obtain ⟨x, e⟩ := trod_Spa h; exact ⟨x, e, trivial⟩) hf hr
  refine ⟨a, cap, xs, rfl, fun i hi => ?_, ?_⟩
  · obtain ⟨b, off, ha, hc⟩ := hrow i hi
    exact ⟨b, off, ha, hc 0 _ rfl, hc 1 _ rfl⟩
  · rcases hel with rfl | ⟨el, sp, e1, e2, _⟩
    · simp
    · have := bulkAll_len el
      rw [e1]; simp only [Rows.uptoBulk]; omega
theorem texts_cell {v : Value} (hf : DataW.trod enc Tryz.prog w base (fun _ => true) true fuel 23 [v] = some y) (hr : InReach 23 y.1) :
    ∃ (a : Option Addr) (cap : Nat) (xs : List ByteArray), v = .slice a xs.length cap ∧ RowS w a xs ∧ xs.length ≤ Rows.uptoBulk y.1 ∧ xs.length ≤ 9223372036854775807 := by
  obtain ⟨a, cap, xs, rfl, hcap, hmx, hrow, hel⟩ := open_rows Tryz.underlying23 cells_str (by decide) (mt : ByteArray) (fun s => [.string s]) (fun _ _ => True) (fun _ _ _ h _ => by
    obtain ⟨s, e, _⟩ := DataW.trod_string Tryz.underlying9 h
    exact ⟨s, e, trivial⟩) hf hr
  refine ⟨a, cap, xs, rfl, fun i hi => ?_, ?_, hmx⟩
  · obtain ⟨b, off, e, hc⟩ := hrow i hi
    refine ⟨b, off, e, ?_⟩
    have := hc 0 _ rfl
    rw [Nat.mul_one, Nat.add_zero] at this
    exact this
  · rcases hel with rfl | ⟨el, sp, e1, e2, _⟩
    · simp
    · have := bulkAll_len el
      rw [e1]; simp only [Rows.uptoBulk]; omega
theorem trod_Cfg (h : DataW.trod enc Tryz.prog w base (fun _ => true) true fuel 26 cs = some y) (hr : InReach 26 y.1) :
    ∃ c : Cf, cs = [.int .i64 c.sh, .int .i64 c.cl, .slice c.a c.ss.length c.cp, .int .i64 c.ca, .int .i64 c.pk, .int .u64 c.wi] ∧ c.Ok w ∧ c.ss.length ≤ Rows.uptoBulk y.1 ∧ 0 ≤ c.wi ∧ c.wi ≤ 18446744073709551615 := by
  obtain ⟨ys, n, _, rfl, hl, hlen, hf⟩ := DataW.trod_struct Tryz.underlying26 h
  rw [cells_Cfg] at hl
  obtain ⟨c0, c1, c2, c3, c4, c5, rfl⟩ := list6 hl
  obtain ⟨y0, y1, y2, y3, y4, y5, rfl⟩ := list6 (cs := ys) (by simpa using hlen)
  obtain ⟨n0, e0, _, w0⟩ := DataW.trod_int Tryz.underlying3 (hf 0 _ rfl)
  obtain ⟨n1, e1, _, w1⟩ := DataW.trod_int Tryz.underlying3 (hf 1 _ rfl)
  obtain ⟨n3, e3, _, w3⟩ := DataW.trod_int Tryz.underlying3 (hf 3 _ rfl)
  obtain ⟨n4, e4, _, w4⟩ := DataW.trod_int Tryz.underlying3 (hf 4 _ rfl)
  obtain ⟨n5, e5, _, w5⟩ := DataW.trod_int Tryz.underlying24 (hf 5 _ rfl)
  have s2 : ([c0, c1, c2, c3, c4, c5].drop 2).take (Tryz.prog.cellsOf 23) = [c2] := by rw [cells_strs]; rfl
  have g2 : DataW.trod enc Tryz.prog w base (fun _ => true) true n 23 [c2] = some y2 := by rw [← s2]; exact hf 2 _ rfl
  obtain ⟨a, cp, ss, rfl, hrow, hsl, hmx⟩ := texts_cell g2 (InReach.part (ps := [y0.1, y1.1, y2.1, y3.1, y4.1, y5.1]) hr Tryz.underlying26 (j := 2) rfl rfl)
  simp [cells_int, cells_u64] at e0 e1 e3 e4 e5
  subst e0 e1 e3 e4 e5
  refine ⟨⟨n0, n1, a, cp, ss, n3, n4, n5⟩, rfl, ⟨hrow, hmx, i64_inn w0⟩, ?_, u64_in w5⟩
  simp only [Rows.uptoBulk, Rows.uptoBulkAll, List.map_cons, List.map_nil]
  omega
/-- a step that was read, its lists within its bulk -/
structure Sx.Pre (x : Sx) (w : World) (B : Nat) : Prop where
  c : x.c.Ok w
  cl : x.c.ss.length ≤ B
  wi : 0 ≤ x.c.wi ∧ x.c.wi ≤ 18446744073709551615
  r : Row2 w x.ra x.rs
  rl : x.rs.length ≤ B
  wr : RowW w x.wa x.ws
  wl : x.ws.length ≤ B
  tz : x.t.size ≤ B
set_option maxRecDepth 100000 in
theorem trod_Step (h : DataW.trod enc Tryz.prog w base (fun _ => true) true fuel 53 cs = some y) (hr : InReach 53 y.1) : ∃ x : Sx, cs = x.cells.toList ∧ x.Pre w (Rows.uptoBulk y.1) := by
  obtain ⟨ys, n, _, rfl, hl, hlen, hf⟩ := DataW.trod_struct Tryz.underlying53 h
  rw [cells_Step] at hl
  obtain ⟨c0, c1, c2, c3, c4, c5, c6, c7, c8, c9, c10, c11, rfl⟩ := list12 hl
  obtain ⟨y0, y1, y2, y3, y4, y5, rfl⟩ := list6 (cs := ys) (by simpa using hlen)
  obtain ⟨a0, e0, _, _⟩ := DataW.trod_int Tryz.underlying3 (hf 0 _ rfl)
  obtain ⟨t1, e1, d1, _⟩ := DataW.trod_string Tryz.underlying9 (hf 1 _ rfl)
  have s2 : ([c0, c1, c2, c3, c4, c5, c6, c7, c8, c9, c10, c11].drop 2).take (Tryz.prog.cellsOf 26) = [c2, c3, c4, c5, c6, c7] := by rw [cells_Cfg]; rfl
  have g2 : DataW.trod enc Tryz.prog w base (fun _ => true) true n 26 [c2, c3, c4, c5, c6, c7] = some y2 := by rw [← s2]; exact hf 2 _ rfl
  obtain ⟨c, ec, hok, hcl, hwi⟩ := trod_Cfg g2 (InReach.part (ps := [y0.1, y1.1, y2.1, y3.1, y4.1, y5.1]) hr Tryz.underlying53 (j := 2) rfl rfl)
  obtain ⟨s, e3⟩ := trod_Spa (hf 3 _ rfl)
  have s4 : ([c0, c1, c2, c3, c4, c5, c6, c7, c8, c9, c10, c11].drop 10).take (Tryz.prog.cellsOf 50) = [c10] := by rw [cells_spans]; rfl
  have g4 : DataW.trod enc Tryz.prog w base (fun _ => true) true n 50 [c10] = some y4 := by rw [← s4]; exact hf 4 _ rfl
  have s5 : ([c0, c1, c2, c3, c4, c5, c6, c7, c8, c9, c10, c11].drop 11).take (Tryz.prog.cellsOf 51) = [c11] := by rw [cells_writes]; rfl
  have g5 : DataW.trod enc Tryz.prog w base (fun _ => true) true n 51 [c11] = some y5 := by rw [← s5]; exact hf 5 _ rfl
  obtain ⟨ra, rc, rs, rfl, hrr, hrl⟩ := spans_cell g4 (InReach.part (ps := [y0.1, y1.1, y2.1, y3.1, y4.1, y5.1]) hr Tryz.underlying53 (j := 4) rfl rfl)
  obtain ⟨wa, wc, ws, rfl, hww, hwl⟩ := writes_cell g5 (InReach.part (ps := [y0.1, y1.1, y2.1, y3.1, y4.1, y5.1]) hr Tryz.underlying53 (j := 5) rfl rfl)
  simp [cells_int, cells_str, cells_Span] at e0 e1 e3
  obtain ⟨f3, f4⟩ := e3
  simp only [List.cons.injEq, and_true] at ec
  obtain ⟨rfl, rfl, rfl, rfl, rfl, rfl⟩ := ec
  subst e0 e1 f3 f4
  have p1 : Rows.uptoBulk y1.1 = t1.size + 1 := by rw [d1]; simp [Rows.uptoBulk]
  have hbk : Rows.uptoBulk (DataW.agg [y0.1, y1.1, y2.1, y3.1, y4.1, y5.1]) = Rows.uptoBulk y0.1 + (Rows.uptoBulk y1.1 + (Rows.uptoBulk y2.1 + (Rows.uptoBulk y3.1 + (Rows.uptoBulk y4.1 + (Rows.uptoBulk y5.1 + 0))))) + 1 := by simp only [Rows.uptoBulk, Rows.uptoBulkAll]
  refine ⟨⟨a0, t1, c, s, ra, rc, rs, wa, wc, ws⟩, rfl, hok, ?_, hwi, hrr, ?_, hww, ?_, ?_⟩
  all_goals
    simp only [List.map_cons, List.map_nil]
    rw [hbk]
    show _ ≤ _
    omega
end
theorem bulk_mem {H : Type} : ∀ {el : List (DataW H)} {i : Nat} {d : DataW H}, el[i]? = some d → Rows.uptoBulk d ≤ Rows.uptoBulkAll el
  | [], i, d, h => by simp at h
  | x :: r, 0, d, h => by
    simp at h; subst h
    simp only [Rows.uptoBulkAll]; omega
  | x :: r, i + 1, d, h => by
    have := bulk_mem (el := r) (i := i) (d := d) (by simpa using h)
    simp only [Rows.uptoBulkAll]; omega
set_option maxRecDepth 100000 in
theorem open_steps {H : Type} {enc : TypeId × Value → H} {W : World} {r : Reach} {b : Nat} {v : Value} {d : DataW H} {p : List MemPlace}
    (hv : Value.okWide Tryz.prog W r b 22 v) (h : DataW.Trod enc Tryz.prog W 0 (fun _ => true) true 22 v d p) (hk : Rows.uptoBulk d ≤ 1048576) :
    ∃ (a : Option Addr) (cap : Nat) (xs : List Sx), v = .slice a xs.length cap ∧ RowSx W a xs ∧ (∀ x ∈ xs, x.Ok W) ∧ xs.length ≤ 1048576 := by
  obtain ⟨a0, len, cap, rfl⟩ := okWide_slice Tryz.underlying22 hv
  obtain ⟨fuel, hf⟩ := h
  obtain ⟨a, cap, xs, e, _, _, hrow, hel⟩ := open_rows Tryz.underlying22 cells_Step (by decide) (⟨0, ⟨#[]⟩, zC, (⟨#[]⟩, ⟨#[]⟩), none, 0, [], none, 0, []⟩ : Sx) (fun x => x.cells.toList) (fun x d => x.Pre W (Rows.uptoBulk d)) (fun _ _ _ h k => trod_Step h k) hf (.inr hk)
  refine ⟨a, cap, xs, e, fun i hi => ?_, ?_, ?_⟩
  · obtain ⟨b, off, ha, hc⟩ := hrow i hi
    refine ⟨b, off, ha, fun o u hu => ?_⟩
    have h9 : (xs[i]?.getD (⟨0, ⟨#[]⟩, zC, (⟨#[]⟩, ⟨#[]⟩), none, 0, [], none, 0, []⟩ : Sx)).cells.toList[o]? = some u := by rw [List.getElem?_eq_getElem hi, Array.getElem?_toList]; exact hu
    have := hc o u h9
    rw [Nat.add_assoc] at this
    exact this
  · rcases hel with rfl | ⟨el, sp, e1, _, e3⟩
    · intro x hx; simp at hx
    · intro x hx
      obtain ⟨i, hi, rfl⟩ := List.getElem_of_mem hx
      obtain ⟨d', hd', hg⟩ := e3 i hi
      rw [List.getElem?_eq_getElem hi] at hg
      have hg : xs[i].Pre W (Rows.uptoBulk d') := hg
      have hm := bulk_mem hd'
      have e1 : d = .slice el sp := e1
      rw [e1] at hk
      simp only [Rows.uptoBulk] at hk
      exact ⟨hg.c, Nat.le_trans hg.cl (by omega), hg.wi, hg.r, Nat.le_trans hg.rl (by omega), hg.wr, Nat.le_trans hg.wl (by omega), Nat.le_trans hg.tz (by omega)⟩
  · rcases hel with rfl | ⟨el, sp, e1, e2, e3⟩
    · simp
    · have := bulkAll_len el
      have e1 : d = .slice el sp := e1
      rw [e1] at hk
      simp only [Rows.uptoBulk] at hk
      omega
end Go.Proofs.YthenfioddnkjbaaGreatDoor.Bg
namespace Go.Proofs.YthenfioddnkjbaaGreatDoor
open Go.ChangeShapes Go.WideShapes Go.ChangeAt Go.RowKit Go.Deep
theorem gSyntax : Tryz.prog.globalNamed "strconv.ErrSyntax" = some 10 := by kernel_rfl
theorem tSyntax : (Tryz.prog.globals[10]?).map (·.type) = some 57 := by kernel_rfl
theorem gx_of {W : World} (hL : laidMetH Tryz.prog theLaid W) (hsh : W.ShapedOpen Tryz.prog) : ∃ a b r s, Rt.Gx W a b r s := by
  have h9 := (laid_parts hL).1
  obtain ⟨a0, a1, s0, s1, c0, c1, t0, t1, hv0, hv1, hc0, hs0, hz0, hc1, hs1, hz1, hne, hb0, hb1⟩ := laid_sentinels2 h9.tail.tail.tail.tail.tail.tail gForm tForm gLimit tLimit Tryz.underlying57 rowE Tryz.underlying230 Tryz.underlying232 rfl rfl Tryz.underlying9 cellsE cellsS
  obtain ⟨a2, a3, s2, s3, c2, c3, t2, t3, hv2, hv3, hc2, hs2, hz2, hc3, hs3, hz3, hne2, hb2, hb3⟩ := laid_sentinels2 h9.tail.tail.tail.tail gRange tRange gSyntax tSyntax Tryz.underlying57 rowE Tryz.underlying230 Tryz.underlying232 rfl rfl Tryz.underlying9 cellsE cellsS
  refine ⟨a0, a1, a2, a3, ⟨⟨by simpa using World.var?_cell gForm hv0 0, by simpa using World.var?_cell gLimit hv1 0, handle_of hL, hne, ⟨_, _, hb0⟩, ⟨_, _, hb1⟩⟩, ?_, by simpa using World.var?_cell gRange hv2 0, by simpa using World.var?_cell gSyntax hv3 0, Ne.symm hne2, ⟨_, _, hb2⟩, ⟨_, _, hb3⟩⟩⟩
  exact Go.Proofs.cell_of_shapedOpen_int (zero := #[.int .i64 0]) (t := 3) hsh (of_decide_eq_true (by kernel_rfl)) (by kernel_rfl) rfl (by kernel_rfl) (by kernel_rfl) Tryz.underlying3
set_option maxRecDepth 100000 in
theorem opened_routeExact {H : Type} {enc : TypeId × Value → H} {W : World} {r : Reach} {b : Nat} {v : Value} {d : DataW H} {p : List MemPlace}
    (hv : Value.okWide Tryz.prog W r b 22 v) (h : DataW.Trod enc Tryz.prog W 0 (fun _ => true) true 22 v d p) (hk : Rows.uptoBulk d ≤ 1048576) (hL : laidMetH Tryz.prog theLaid W) (hsh : W.ShapedOpen Tryz.prog) :
    Calls Tryz.prog 3 #[v] W fun e w' => e = .returned (.bool true) ∧ Below W.heap.size W w' := by
  obtain ⟨a, c, xs, rfl, h1, h2, h3⟩ := Bg.open_steps hv h hk
  obtain ⟨ea, eb, ex, ey, hg⟩ := gx_of hL hsh
  exact Bg.law_exact (pow_of hL) hg h1 h2 h3
end Go.Proofs.YthenfioddnkjbaaGreatDoor
