import Derived.Test.YtpnbgdbkiokooaaDoorFlScr
/- A script of steps, opened. -/
namespace Go.Proofs.YtpnbgdbkiokooaaDoor.Fl
open Go.ChangeShapes Go.WideShapes Go.ChangeAt Go.RowKit Go.Deep Go.Proofs.YtpnbgdbkiokooaaDoor
abbrev mt0 : ByteArray := ⟨#[]⟩
set_option linter.unusedVariables false

theorem cells_str : Tryd.prog.cellsOf 9 = 1 := by kernel_rfl
theorem cells_i : Tryd.prog.cellsOf 3 = 1 := by kernel_rfl
theorem cells_strs : Tryd.prog.cellsOf 22 = 1 := by kernel_rfl
theorem cells_Step : Tryd.prog.cellsOf 45 = 4 := by kernel_rfl
theorem list4f {α : Type} {cs : List α} (h : cs.length = 4) : ∃ c0 c1 c2 c3, cs = [c0, c1, c2, c3] := by
  match cs, h with
  | [c0, c1, c2, c3], _ => exact ⟨c0, c1, c2, c3, rfl⟩
section
variable {H : Type} {enc : TypeId × Value → H} {w : World} {base : Nat} {fuel : Nat} {cs : List Value} {y : DataW H × List MemPlace}
/-- a list of texts -/
theorem strs_cell {v : Value} (hf : DataW.trod enc Tryd.prog w base (fun _ => true) true fuel 22 [v] = some y) (hr : InReach 22 y.1) :
    ∃ l : List ByteArray, Rd w v l ∧ l.length + 1 ≤ Rows.uptoBulk y.1 := by
  obtain ⟨a, cap, xs, rfl, hcap, _, hrow, hel⟩ := open_rows Tryd.underlying22 cells_str (by decide) mt0 (fun x => [.string x]) (fun _ _ => True) (fun _ _ _ h _ => by obtain ⟨x, e, _, _⟩ := DataW.trod_string Tryd.underlying9 h; exact ⟨x, e, trivial⟩) hf hr
  refine ⟨xs, ⟨a, cap, rfl, fun i t e => ?_⟩, ?_⟩
  · have hi : i < xs.length := (List.getElem?_eq_some_iff.1 e).1
    obtain ⟨b, off, ha, hc⟩ := hrow i hi
    refine ⟨b, off, ha, ?_⟩
    have := hc 0 (.string t) (by rw [e]; rfl)
    simpa using this
  · rcases hel with rfl | ⟨el, sp, e1, e2, _⟩
    · have := bulk_pos y.1
      simpa using this
    · have := bulkAll_len el
      rw [e1]; simp only [Rows.uptoBulk]; omega
set_option maxRecDepth 100000 in
theorem trod_Step (h : DataW.trod enc Tryd.prog w base (fun _ => true) true fuel 45 cs = some y) (hr : InReach 45 y.1) : ∃ x : Sp, cs = spc x ∧ (Rd w x.v x.l ∧ x.l.length + 1 ≤ Rows.uptoBulk y.1) := by
  obtain ⟨ys, n, _, rfl, hl, hlen, hf⟩ := DataW.trod_struct Tryd.underlying45 h
  rw [cells_Step] at hl
  obtain ⟨c0, c1, c2, c3, rfl⟩ := list4f hl
  obtain ⟨y0, y1, y2, y3, rfl⟩ := list4f (cs := ys) (by simpa using hlen)
  obtain ⟨a0, e0, _, _⟩ := DataW.trod_int Tryd.underlying3 (hf 0 _ rfl)
  obtain ⟨a1, e1, _, _⟩ := DataW.trod_int Tryd.underlying3 (hf 1 _ rfl)
  obtain ⟨a2, e2, _, _⟩ := DataW.trod_int Tryd.underlying3 (hf 2 _ rfl)
  have h3 := hf 3 _ rfl
  have hc3 : DataW.trod enc Tryd.prog w base (fun _ => true) true n 22 [c3] = some y3 := by
    simpa [cells_i, cells_strs] using h3
  obtain ⟨l, hrd, hbl⟩ := strs_cell hc3 (InReach.part (ps := [y0.1, y1.1, y2.1, y3.1]) hr Tryd.underlying45 (j := 3) rfl rfl)
  simp [cells_i] at e0 e1 e2
  subst e0 e1 e2
  refine ⟨⟨a0, a1, a2, c3, l⟩, rfl, hrd, ?_⟩
  simp only [Rows.uptoBulk, Rows.uptoBulkAll, List.map_cons, List.map_nil]
  show l.length + 1 ≤ _
  omega
end
set_option maxRecDepth 100000 in
theorem open_steps {H : Type} {enc : TypeId × Value → H} {W : World} {r : Reach} {b : Nat} {v : Value} {d : DataW H} {p : List MemPlace}
    (hv : Value.okWide Tryd.prog W r b 35 v) (h : DataW.Trod enc Tryd.prog W 0 (fun _ => true) true 35 v d p) (hk : Rows.uptoBulk d ≤ 1048576) :
    ∃ (a : Option Addr) (cap : Nat) (xs : List Sp), v = .slice a xs.length cap ∧ RowP W a xs ∧ (∀ x ∈ xs, Rd W x.v x.l) ∧ sz xs ≤ 1048576 := by
  obtain ⟨a0, len, cap, rfl⟩ := okWide_slice Tryd.underlying35 hv
  obtain ⟨fuel, hf⟩ := h
  obtain ⟨a, cap, xs, e, _, _, hrow, hel⟩ := open_rows Tryd.underlying35 cells_Step (by decide) spz spc (fun x d => Rd W x.v x.l ∧ x.l.length + 1 ≤ Rows.uptoBulk d) (fun _ _ _ h k => trod_Step h k) hf (.inr hk)
  refine ⟨a, cap, xs, e, hrow, ?_, ?_⟩
  · rcases hel with rfl | ⟨el, sp, _, _, e3⟩
    · simp
    · intro x hx
      obtain ⟨i, hi, rfl⟩ := List.getElem_of_mem hx
      obtain ⟨d, _, hg⟩ := e3 i hi
      rw [List.getElem?_eq_getElem hi] at hg
      exact hg.1
  · rcases hel with rfl | ⟨el, sp, e1, e2, e3⟩
    · simp [sz]
    · have hs := bulkAll_sum spz (fun s : Sp => s.l.length + 1) e2 (fun i hi => by
        obtain ⟨d, hd, hg⟩ := e3 i hi
        exact ⟨d, hd, hg.2⟩)
      have e1 : d = .slice el sp := e1
      rw [e1] at hk
      simp only [Rows.uptoBulk] at hk
      unfold sz
      omega
end Go.Proofs.YtpnbgdbkiokooaaDoor.Fl
