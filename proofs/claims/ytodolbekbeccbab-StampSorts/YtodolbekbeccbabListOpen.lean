import Derived.Test.YtodolbekbeccbabOpens
import Derived.Test.YtodolbekbeccbabTab
import Derived.Deep.SlicePairs
namespace Go.Proofs.Ytodolbekbeccbab
open Go.ChangeShapes Go.WideShapes Go.ChangeAt Go.RowKit Go.Deep

theorem cells_list : Try.prog.cellsOf 31 = 1 := by kernel_rfl

theorem open_stamps {H : Type} {enc : TypeId × Value → H} {W : World} {r : Reach} {b : Nat} {v : Value} {d : DataW H} {p : List MemPlace}
    (hv : Value.okWide Try.prog W r b 31 v) (h : DataW.Trod enc Try.prog W 0 (fun _ => true) true 31 v d p) :
    ∃ (a : Option Addr) (c : Nat) (xs : List St), v = .slice a xs.length c ∧ Row W a xs ∧ (∀ x ∈ xs, x.ok) ∧ ((d = .nil ∧ xs = []) ∨ ∃ elems spare, d = .slice elems spare ∧ elems.length = xs.length) := by
  obtain ⟨a0, len, cap, rfl⟩ := okWide_slice Try.underlying31 hv
  obtain ⟨fuel, hf⟩ := h
  rcases DataW.trod_slice Try.underlying31 hf with ⟨h1, h2⟩ | ⟨a, len', cap', elems, rest, n, _, h1, h2, hb, hl, hm, hlen, hel, hsp, hns⟩
  · simp [Value.cells] at h1
    obtain ⟨rfl, rfl, rfl⟩ := h1
    simp only [Prod.mk.injEq] at h2
    exact ⟨none, 0, [], rfl, fun i hi => by simp at hi, fun x hx => by simp at hx, .inl ⟨h2.1, rfl⟩⟩
  · simp [Value.cells] at h1
    obtain ⟨rfl, rfl, rfl⟩ := h1
    simp only [Prod.mk.injEq] at h2
    have each : ∀ i, i < len → ∃ s : St, s.ok ∧ ∃ bb off, a = ⟨bb, off, none⟩ ∧ W.cell? ⟨bb, off + i * 3, none⟩ = some (.int .u64 s.w) ∧ W.cell? ⟨bb, off + i * 3 + 1, none⟩ = some (.int .u32 s.l) ∧ W.cell? ⟨bb, off + i * 3 + 2, none⟩ = some (.int .u32 s.n) := by
      intro i hi
      have he := hel i hi
      rw [cells_stamp] at he
      have hi' : i < elems.length := by omega
      rw [List.getElem?_eq_getElem hi'] at he
      obtain ⟨cs, hc, ht⟩ := Option.bind_eq_some_iff.1 he
      obtain ⟨x, y, z, rfl, w0, w1, w2⟩ := trod_stamp ht
      obtain ⟨_, _, hcell⟩ := World.cells?_some hc
      have e0 := hcell 0 (by omega)
      have e1 := hcell 1 (by omega)
      have e2 := hcell 2 (by omega)
      obtain ⟨bb, off, spot⟩ := a
      have hspot : spot = none := by
        have he := hel 0 (by omega)
        rw [cells_stamp] at he
        have hi' : 0 < elems.length := by omega
        rw [List.getElem?_eq_getElem hi'] at he
        obtain ⟨cs, hc, ht⟩ := Option.bind_eq_some_iff.1 he
        obtain ⟨x, y, z, rfl, w0, w1, w2⟩ := trod_stamp ht
        obtain ⟨_, _, hcell⟩ := World.cells?_some hc
        have := World.cell?_spot (hcell 0 (by omega))
        simpa [Addr.add] using this
      subst hspot
      simp only [Addr.add_lit, Nat.add_zero] at e0 e1 e2
      exact ⟨⟨x, y, z⟩, ⟨bounds_u64 w0, bounds_u32 w1, bounds_u32 w2⟩, bb, off, rfl, by simpa using e0, by simpa using e1, by simpa using e2⟩
    obtain ⟨q, hq⟩ := @choose_lt St ⟨zst⟩ _ _ each
    refine ⟨some a, cap, tab len q, by rw [tab_length], fun i hi => ?_, fun x hx => ?_, .inr ⟨_, _, h2.1, by rw [tab_length]; simpa using hlen⟩⟩
    · rw [tab_length] at hi
      rw [nth_tab q hi]
      obtain ⟨_, bb, off, e, c0, c1, c2⟩ := hq i hi
      exact ⟨bb, off, by rw [e], c0, c1, c2⟩
    · simp only [tab, List.mem_map, List.mem_range] at hx
      obtain ⟨i, hi, rfl⟩ := hx
      exact (hq i hi).1

end Go.Proofs.Ytodolbekbeccbab
