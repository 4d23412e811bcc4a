import Derived.Test.YtmloaddbmkonoabKOpens
import Derived.Test.YtmloaddbmkonoabKPlays
import Derived.SizedLaws
namespace Go.Proofs.Ytmloaddbmkonoab
open Go.ChangeShapes Go.WideShapes Go.ChangeAt Go.RowKit Go.Deep

theorem cells_op : Try.prog.cellsOf 35 = 8 := by kernel_rfl
theorem cells_kind : Try.prog.cellsOf 3 = 1 := by kernel_rfl
theorem bytes_op : Try.prog.bytesOf 35 = 56 := by kernel_rfl

section
variable {H : Type} {enc : TypeId × Value → H} {w : World} {base : Nat} {spare : Nat → Bool} {held : Bool}
theorem trod_op {fuel : Nat} {cs : List Value} {y : DataW H × List MemPlace} (h : DataW.trod enc Try.prog w base spare held fuel 35 cs = some y) :
    ∃ x : OpS, x.ok ∧ cs = [.int .i64 x.k, .int .i64 x.pl, .int .u32 x.no, .int .u64 x.wi, .int .u64 x.nu, .int .u64 x.s.w, .int .u32 x.s.l, .int .u32 x.s.n] := by
  obtain ⟨hl, n, hfld⟩ := trod_field Try.underlying35 h
  rw [cells_op] at hl
  obtain ⟨c0, c1, c2, c3, c4, c5, c6, c7, rfl⟩ := list8 hl
  obtain ⟨y0, h0⟩ := hfld 0 _ rfl
  obtain ⟨y1, h1⟩ := hfld 1 _ rfl
  obtain ⟨y2, h2⟩ := hfld 2 _ rfl
  obtain ⟨y3, h3⟩ := hfld 3 _ rfl
  obtain ⟨y4, h4⟩ := hfld 4 _ rfl
  obtain ⟨y5, h5⟩ := hfld 5 _ rfl
  obtain ⟨a0, e0, _, w0⟩ := DataW.trod_int Try.underlying3 h0
  obtain ⟨a1, e1, _, w1⟩ := DataW.trod_int Try.underlying3 h1
  obtain ⟨a2, e2, _, w2⟩ := DataW.trod_int Try.underlying30 h2
  obtain ⟨a3, e3, _, w3⟩ := DataW.trod_int Try.underlying31 h3
  obtain ⟨a4, e4, _, w4⟩ := DataW.trod_int Try.underlying31 h4
  obtain ⟨b0, b1, b2, e5, v0, v1, v2⟩ := trod_stamp h5
  simp [cells_stamp, cells_kind, cells_u64, cells_u32] at e0 e1 e2 e3 e4 e5
  obtain ⟨rfl, rfl, rfl⟩ := e5
  subst e0 e1 e2 e3 e4
  exact ⟨⟨a0, a1, a2, a3, a4, ⟨b0, b1, b2⟩⟩, ⟨u32_of w2, u64_of w3, u64_of w4, u64_of v0, u32_of v1, u32_of v2⟩, rfl⟩
end

theorem open_script {H : Type} {enc : TypeId × Value → H} {W : World} {r : Reach} {b : Nat} {v : Value} {d : DataW H} {p : List MemPlace} {ts : List TypeId} {gs : List (DataW H)}
    (hv : Value.okWide Try.prog W r b 22 v) (h : DataW.Trod enc Try.prog W 0 (fun _ => true) true 22 v d p)
    (hsz : (DataW.weightsEach Try.prog (22 :: ts) (d :: gs)).all (· ≤ reachBytes) = true) :
    ∃ (a : Option Addr) (len cap : Nat) (f : Nat → OpS), v = .slice a len cap ∧ (len + 2) * 16 ≤ 140737488355328 ∧ OpRow W a len f ∧ ∀ i, i < len → (f i).ok := by
  obtain ⟨a0, len, cap, rfl⟩ := okWide_slice Try.underlying22 hv
  obtain ⟨fuel, hf⟩ := h
  rcases open_slice Try.underlying22 hf with ⟨e3, _⟩ | ⟨a, len', cap', m, n', D, Pl, e3, hb, hlc, hm, hmm, hxx, hel⟩
  · simp [Value.cells] at e3
    obtain ⟨rfl, rfl, rfl⟩ := e3
    exact ⟨none, 0, 0, fun _ => ⟨0, 0, 0, 0, 0, zst⟩, rfl, by omega, fun i hi => by omega, fun i hi => by omega⟩
  · simp [Value.cells] at e3
    obtain ⟨rfl, rfl, rfl⟩ := e3
    have hlm : len ≤ m := by rw [hmm]; split <;> omega
    have each : ∀ i, i < len → ∃ x : OpS, x.ok ∧ ∃ bb off, a = ⟨bb, off, none⟩ ∧ W.cell? ⟨bb, off + i * 8, none⟩ = some (.int .i64 x.k) ∧ W.cell? ⟨bb, off + i * 8 + 1, none⟩ = some (.int .i64 x.pl) ∧
        W.cell? ⟨bb, off + i * 8 + 2, none⟩ = some (.int .u32 x.no) ∧ W.cell? ⟨bb, off + i * 8 + 3, none⟩ = some (.int .u64 x.wi) ∧ W.cell? ⟨bb, off + i * 8 + 4, none⟩ = some (.int .u64 x.nu) ∧
        W.cell? ⟨bb, off + i * 8 + 5, none⟩ = some (.int .u64 x.s.w) ∧ W.cell? ⟨bb, off + i * 8 + 6, none⟩ = some (.int .u32 x.s.l) ∧ W.cell? ⟨bb, off + i * 8 + 7, none⟩ = some (.int .u32 x.s.n) := by
      intro i hi
      obtain ⟨cs', hc, ht⟩ := hel i (by omega)
      obtain ⟨x, hx, rfl⟩ := trod_op ht
      rw [cells_op] at hc
      obtain ⟨_, _, hcell⟩ := World.cells?_some hc
      have e0 := hcell 0 (by omega)
      have e1 := hcell 1 (by omega)
      have e2 := hcell 2 (by omega)
      have e3 := hcell 3 (by omega)
      have e4 := hcell 4 (by omega)
      have e5 := hcell 5 (by omega)
      have e6 := hcell 6 (by omega)
      have e7 := hcell 7 (by omega)
      obtain ⟨bb, off, spot⟩ := a
      have hspot : spot = none := by
        obtain ⟨cs', hc, ht⟩ := hel 0 (by omega)
        obtain ⟨x, hx, rfl⟩ := trod_op ht
        rw [cells_op] at hc
        obtain ⟨_, _, hcell⟩ := World.cells?_some hc
        have := World.cell?_spot (hcell 0 (by omega))
        simpa [Addr.add] using this
      subst hspot
      simp only [Addr.add_lit, Nat.add_zero] at e0 e1 e2 e3 e4 e5 e6 e7
      exact ⟨x, hx, bb, off, rfl, by simpa using e0, by simpa using e1, by simpa using e2, by simpa using e3, by simpa using e4, by simpa using e5, by simpa using e6, by simpa using e7⟩
    obtain ⟨q, hq⟩ := @choose_lt OpS ⟨⟨0, 0, 0, 0, 0, zst⟩⟩ _ _ each
    injection hxx with hx1 _
    have hs : len * 56 ≤ 140737488351232 := by
      rw [hx1] at hsz
      have := sized_slice hsz (j := 0) (t := 22) (e := 35) rfl rfl Try.underlying22
      rw [bytes_op] at this
      simp only [reachBytes, List.length_map, List.length_range] at this
      omega
    refine ⟨some a, len, cap, q, rfl, by omega, fun i hi => ?_, fun i hi => (hq i hi).1⟩
    obtain ⟨_, bb, off, e, c0, c1, c2, c3, c4, c5, c6, c7⟩ := hq i hi
    exact ⟨bb, off, by rw [e], c0, c1, c2, c3, c4, c5, c6, c7⟩

end Go.Proofs.Ytmloaddbmkonoab
