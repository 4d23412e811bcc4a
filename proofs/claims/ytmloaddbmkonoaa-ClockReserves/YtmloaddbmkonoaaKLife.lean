import Derived.Test.YtmloaddbmkonoaaKOpens
import Derived.Test.YtmloaddbmkonoaaKBox
namespace Go.Proofs.Ytmloaddbmkonoaa
open Go.ChangeShapes Go.WideShapes Go.ChangeAt Go.RowKit Go.Deep

/-- a step -/
structure SStep where
  k : Int
  a : Int
  s : St
def SStep.ok (x : SStep) : Prop := U64 x.a ∧ x.s.ok
/-- the steps f lie in memory from the address a on -/
def StepRow (w : World) (a : Option Addr) (n : Nat) (f : Nat → SStep) : Prop :=
  ∀ i, i < n → ∃ b off, a = some ⟨b, off, none⟩ ∧ w.cell? ⟨b, off + i * 5, none⟩ = some (.int .i64 (f i).k) ∧ w.cell? ⟨b, off + i * 5 + 1, none⟩ = some (.int .u64 (f i).a) ∧
    w.cell? ⟨b, off + i * 5 + 2, none⟩ = some (.int .u64 (f i).s.w) ∧ w.cell? ⟨b, off + i * 5 + 3, none⟩ = some (.int .u32 (f i).s.l) ∧ w.cell? ⟨b, off + i * 5 + 4, none⟩ = some (.int .u32 (f i).s.n)
theorem StepRow.later {w w' : World} {a : Option Addr} {n : Nat} {f : Nat → SStep} (h : StepRow w a n f) (hb : Below w.heap.size w w') : StepRow w' a n f := fun i hi => by
  obtain ⟨b, off, e, h0, h1, h2, h3, h4⟩ := h i hi
  exact ⟨b, off, e, cell_later hb h0, cell_later hb h1, cell_later hb h2, cell_later hb h3, cell_later hb h4⟩

theorem cells_step : Try.prog.cellsOf 32 = 5 := by kernel_rfl
theorem cells_life : Try.prog.cellsOf 26 = 4 := by kernel_rfl
theorem cells_int : Try.prog.cellsOf 3 = 1 := by kernel_rfl
theorem cells_steps : Try.prog.cellsOf 24 = 1 := by kernel_rfl

section
variable {H : Type} {enc : TypeId × Value → H} {w : World} {base : Nat} {spare : Nat → Bool} {held : Bool}
theorem trod_step {fuel : Nat} {cs : List Value} {y : DataW H × List MemPlace} (h : DataW.trod enc Try.prog w base spare held fuel 32 cs = some y) :
    ∃ x : SStep, x.ok ∧ cs = [.int .i64 x.k, .int .u64 x.a, .int .u64 x.s.w, .int .u32 x.s.l, .int .u32 x.s.n] := by
  obtain ⟨hl, n, hfld⟩ := trod_field Try.underlying32 h
  rw [cells_step] at hl
  obtain ⟨c0, c1, c2, c3, c4, rfl⟩ := list5 hl
  obtain ⟨y0, h0⟩ := hfld 0 _ rfl
  obtain ⟨y1, h1⟩ := hfld 1 _ rfl
  obtain ⟨y2, h2⟩ := hfld 2 _ rfl
  obtain ⟨a0, e0, _, w0⟩ := DataW.trod_int Try.underlying3 h0
  obtain ⟨a1, e1, _, w1⟩ := DataW.trod_int Try.underlying23 h1
  obtain ⟨b0, b1, b2, e2, v0, v1, v2⟩ := trod_stamp h2
  simp [cells_stamp, cells_int, cells_u64] at e0 e1 e2
  obtain ⟨rfl, rfl, rfl⟩ := e2
  subst e0 e1
  exact ⟨⟨a0, a1, ⟨b0, b1, b2⟩⟩, ⟨u64_of w1, u64_of v0, u32_of v1, u32_of v2⟩, rfl⟩
end

/-- a life: three numbers and a row of steps -/
theorem open_life {H : Type} {enc : TypeId × Value → H} {W : World} {r : Reach} {b : Nat} {v : Value} {d : DataW H} {p : List MemPlace}
    (hv : Value.okWide Try.prog W r b 26 v) (h : DataW.Trod enc Try.prog W 0 (fun _ => true) true 26 v d p) :
    ∃ (n g c : Int) (a : Option Addr) (len cap : Nat) (f : Nat → SStep), v = .agg #[.int .u32 n, .int .u64 g, .int .u64 c, .slice a len cap] ∧ U32 n ∧ U64 g ∧ U64 c ∧ len ≤ 9223372036854775807 ∧ StepRow W a len f ∧ ∀ i, i < len → (f i).ok := by
  obtain ⟨cs, rfl, hs⟩ := okWide_struct Try.underlying26 hv
  obtain ⟨fuel, hf⟩ := h
  obtain ⟨hl, n, hfld⟩ := trod_field Try.underlying26 hf
  rw [cells_life] at hl
  obtain ⟨cs⟩ := cs
  simp only [Value.cells] at hl hfld
  obtain ⟨c0, c1, c2, c3, rfl⟩ := list4 hl
  obtain ⟨y0, h0⟩ := hfld 0 _ rfl
  obtain ⟨y1, h1⟩ := hfld 1 _ rfl
  obtain ⟨y2, h2⟩ := hfld 2 _ rfl
  obtain ⟨y3, h3⟩ := hfld 3 _ rfl
  obtain ⟨a0, e0, _, w0⟩ := DataW.trod_int Try.underlying22 h0
  obtain ⟨a1, e1, _, w1⟩ := DataW.trod_int Try.underlying23 h1
  obtain ⟨a2, e2, _, w2⟩ := DataW.trod_int Try.underlying23 h2
  simp [cells_u32, cells_u64] at e0 e1 e2
  subst e0 e1 e2
  rcases open_slice Try.underlying24 h3 with ⟨e3, _⟩ | ⟨a, len, cap, m, n', D, Pl, e3, hb, hlc, hm, hmm, _, hel⟩
  · simp [cells_steps] at e3
    subst e3
    exact ⟨a0, a1, a2, none, 0, 0, fun _ => ⟨0, 0, zst⟩, rfl, u32_of w0, u64_of w1, u64_of w2, by omega, fun i hi => by omega, fun i hi => by omega⟩
  · simp [cells_steps] at e3
    subst e3
    have each : ∀ i, i < len → ∃ x : SStep, x.ok ∧ ∃ bb off, a = ⟨bb, off, none⟩ ∧ W.cell? ⟨bb, off + i * 5, none⟩ = some (.int .i64 x.k) ∧ W.cell? ⟨bb, off + i * 5 + 1, none⟩ = some (.int .u64 x.a) ∧
        W.cell? ⟨bb, off + i * 5 + 2, none⟩ = some (.int .u64 x.s.w) ∧ W.cell? ⟨bb, off + i * 5 + 3, none⟩ = some (.int .u32 x.s.l) ∧ W.cell? ⟨bb, off + i * 5 + 4, none⟩ = some (.int .u32 x.s.n) := by
      intro i hi
      have hlm : len ≤ m := by rw [hmm]; split <;> omega
      obtain ⟨cs', hc, ht⟩ := hel i (by omega)
      obtain ⟨x, hx, rfl⟩ := trod_step ht
      rw [cells_step] at hc
      obtain ⟨_, _, hcell⟩ := World.cells?_some hc
      have e0 := hcell 0 (by omega)
      have e1 := hcell 1 (by omega)
      have e2 := hcell 2 (by omega)
      have e3 := hcell 3 (by omega)
      have e4 := hcell 4 (by omega)
      obtain ⟨bb, off, spot⟩ := a
      have hspot : spot = none := by
        obtain ⟨cs', hc, ht⟩ := hel 0 (by omega)
        obtain ⟨x, hx, rfl⟩ := trod_step ht
        rw [cells_step] at hc
        obtain ⟨_, _, hcell⟩ := World.cells?_some hc
        have := World.cell?_spot (hcell 0 (by omega))
        simpa [Addr.add] using this
      subst hspot
      simp only [Addr.add_lit, Nat.add_zero] at e0 e1 e2 e3 e4
      exact ⟨x, hx, bb, off, rfl, by simpa using e0, by simpa using e1, by simpa using e2, by simpa using e3, by simpa using e4⟩
    obtain ⟨q, hq⟩ := @choose_lt SStep ⟨⟨0, 0, zst⟩⟩ _ _ each
    refine ⟨a0, a1, a2, some a, len, cap, q, rfl, u32_of w0, u64_of w1, u64_of w2, by unfold maxLen at hm; omega, fun i hi => ?_, fun i hi => (hq i hi).1⟩
    obtain ⟨_, bb, off, e, c0, c1, c2, c3, c4⟩ := hq i hi
    exact ⟨bb, off, by rw [e], c0, c1, c2, c3, c4⟩

/-- the argument's box, a clock and a stamp of our own -/
structure LifeAt (w W : World) (N p q : Nat) (vs : List Value) (c : Ck) (s : St) : Prop where
  below : Below w.heap.size w W
  box : BoxAt W N vs
  ck : ClockAt W p c
  hi : StampAt W q s.w s.l s.n
  loose : Loose W q
  n0 : w.heap.size ≤ N
  np : N ≠ p
  nq : N ≠ q
  pq : p ≠ q
  p0 : w.heap.size ≤ p
  q0 : w.heap.size ≤ q
theorem LifeAt.later {w W W' : World} {N p q : Nat} {vs : List Value} {c : Ck} {s : St} (R : LifeAt w W N p q vs c s) (hb : Below W.heap.size W W') : LifeAt w W' N p q vs c s :=
  ⟨Below.on R.below hb, R.box.later hb, R.ck.later hb, R.hi.later hb, R.loose.later hb R.hi.lt, R.n0, R.np, R.nq, R.pq, R.p0, R.q0⟩
theorem LifeAt.onC {w W W' : World} {N p q : Nat} {vs : List Value} {c c' : Ck} {s : St} (R : LifeAt w W N p q vs c s) (hb : Only p W W') (h : ClockAt W' p c') : LifeAt w W' N p q vs c' s :=
  ⟨R.below.trans (hb.below R.p0 R.below.size), R.box.only hb R.np, h, R.hi.only hb (fun e => R.pq e.symm), hb.loose (fun e => R.pq e.symm) R.hi.lt R.loose, R.n0, R.np, R.nq, R.pq, R.p0, R.q0⟩
theorem put_only (w : World) (q : Nat) (a b c : Int) : Only q w (putStamp w q a b c) := (((Only.refl _ _).set 0 _).set 1 _).set 2 _
theorem LifeAt.put {w W : World} {N p q : Nat} {vs : List Value} {c : Ck} {s : St} (R : LifeAt w W N p q vs c s) (x : St) : LifeAt w (putStamp W q x.w x.l x.n) N p q vs c x :=
  ⟨R.below.trans ((put_only W q _ _ _).below R.q0 R.below.size), R.box.only (put_only W q _ _ _) R.nq, R.ck.only (put_only W q _ _ _) R.pq, R.hi.put _ _ _, R.loose.put _ _ _, R.n0, R.np, R.nq, R.pq, R.p0, R.q0⟩

theorem tick_shape {g c n r : Int} {l : St} (h : Ck.ok ⟨g, c, n, r, l⟩) : ∃ l', tickC ⟨g, c, n, r, l⟩ = ⟨g, c, n, r, l'⟩ ∧ l'.ok ∧ l'.less l = false := by
  rcases tickN_cases _ h with ⟨_, e⟩ | ⟨_, h2, _, _, h5, e⟩
  · exact ⟨l, e, h.l, less_irr _ _ _⟩
  · refine ⟨_, e, h2, ?_⟩
    unfold St.less at h5 ⊢
    rw [lessB_iff] at h5
    rw [lessB_iff_false]
    dsimp only at h5
    omega

end Go.Proofs.Ytmloaddbmkonoaa
