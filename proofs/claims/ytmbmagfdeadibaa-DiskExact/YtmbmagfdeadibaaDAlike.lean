import Derived.Test.YtmbmagfdeadibaaDFace
namespace Go.Proofs.Ytmbmagfdeadibaa
open Go.RowKit Go.Sort
set_option linter.unusedVariables false
variable {R : World → (Nat → Prop) → Nat → Dk → Prop}

theorem i64_small {i : Nat} (h : i ≤ 2) : I64 (i : Int) := ⟨by omega, by omega⟩
set_option maxHeartbeats 2000000 in
theorem alike_is (I : Face R) {w : World} {F G : Nat → Prop} {p q : Nat} {d : Dk} (h : R w F p d) (h' : R w G q d) :
    Calls Try.prog 20 #[ptr p, ptr q] w fun e w' => e = .returned (.bool true) ∧ Below w.heap.size w w' := by
  have HI := hid I
  have HP := hid h
  have HQ := hid h'
  have hne : ∀ i : Nat, ((d.synced i : Int) != (d.synced i : Int)) = false := fun i => by simp
  have hfe : ((d.free : Int) == (d.free : Int)) = true := by simp
  have hue : ((d.used : Int) == (d.used : Int)) = true := by simp
  clear I h h'
  go_enter Try.func20, Try.ntmps20
  go_wp2_with fail
  go_loopg [5] 2 (fun g s5 wr => ∃ i : Nat, i ≤ 2 ∧ g = 2 - i ∧ s5 = .int .i64 i ∧ Hid (Below w.heap.size w wr))
  case atStart => exact ⟨0, by omega, by omega, rfl, Below.refl _ _⟩
  case round =>
    obtain ⟨i, hi, rfl, rfl, HB⟩ := hrel
    by_cases hlt : i < 2
    · go_wp2_with fail
      refine (HI.out.bytes (HI.out.later HP.out HB.out) i (i64_small hi)).mono ?_
      rintro e w1 ⟨rfl, hb1⟩
      have HB1 := hid (Below.on HB.out hb1)
      clear hb1
      go_wp2_with fail
      refine (HI.out.bytes (HI.out.later HQ.out HB1.out) i (i64_small hi)).mono ?_
      rintro e w2 ⟨rfl, hb2⟩
      have HB2 := hid (Below.on HB1.out hb2)
      clear hb2
      go_wp2_with fail
      refine (HI.out.synced (HI.out.later HP.out HB2.out) i (i64_small hi)).mono ?_
      rintro e w3 ⟨rfl, hb3⟩
      have HB3 := hid (Below.on HB2.out hb3)
      clear hb3
      go_wp2_with fail
      refine (HI.out.synced (HI.out.later HQ.out HB3.out) i (i64_small hi)).mono ?_
      rintro e w4 ⟨rfl, hb4⟩
      have HB4 := hid (Below.on HB3.out hb4)
      clear hb4
      go_wp2_with fail
      go_roundg (2 - (i + 1))
      case measure => omega
      case rel => exact ⟨i + 1, by omega, rfl, by go_num, HB4⟩
    · obtain rfl : i = 2 := by omega
      go_wp2_with fail
      refine (HI.out.free (HI.out.later HP.out HB.out)).mono ?_
      rintro e w1 ⟨rfl, hb1⟩
      have HB1 := hid (Below.on HB.out hb1)
      clear hb1
      go_wp2_with fail
      refine (HI.out.free (HI.out.later HQ.out HB1.out)).mono ?_
      rintro e w2 ⟨rfl, hb2⟩
      have HB2 := hid (Below.on HB1.out hb2)
      clear hb2
      go_wp2_with fail
      refine (HI.out.used (HI.out.later HP.out HB2.out)).mono ?_
      rintro e w3 ⟨rfl, hb3⟩
      have HB3 := hid (Below.on HB2.out hb3)
      clear hb3
      go_wp2_with fail
      refine (HI.out.used (HI.out.later HQ.out HB3.out)).mono ?_
      rintro e w4 ⟨rfl, hb4⟩
      have HB4 := hid (Below.on HB3.out hb4)
      clear hb4
      go_wp2_with fail
      go_ret
      exact ⟨by first | rfl | simp, HB4.out⟩

/-- steps in memory -/
def zstp : Stp := ⟨0, 0, 0, 0, 0, []⟩
def nthS (xs : List Stp) (i : Nat) : Stp := (xs[i]?).getD zstp
def RowS (w : World) (a : Option Addr) (xs : List Stp) : Prop :=
  ∀ i, i < xs.length → (nthS xs i).ok ∧ ∃ b off, a = some ⟨b, off, none⟩ ∧ w.cell? ⟨b, off + i * 6, none⟩ = some (.int .i64 (nthS xs i).k) ∧ w.cell? ⟨b, off + i * 6 + 1, none⟩ = some (.int .i64 (nthS xs i).o) ∧ w.cell? ⟨b, off + i * 6 + 2, none⟩ = some (.int .i64 (nthS xs i).s)
    ∧ w.cell? ⟨b, off + i * 6 + 3, none⟩ = some (.int .i64 (nthS xs i).n) ∧ w.cell? ⟨b, off + i * 6 + 4, none⟩ = some (.int .i64 (nthS xs i).m) ∧ w.cell? ⟨b, off + i * 6 + 5, none⟩ = some (.string (ofNats (nthS xs i).t))
theorem RowS.below {w w' : World} {B : Nat} {a : Option Addr} {xs : List Stp} (h : RowS w a xs) (hB : w.heap.size = B) (hb : Below B w w') : RowS w' a xs := fun i hi => by
  subst hB
  obtain ⟨ho, b, off, e, h0, h1, h2, h3, h4, h5⟩ := h i hi
  exact ⟨ho, b, off, e, cell_later hb h0, cell_later hb h1, cell_later hb h2, cell_later hb h3, cell_later hb h4, cell_later hb h5⟩
theorem nthS_take {xs : List Stp} {k : Nat} (h : k < xs.length) : xs.take (k + 1) = xs.take k ++ [nthS xs k] := by
  rw [List.take_succ_eq_append_getElem h]; simp [nthS, h]
/-- what steps do -/
def Dk.acts (d : Dk) (xs : List Stp) : Dk := xs.foldl Dk.act d
theorem acts_snoc (d : Dk) (xs : List Stp) (x : Stp) : d.acts (xs ++ [x]) = (d.acts xs).act x := by simp [Dk.acts]
theorem Dk.ok.act {d : Dk} (h : d.ok) {x : Stp} (hx : x.ok) : (d.act x).ok := by
  unfold Dk.act
  repeat' split
  · exact h.app _ hx.t
  · exact h.sync
  · exact h.cut _ _
  · exact h.cut _ _
  · exact h.crash _ _
  · exact h
/-- behind a call whose blocks are all new: nothing of w has changed -/
theorem Moved.new {w w1 w' : World} {F : Nat → Prop} {p : Nat} {d : Dk} (h : Moved R w1 w' F p d) (hb : Below w.heap.size w w1) (hF : ∀ k, F k → w.heap.size ≤ k) : ∃ F', R w' F' p d ∧ (∀ k, F' k → w.heap.size ≤ k) ∧ Below w.heap.size w w' ∧ Onl F w1 w' ∧ ∀ k, F' k → F k ∨ w1.heap.size ≤ k := by
  obtain ⟨F', h1, h2, h3⟩ := h
  refine ⟨F', h1, fun k hk => ?_, hb.trans (h2.below hF hb.size), h2, h3⟩
  rcases h3 k hk with h4 | h4
  · exact hF k h4
  · exact Nat.le_trans hb.size h4

end Go.Proofs.Ytmbmagfdeadibaa
