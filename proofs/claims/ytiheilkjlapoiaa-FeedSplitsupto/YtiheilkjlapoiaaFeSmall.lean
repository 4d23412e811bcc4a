import Derived.Test.YtiheilkjlapoiaaFeSplitP
/- The law's small functions. -/
namespace Go.Proofs.Ytiheilkjlapoiaa.Lg
open Go.RowKit Go.Sort Go.Shelf Go.Lib Lk
set_option linter.unusedVariables false

theorem lbelow_is {a b c x y z : Int} {u : Bool} (hu : lessB a b c x y z = u) (w : World) : Calls Try.prog 6 #[.agg #[.int .u64 a, .int .u32 b, .int .u32 c], .agg #[.int .u64 x, .int .u32 y, .int .u32 z]] w fun e w' => e = .returned (.bool u) ∧ Grew w w' := by
  by_cases h1 : a = x
  · subst h1
    have h1' : (a != a) = false := by simp
    by_cases h2 : b = y
    · subst h2
      have h2' : (b != b) = false := by simp
      have e : u = decide (c < z) := by rw [← hu]; simp [lessB]
      subst e
      clear hu
      go_enter Try.func6, Try.ntmps6
      go_wp2_with fail
      go_ret
      exact ⟨rfl, ((Grew.refl w).al _).al _⟩
    · have h2' : (b != y) = true := by simpa using h2
      have e : u = decide (b < y) := by rw [← hu]; simp [lessB, h2]
      subst e
      clear hu
      go_enter Try.func6, Try.ntmps6
      go_wp2_with fail
      go_ret
      exact ⟨rfl, ((Grew.refl w).al _).al _⟩
  · have h1' : (a != x) = true := by simpa using h1
    have e : u = decide (a < x) := by rw [← hu]; simp [lessB, h1]
    subst e
    clear hu
    go_enter Try.func6, Try.ntmps6
    go_wp2_with fail
    go_ret
    exact ⟨rfl, ((Grew.refl w).al _).al _⟩
def nthR (xs : List Vr) (i : Nat) : Vr := (xs[i]?).getD Vr.zero
/-- a row of versions that is read -/
def RowVr (w : World) (a : Option Addr) (xs : List Vr) : Prop :=
  ∀ i, i < xs.length → ∃ b off, a = some ⟨b, off, none⟩ ∧ (∀ j v, (vcs (nthR xs i))[j]? = some v → w.cell? ⟨b, off + i * 6 + j, none⟩ = some v)
theorem RowVr.later {w w' : World} {a : Option Addr} {xs : List Vr} (h : RowVr w a xs) (hb : Below w.heap.size w w') : RowVr w' a xs := fun i hi => by
  obtain ⟨b, off, e, hc⟩ := h i hi
  exact ⟨b, off, e, fun j v hj => cell_later hb (hc j v hj)⟩
theorem rowVr_of_owns {W : World} {B n c : Nat} {a : Option Addr} {E : List Vr} (h : W.ownsRow B 47 6 (.slice a n c) n (E.flatMap vcs)) (hn : E.length = n) : RowVr W a E := fun i hi => by
  obtain ⟨g, ea, hB, hcs⟩ := own_cells h (by omega)
  refine ⟨g, 0, ea, fun j v hj => ?_⟩
  have hj6 : j < 6 := by
    have := (List.getElem?_eq_some_iff.1 hj).1
    rwa [vcs_len] at this
  letI : Inhabited Vr := ⟨Vr.zero⟩
  have e : E[i]! = nthR E i := by rw [getElem!_pos E i hi, nthR, List.getElem?_eq_getElem hi]; rfl
  rw [Nat.zero_add]
  exact hcs _ _ (by rw [fm_get vcs_len E i j hi hj6, e]; exact hj)
theorem run_neVr (x : Vr) (w : World) : (binOp .neq 47 (.agg #[.string x.key, .int .u64 x.w, .int .u32 x.l, .int .u32 x.n, .bool x.del, .string x.val]) (.agg #[.string x.key, .int .u64 x.w, .int .u32 x.l, .int .u32 x.n, .bool x.del, .string x.val])).run Try.prog w = .ok (.bool false) w := by
  simp [go_sem, Try.underlying47]
set_option maxHeartbeats 1000000 in
/-- two rows of one and the same -/
theorem lsame_is {a b : Option Addr} {n c d : Nat} {xs : List Vr} {w : World} (h : RowVr w a xs) (k : RowVr w b xs) (hn : xs.length = n) (hl : n ≤ 1152921504606846976) :
    Calls Try.prog 8 #[.slice a n c, .slice b n d] w fun e w' => e = .returned (.bool true) ∧ Below w.heap.size w w' := by
  have HA := hid h
  have HK := hid k
  have HN := hid hn
  clear h k hn
  go_enter Try.func8, Try.ntmps8
  go_wp2_with fail
  go_loopg [5] n (fun g s5 wr => ∃ i : Nat, i ≤ n ∧ g = n - i ∧ s5 = .int .i64 i ∧ Hid (Below w.heap.size w wr))
  case atStart => exact ⟨0, by omega, by omega, rfl, Below.refl _ _⟩
  case round =>
    obtain ⟨i, hi, rfl, rfl, HB⟩ := hrel
    by_cases hlt : i < n
    · obtain ⟨ba, oa, ea, va⟩ := (HA.out.later HB.out) i (by have := HN.out; omega)
      obtain ⟨bb, ob, eb, vb⟩ := (HK.out.later HB.out) i (by have := HN.out; omega)
      obtain ⟨x, hx⟩ : ∃ x, x = nthR xs i := ⟨_, rfl⟩
      rw [← hx] at va vb
      subst ea eb
      have a0 : wr.cell? ⟨ba, oa + i * 6, none⟩ = some (.string x.key) := va 0 _ rfl
      have a1 : wr.cell? ⟨ba, oa + i * 6 + 1, none⟩ = some (.int .u64 x.w) := va 1 _ rfl
      have a2 : wr.cell? ⟨ba, oa + i * 6 + 2, none⟩ = some (.int .u32 x.l) := va 2 _ rfl
      have a3 : wr.cell? ⟨ba, oa + i * 6 + 3, none⟩ = some (.int .u32 x.n) := va 3 _ rfl
      have a4 : wr.cell? ⟨ba, oa + i * 6 + 4, none⟩ = some (.bool x.del) := va 4 _ rfl
      have a5 : wr.cell? ⟨ba, oa + i * 6 + 5, none⟩ = some (.string x.val) := va 5 _ rfl
      have b0 : wr.cell? ⟨bb, ob + i * 6, none⟩ = some (.string x.key) := vb 0 _ rfl
      have b1 : wr.cell? ⟨bb, ob + i * 6 + 1, none⟩ = some (.int .u64 x.w) := vb 1 _ rfl
      have b2 : wr.cell? ⟨bb, ob + i * 6 + 2, none⟩ = some (.int .u32 x.l) := vb 2 _ rfl
      have b3 : wr.cell? ⟨bb, ob + i * 6 + 3, none⟩ = some (.int .u32 x.n) := vb 3 _ rfl
      have b4 : wr.cell? ⟨bb, ob + i * 6 + 4, none⟩ = some (.bool x.del) := vb 4 _ rfl
      have b5 : wr.cell? ⟨bb, ob + i * 6 + 5, none⟩ = some (.string x.val) := vb 5 _ rfl
      have qq := fun W => run_neVr x W
      clear va vb hx
      go_wp2_with fail
      all_goals (try go_region)
      all_goals (try go_wp2_with fail)
      go_roundg (n - (i + 1))
      case measure => omega
      case rel => exact ⟨i + 1, by omega, rfl, by go_num, hid (Below.drew HB.out)⟩
    · go_wp2_with fail
      go_ret
      exact ⟨rfl, HB.out⟩
end Go.Proofs.Ytiheilkjlapoiaa.Lg
