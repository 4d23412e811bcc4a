import Derived.Test.YtmbmagfdeadibaaDRoomLaw
/- Plain: what was synced stands. -/
namespace Go.Proofs.Ytmbmagfdeadibaa
open Go.RowKit Go.Sort
set_option linter.unusedVariables false
variable {R : World → (Nat → Prop) → Nat → Dk → Prop}

/-- u's bytes stand at v's beginning, and are synced -/
def Stands (u : List Nat) (v : Sl) : Prop := (∃ r, v.b = u ++ r) ∧ u.length ≤ v.s
theorem Stands.app {u : List Nat} {v : Sl} (h : Stands u v) (t : List Nat) : Stands u (v.app t) := by
  obtain ⟨⟨r, hr⟩, h2⟩ := h
  exact ⟨⟨r ++ t, by simp [Sl.app, hr]⟩, h2⟩
theorem Stands.sync {u : List Nat} {v : Sl} (h : Stands u v) : Stands u v.sync := by
  obtain ⟨⟨r, hr⟩, h2⟩ := h
  exact ⟨⟨r, hr⟩, by simp [Sl.sync, hr]⟩
theorem Stands.crash {u : List Nat} {v : Sl} (h : Stands u v) (hv : v.s ≤ v.b.length) (k : Int) : Stands u (v.crash k) := by
  obtain ⟨⟨r, hr⟩, h2⟩ := h
  have hl : u.length ≤ left v.b.length v.s k := by unfold left; omega
  refine ⟨⟨r.take (left v.b.length v.s k - u.length), ?_⟩, hl⟩
  show v.b.take (left v.b.length v.s k) = _
  rw [hr, List.take_append, List.take_of_length_le (by rw [← hr]; exact hl)]
/-- both slots -/
def StandsD (d e : Dk) : Prop := Stands d.x.b e.x ∧ Stands d.y.b e.y
def cutsB (x : Stp) : Bool := x.k == 6 || x.k == 7
theorem StandsD.act {d e : Dk} {x : Stp} (h : StandsD d e) (he : e.ok) (hx : ¬ (cutsB x = true ∧ (x.s = 0 ∨ x.s = 1))) : StandsD d (e.act x) := by
  have hcut : ∀ n, x.s ≠ 0 → x.s ≠ 1 → e.cut x.s n = e := fun n h0 h1 => by
    unfold Dk.cut
    split
    all_goals rfl
  unfold Dk.act
  split
  · unfold Dk.app
    split
    · split
      · exact ⟨h.1.app _, h.2⟩
      · split
        · exact ⟨h.1, h.2.app _⟩
        · exact h
    · exact h
  · split
    · exact ⟨h.1.sync, h.2.sync⟩
    · split
      · rename_i h6
        have hc : cutsB x = true := by simp [cutsB, h6]
        have hs : ¬ (x.s = 0 ∨ x.s = 1) := fun hh => hx ⟨hc, hh⟩
        rw [hcut _ (fun e => hs (.inl e)) (fun e => hs (.inr e))]; exact h
      · split
        · rename_i h7
          have hc : cutsB x = true := by simp [cutsB, h7]
          have hs : ¬ (x.s = 0 ∨ x.s = 1) := fun hh => hx ⟨hc, hh⟩
          rw [hcut _ (fun e => hs (.inl e)) (fun e => hs (.inr e))]; exact h
        · split
          · exact ⟨h.1.crash he.sx _, h.2.crash he.sy _⟩
          · exact h
theorem StandsD.start (d : Dk) : StandsD d.sync d.sync := ⟨⟨⟨[], by simp⟩, Nat.le_refl _⟩, ⟨⟨[], by simp⟩, Nat.le_refl _⟩⟩
theorem StandsD.at {d e : Dk} (h : StandsD d e) {j : Nat} (hj : j < 2) : (∃ r, e.bytes j = d.bytes j ++ r) ∧ (d.bytes j).length ≤ e.synced j := by
  have : j = 0 ∨ j = 1 := by omega
  rcases this with rfl | rfl
  · exact h.1
  · exact h.2
theorem cuts_is {x : Stp} {u : Bool} (hu : cutsB x = u) (w : World) :
    Calls Try.prog 16 #[x.val] w fun e w' => e = .returned (.bool u) ∧ Below w.heap.size w w' := by
  subst hu
  go_enter Try.func16, Try.ntmps16
  go_wp2_with fail
  all_goals go_ret
  all_goals refine ⟨?_, by (repeat (first | exact Below.refl _ _ | assumption | refine Below.drew ?_ | refine Below.al ?_ _ | refine Below.setCell ?_ (by first | exact Nat.le_refl _ | (simp; omega) | (simp; done)) _ | refine Below.on ?_ (by assumption)))⟩
  all_goals simp_all [cutsB]
/-- the disk at the beginning of DiskDurable -/
def durable0 (c : Int) : Dk := if 0 < c then (Dk.new c).app 0 [115] else Dk.new c

end Go.Proofs.Ytmbmagfdeadibaa
