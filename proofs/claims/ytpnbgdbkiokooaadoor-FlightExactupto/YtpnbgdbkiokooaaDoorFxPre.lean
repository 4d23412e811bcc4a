import Derived.Test.YtpnbgdbkiokooaaDoorFxKeep
/- Lists that are written into, and lengthened. -/
namespace Go.Proofs.YtpnbgdbkiokooaaDoor.Fl
open Go.RowKit Go.Sort Go.Proofs.YtpnbgdbkiokooaaDoor
set_option linter.unusedVariables false

/-- z begins as v does, or lies elsewhere -/
def Pf (v z : Value) (n n0 : Nat) : Prop := (∃ a n1 c1 n2 c2, v = .slice a n1 c1 ∧ z = .slice a n2 c2 ∧ n0 ≤ n) ∨ ∀ g, z.ownBlock = some g → v.ownBlock ≠ some g
theorem Pf.start {v : Value} {a : Option Addr} {n c : Nat} (h : v = .slice a n c) (m : Nat) : Pf v v m m := .inl ⟨a, n, c, n, c, h, h, Nat.le_refl _⟩
/-- what lies in the head of a row stays while texts are laid behind it -/
theorem append_pre {w : World} {B B0 : Nat} {v : Value} {xs : List ByteArray} (h : RowF w B v xs) {u : Value} {ys : List ByteArray} (hu : Rd w u ys) {ty : TypeId} {i : TypeInfo} (hi : Tryd.prog.info? 9 = some i) (hz : i.zero = some (.string ⟨#[]⟩)) (h1 : i.size = 1) (h2 : i.bytes = 16) (hl : (xs.length + ys.length) * 64 ≤ 140737488355328)
    {v' : Value} {w' : World} (hr : (Builtin.append_ #[22, 22] ty #[v, u]).run Tryd.prog w = .ok v' w') {z : Value} {x0 : List ByteArray} (hz0 : RowF w B0 z x0) (hp : Pf v z xs.length x0.length) : RowF w' B0 z x0 ∧ Pf v' z (xs.length + ys.length) x0.length := by
  have hs := hu.src (P := Tryd.prog) Tryd.underlying22
  have hs1 : Src Tryd.prog i.size 22 u ys.length (ys.map Value.string) w := by rw [h1]; exact hs
  by_cases h0 : ys = []
  · subst h0
    obtain ⟨a, c, rfl, hle, hmx⟩ := h.slice
    have hrun := run_append_nothing (P := Tryd.prog) w _ _ ty _ i Tryd.underlying22 hi a xs.length c hle u hs1
    rw [hr] at hrun
    injection hrun with e1 e2
    subst e1 e2
    exact ⟨hz0, hp⟩
  have hpos : 0 < ys.length := List.length_pos_iff.2 h0
  have grow : ∀ (a : Option Addr) (c : Nat), v = .slice a xs.length c → c < xs.length + ys.length → (∀ i t, xs[i]? = some t → ∃ b o, a = some ⟨b, o, none⟩ ∧ w.cell? ⟨b, o + i, none⟩ = some (.string t)) → RowF w' B0 z x0 ∧ Pf v' z (xs.length + ys.length) x0.length := by
    rintro a c rfl hc hx
    have hsx : Src Tryd.prog i.size 22 (.slice a xs.length c) xs.length (xs.map Value.string) w := by
      rw [h1]; exact Rd.src (P := Tryd.prog) Tryd.underlying22 ⟨a, c, rfl, hx⟩
    have hrun := run_append_grow_src (P := Tryd.prog) w 22 22 ty 9 i _ Tryd.underlying22 hi hz a xs.length c (xs.map Value.string) hsx.cellsD u ys.length (ys.map Value.string) hs1 hc (by omega) (growslice_fits hc (by rw [h2]; omega))
    rw [hr] at hrun
    injection hrun with e1 e2
    subst e1 e2
    refine ⟨hz0.keep fun g hg => Below.heap_alloc w.drew _ g (hz0.lt g hg).2, .inr fun g hg e => ?_⟩
    injection e with e
    have h3 := (hz0.lt g hg).2
    have e : w.heap.size = g := e
    omega
  rcases h with ⟨rfl, rfl⟩ | ⟨g, off, c, rfl, hg, h⟩
  · exact grow none 0 rfl (by simpa using hpos) (fun i t e => by simp at e)
  · by_cases hrm : xs.length + ys.length ≤ c
    · have hrun := run_append_room_src (P := Tryd.prog) w 22 22 ty 9 i Tryd.underlying22 hi g off xs.length c u ys.length (ys.map Value.string) hs1 hrm
        (fun j hj => by rw [h1, Nat.mul_one, Nat.add_assoc]; rw [List.length_map] at hj; exact h.sp _ (by omega)) (fun j hj => h.ty.loose _)
      rw [h1, Nat.mul_one, hr] at hrun
      injection hrun with e1 e2
      subst e1 e2
      rcases hp with ⟨a, n1, c1, n2, c2, e1, rfl, hle⟩ | hne
      · injection e1 with e1 _ _
        subst e1
        refine ⟨?_, .inl ⟨_, _, _, _, _, rfl, rfl, by omega⟩⟩
        rcases hz0 with ⟨e, _⟩ | ⟨g2, off2, c3, e, hb, hr2⟩
        · cases e
        · injection e with e1 e2 e3
          injection e1 with e1
          injection e1 with e4 e5
          subst e4 e5 e3
          refine .inr ⟨g, off, _, by rw [← e2], hb, TyS.sets _ _ _ hr2.ty, hr2.le, hr2.mx, fun i t e => ?_, fun i hi => ?_⟩
          · have hi := (List.getElem?_eq_some_iff.1 e).1
            rw [World.cell?_setCells_out g _ _ _ _ (fun _ _ => .inl (by show off + i < off + xs.length; omega))]
            exact hr2.at_ i t e
          · rw [some_sets g]; exact hr2.sp i hi
      · refine ⟨hz0.keep fun k hk => (grown_sets w g _ _).block k (hz0.lt k hk).2 (fun e => hne k hk (by rw [e]; rfl)), .inr hne⟩
    · exact grow _ c rfl (by omega) (fun i t e => ⟨g, off, rfl, h.at_ i t e⟩)
/-- a text written into its place -/
theorem RowF.put {w : World} {B g off n c : Nat} {xs : List ByteArray} (h : RowF w B (.slice (some ⟨g, off, none⟩) n c) xs) {k : Nat} (hk : k < xs.length) (t : ByteArray) : RowF (w.setCell ⟨g, off + k, none⟩ (.string t)) B (.slice (some ⟨g, off, none⟩) n c) (xs.set k t) := by
  rcases h with ⟨e, _⟩ | ⟨g2, off2, c2, e, hb, hr⟩
  · cases e
  · injection e with e1 e2 e3
    injection e1 with e1
    injection e1 with e4 e5
    subst e4 e5 e3
    refine .inr ⟨g, off, _, by rw [List.length_set, ← e2], hb, hr.ty.set _ _ _, by rw [List.length_set]; exact hr.le, hr.mx, fun i u e => ?_, fun i hi => ?_⟩
    · rw [List.getElem?_set] at e
      by_cases ek : k = i
      · subst ek
        rw [if_pos rfl, if_pos hk] at e
        injection e with e
        subst e
        exact World.cell?_setCell_same _ _ _ (hr.at_ k _ (nthT_get hk))
      · rw [if_neg ek] at e
        exact cell_setc (by simp only [ne_eq, Addr.mk.injEq]; omega) (hr.at_ i u e)
    · have := some_sets (k := off + i) g [Value.string t] g (off + k) w
      exact this.trans (hr.sp i hi)
/-- one of the untouched lists changed: the book is the same but for it -/
theorem Bk.putX {w w' : World} {B b : Nat} {c c' : Nat → Nat} {s : Bv} {i : Nat} (h : Bk w B b c s) (ho : Onl (fun k => c k = 20 + i) w w') (hc : ∀ k, k < w.heap.size → c' k = c k) {xs : List ByteArray} (hi : i < s.F.length) (hr : RwC w' B c' (20 + i) (nthV s.F i) xs) : Bk w' B b c' { s with X := s.X.set i xs } := by
  have h9 : ∀ q : Nat, q ≤ 9 → ¬ q = 20 + i := fun q h => by omega
  have hl : ∀ {v vs}, OwnV w B v vs → ∀ g, v.ownBlock = some g → g < w.heap.size := fun h g hg => (World.ownsRow.lt h g hg).2
  have e9 : ∀ k, k < w.heap.size → c k = 9 → c' k = 9 := fun k hk e => (hc k hk).trans e
  refine ⟨(ho.block b h.lt (by rw [h.cb]; omega)).trans h.blk, h.low, (hc b h.lt).trans h.cb,
    own_col (S := fun q => q = 20 + i) h.rf h.cf ho (h9 4 (by omega)), fun g hg => (hc g (hl h.rf g hg)).trans (h.cf g hg),
    own_col (S := fun q => q = 20 + i) h.rw_ h.cw ho (h9 5 (by omega)), fun g hg => (hc g (hl h.rw_ g hg)).trans (h.cw g hg),
    own_col (S := fun q => q = 20 + i) h.rk h.ck ho (h9 6 (by omega)), fun g hg => (hc g (hl h.rk g hg)).trans (h.ck g hg),
    own_col (S := fun q => q = 20 + i) h.rl h.cl ho (h9 7 (by omega)), fun g hg => (hc g (hl h.rl g hg)).trans (h.cl g hg),
    h.lz, by rw [List.length_set]; exact h.lx, h.ly, h.lk, h.ll, fun j hj => ?_,
    fun j hj => (h.wa j hj).onl (S := fun q => q = 20 + i) ho (h9 9 (by omega)) e9,
    fun n hn => (h.kp n hn).onl (S := fun q => q = 20 + i) ho (h9 9 (by omega)) e9, fun n hn => (h.lo n hn).onl (S := fun q => q = 20 + i) ho (h9 9 (by omega)) e9⟩
  show RwC w' B c' (20 + j) (nthV s.F j) (nthX (s.X.set i xs) j)
  by_cases e : j = i
  · subst e
    have : nthX (s.X.set j xs) j = xs := by
      unfold nthX
      rw [List.getElem?_set, if_pos rfl, if_pos (by rw [h.lx]; exact hi)]; rfl
    rw [this]; exact hr
  · have : nthX (s.X.set i xs) j = nthX s.X j := by
      unfold nthX
      rw [List.getElem?_set, if_neg (fun e2 => e e2.symm)]
    rw [this]
    exact (h.fr j hj).onl (S := fun q => q = 20 + i) ho (by omega) (fun k hk e1 => (hc k hk).trans e1)
end Go.Proofs.YtpnbgdbkiokooaaDoor.Fl
