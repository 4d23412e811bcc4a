import Derived.Test.YtmlacdfdpdkdaaaDoorBgKinds
import Derived.Test.YtmlacdfdpdkdaaaDoorVSameV
/- What settle and whole read, and what settle leaves. -/
namespace Go.Proofs.YtmlacdfdpdkdaaaDoor.Bg
open Go.RowKit Go.Sort Go.Proofs.YtmlacdfdpdkdaaaDoor Go.Proofs.YtmlacdfdpdkdaaaDoor.Vs
set_option linter.unusedVariables false
section
variable {α : Type} {E : El α} {M : Nat → Nat → α} {T ss : TypeId}
/-- what settle leaves -/
structure Sd (E : El α) (M : Nat → Nat → α) (T : TypeId) (W w w' : World) (b oo d : Nat) (c c' : Nat → Nat) (s s' : Bv α) : Prop where
  bk : Bk E M T w' W.heap.size b oo d c' s'
  F : s'.F = []
  L : s'.L.length = s'.N.length
  N : s'.N.length = s.N.length + s.F.length
  onl : Onl (fun k => Mn d (c k)) w w'
  col : ∀ k, k < w.heap.size → ¬ (40 ≤ c k ∧ c k % 2 = d) → c' k = c k
  bl : Below W.heap.size w w'
  oc : Oc w w' b oo
  M : (∀ n, n < s.N.length → nthM s.N n ≤ 1073741824) → ∀ n, n < s'.N.length → nthM s'.N n ≤ 1073741824
theorem Bk.freshAt {w : World} {B b oo d n k : Nat} {c : Nat → Nat} {s : Bv α} {a : Option Addr} (h : Bk E M T w B b oo d c s) (hv : s.vf = .slice a n k) {i : Nat} (hi : i < s.F.length) : ∃ g a1 k1, a = some ⟨g, 0, none⟩ ∧ w.cell? ⟨g, i, none⟩ = some (.slice a1 (nthX s.X i).length k1) ∧ nthV s.F i = .slice a1 (nthX s.X i).length k1 := by
  have h1 := h.rf
  rw [hv] at h1
  obtain ⟨g, e, hc⟩ := OwnL.at h1 hi
  obtain ⟨a1, k1, e1, _⟩ := (h.fr i hi).1.slice
  exact ⟨g, a1, k1, e, by rw [hc, e1], e1⟩
theorem Bk.wasAt {w : World} {B b oo d n k : Nat} {c : Nat → Nat} {s : Bv α} {a : Option Addr} (h : Bk E M T w B b oo d c s) (hv : s.vw = .slice a n k) {i : Nat} (hi : i < s.F.length) : ∃ g a1 k1, a = some ⟨g, 0, none⟩ ∧ w.cell? ⟨g, i, none⟩ = some (.slice a1 (nthX s.Y i).length k1) ∧ nthV s.Z i = .slice a1 (nthX s.Y i).length k1 := by
  have h1 := h.rw_
  rw [hv] at h1
  obtain ⟨g, e, hc⟩ := OwnL.at h1 (by rw [h.lz]; exact hi)
  obtain ⟨a1, k1, e1, _⟩ := h.wa i hi
  exact ⟨g, a1, k1, e, by rw [hc, e1], e1⟩
/-- one element of a row that can be read -/
theorem Rd.el (hE : E.Ok) {w : World} {a : Option Addr} {n c : Nat} {xs : List α} (h : Rd E w (.slice a n c) xs) {i : Nat} {x : α} (hx : xs[i]? = some x) : ∃ b off, a = some ⟨b, off, none⟩ ∧ ∀ o u, (E.cs x)[o]? = some u → w.cell? ⟨b, off + (i * E.k + o), none⟩ = some u := by
  obtain ⟨a', c', e, h⟩ := h
  injection e with e1 _ _
  subst e1
  have hp := hE.pos
  have h0 := hE.flat_get xs i 0 x hx hp
  have hl : 0 < (E.cs x).length := by rw [hE.len]; exact hp
  rw [List.getElem?_eq_getElem hl] at h0
  obtain ⟨b, off, ea, _⟩ := h _ _ h0
  refine ⟨b, off, ea, fun o u hu => ?_⟩
  have ho : o < E.k := by rw [← hE.len x]; exact (List.getElem?_eq_some_iff.1 hu).1
  obtain ⟨b2, off2, ea2, hc⟩ := h _ u ((hE.flat_get xs i o x hx ho).trans hu)
  rw [ea] at ea2
  have e2 := Option.some.inj ea2
  have e3 : b = b2 := congrArg Addr.block e2
  have e4 : off = off2 := congrArg Addr.off e2
  rw [e3, e4]
  exact hc
end
theorem rowP_of {w : World} {a : Option Addr} {n c : Nat} {xs : List (ByteArray × ByteArray)} (h : Rd elP w (.slice a n c) xs) : Row2 w a xs := fun i hi => by
  obtain ⟨b, off, e, hc⟩ := h.el okP (List.getElem?_eq_getElem hi)
  refine ⟨b, off, e, ?_⟩
  have e1 : nth2 xs i = xs[i] := by simp [nth2, List.getElem?_eq_getElem hi]
  rw [e1]
  exact ⟨hc 0 _ rfl, hc 1 _ rfl⟩
theorem rowV_of {w : World} {a : Option Addr} {n c : Nat} {xs : List Kv} (h : Rd elV w (.slice a n c) xs) : RowV w a xs := fun i hi => by
  obtain ⟨b, off, e, hc⟩ := h.el okV (List.getElem?_eq_getElem hi)
  refine ⟨b, off, e, ?_⟩
  have e1 : nthK xs i = xs[i] := by simp [nthK, List.getElem?_eq_getElem hi]
  rw [e1]
  exact ⟨hc 0 _ rfl, hc 1 _ rfl, hc 2 _ rfl, hc 3 _ rfl, hc 4 _ rfl, hc 5 _ rfl⟩
theorem sameP_at {w : World} {a b : Option Addr} {n m c d : Nat} {xs : List (ByteArray × ByteArray)} (h : Rd elP w (.slice a n c) xs) (k : Rd elP w (.slice b m d) xs) (hl : xs.length ≤ 1073741824) :
    Calls Tryd.prog 21 #[.slice a xs.length c, .slice b xs.length d] w fun e w' => e = .returned (.bool true) ∧ Below w.heap.size w w' :=
  samePairs_is (decide_eq_true rfl) (rowP_of h) (rowP_of k) (by omega) (by omega)
theorem sameV_at {w : World} {a b : Option Addr} {n m c d : Nat} {xs : List Kv} (h : Rd elV w (.slice a n c) xs) (k : Rd elV w (.slice b m d) xs) (hl : xs.length ≤ 1073741824) :
    Calls Tryd.prog 30 #[.slice a xs.length c, .slice b xs.length d] w fun e w' => e = .returned (.bool true) ∧ Below w.heap.size w w' :=
  sameV_is ⟨fun _ => rfl, fun _ => rfl⟩ (rowV_of h) (rowV_of k) (by omega) (by omega)
end Go.Proofs.YtmlacdfdpdkdaaaDoor.Bg
/- What whole reads and leaves. -/
namespace Go.Proofs.YtmlacdfdpdkdaaaDoor.Bg
open Go.RowKit Go.Sort Go.Proofs.YtmlacdfdpdkdaaaDoor Go.Proofs.YtmlacdfdpdkdaaaDoor.Vs
set_option linter.unusedVariables false
section
variable {α : Type} {E : El α} {M : Nat → Nat → α} {T ss : TypeId}
/-- the book, sound, and its bounds -/
structure Bq (E : El α) (M : Nat → Nat → α) (T : TypeId) (W w : World) (b oo d : Nat) (c : Nat → Nat) (s : Bv α) (m : Nat) : Prop where
  bk : Bk E M T w W.heap.size b oo d c s
  L : s.L.length = s.N.length
  XY : ∀ i, i < s.F.length → nthX s.Y i = nthX s.X i
  x : ∀ i, i < s.F.length → (nthX s.X i).length ≤ 1073741824
  M : ∀ n, n < s.N.length → nthM s.N n ≤ 1073741824
  le : s.N.length + s.F.length ≤ m
/-- what whole leaves -/
structure Wd (E : El α) (M : Nat → Nat → α) (T : TypeId) (W w w' : World) (b oo d : Nat) (c c' : Nat → Nat) (s s' : Bv α) (m : Nat) : Prop where
  bq : Bq E M T W w' b oo d c' s' m
  onl : Onl (fun k => Mn d (c k)) w w'
  col : ∀ k, k < w.heap.size → ¬ (40 ≤ c k ∧ c k % 2 = d) → c' k = c k
  bl : Below W.heap.size w w'
  oc : Oc w w' b oo
theorem Bq.after {W w w2 : World} {b oo d m : Nat} {c : Nat → Nat} {s : Bv α} (h : Bq E M T W w b oo d c s m) (hb : Below w.heap.size w w2) : Bq E M T W w2 b oo d c s m := ⟨h.bk.after hb, h.L, h.XY, h.x, h.M, h.le⟩
theorem Wd.after {W w w' w2 : World} {b oo d m : Nat} {c c' : Nat → Nat} {s s' : Bv α} (h : Wd E M T W w w' b oo d c c' s s' m) (hb : Below w'.heap.size w' w2) (hW : W.heap.size ≤ w.heap.size) : Wd E M T W w w2 b oo d c c' s s' m :=
  ⟨h.bq.after hb, h.onl.on hb, h.col, h.bl.trans (hb.mono (Nat.le_trans hW h.onl.size)), h.oc.trans (Oc.block (hb.block b h.bq.bk.lt))⟩
theorem Bq.still {W w w2 : World} {b oo d m : Nat} {c : Nat → Nat} {s : Bv α} (h : Bq E M T W w b oo d c s m) (hb : Below w.heap.size w w2) (hW : W.heap.size ≤ w.heap.size) : Wd E M T W w w2 b oo d c c s s m :=
  ⟨h.after hb, Onl.of_below hb, fun _ _ _ => rfl, hb.mono hW, Oc.block (hb.block b h.bk.lt)⟩
theorem Sd.wd {W w w' : World} {b oo d m : Nat} {c c' : Nat → Nat} {s s' : Bv α} (h : Sd E M T W w w' b oo d c c' s s') (hq : Bq E M T W w b oo d c s m) : Wd E M T W w w' b oo d c c' s s' m :=
  ⟨⟨h.bk, h.L, fun i hi => by rw [h.F] at hi; simp at hi, fun i hi => by rw [h.F] at hi; simp at hi, h.M hq.M, by rw [h.N, h.F]; exact hq.le⟩, h.onl, h.col, h.bl, h.oc⟩
theorem Bk.keptAt (hE : E.Ok) {w : World} {B b oo d n k : Nat} {c : Nat → Nat} {s : Bv α} {a : Option Addr} (h : Bk E M T w B b oo d c s) (hv : s.vk = .slice a n k) {i : Nat} (hi : i < s.N.length) : ∃ g a1 k1, a = some ⟨g, 0, none⟩ ∧ w.cell? ⟨g, i, none⟩ = some (.slice a1 (nthM s.N i) k1) ∧ ∀ j, j < nthM s.N i → ∃ g1 o1, a1 = some ⟨g1, o1, none⟩ ∧ ∀ o u, (E.cs (M i j))[o]? = some u → w.cell? ⟨g1, o1 + (j * E.k + o), none⟩ = some u := by
  have h1 := h.rk
  rw [hv] at h1
  obtain ⟨g, e, hc⟩ := OwnL.at h1 (by rw [h.lk]; exact hi)
  have h2 := (h.kp i hi).rd
  obtain ⟨a1, k1, e1, hr⟩ := h.kp i hi
  rw [e1] at h2
  rw [marks_len] at e1
  exact ⟨g, a1, k1, e, by rw [hc, e1], fun j hj => h2.el hE (marks_get hj)⟩
theorem Bk.longAt (hE : E.Ok) {w : World} {B b oo d n k : Nat} {c : Nat → Nat} {s : Bv α} {a : Option Addr} (h : Bk E M T w B b oo d c s) (hv : s.vl = .slice a n k) {i : Nat} (hi : i < s.N.length) : ∃ g a1 k1, a = some ⟨g, 0, none⟩ ∧ w.cell? ⟨g, i, none⟩ = some (.slice a1 (nthM s.N i + 70) k1) ∧ ∀ j, j < nthM s.N i + 70 → ∃ g1 o1, a1 = some ⟨g1, o1, none⟩ ∧ ∀ o u, (E.cs (M i j))[o]? = some u → w.cell? ⟨g1, o1 + (j * E.k + o), none⟩ = some u := by
  have h1 := h.rl
  rw [hv] at h1
  obtain ⟨g, e, hc⟩ := OwnL.at h1 (Nat.lt_of_lt_of_le hi h.ll)
  have h2 := (h.lo i hi).rd
  obtain ⟨a1, k1, e1, hr⟩ := h.lo i hi
  rw [e1] at h2
  rw [marks_len] at e1
  exact ⟨g, a1, k1, e, by rw [hc, e1], fun j hj => h2.el hE (marks_get hj)⟩
end
end Go.Proofs.YtmlacdfdpdkdaaaDoor.Bg
