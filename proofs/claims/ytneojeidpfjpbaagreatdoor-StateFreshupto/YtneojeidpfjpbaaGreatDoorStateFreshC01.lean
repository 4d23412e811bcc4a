import Derived.Test.YtneojeidpfjpbaaGreatDoorB47
set_option linter.unusedVariables false
set_option maxHeartbeats 8000000
namespace Go.Proofs.YtneojeidpfjpbaaGreatDoor.Ig
open Go.RowKit Go.Sort
inductive Own : List Rg → List Rg → Prop
 | nil : Own [] []
 | cons {r : Rg} {l m : List Rg} (g1 g2 : Nat) : Own l m → Own (r :: l) (r.own g1 g2 :: m)
theorem Own.snoc {l m : List Rg} (h : Own l m) (r : Rg) (g1 g2 : Nat) : Own (l ++ [r]) (m ++ [r.own g1 g2]) := by
 induction h with
 | nil => exact .cons g1 g2 .nil
 | cons a b _ ih => exact .cons a b ih
open Go.RowKit Go.Sort Ys
abbrev rcz (m : Rg) : List Value := [.int .i64 m.k, .int .u64 m.x, .int .u32 m.c, .int .u32 m.s, .int .u32 m.h, .int .i64 m.oc, .int .u64 m.w, .int .u32 m.l, .int .u32 m.n, .slice m.ra m.rs.length m.rc, .slice m.wa m.ws.length m.wc, .string m.im]
theorem rcz_one (m : Rg) : ∀ x ∈ rcz m, x.oneCell' = true := by
 intro x hx; simp [rcz] at hx; rcases hx with rfl | rfl | rfl | rfl | rfl | rfl | rfl | rfl | rfl | rfl | rfl | rfl <;> rfl
def OwnZ (B : Nat) (w : World) (s : Value) (n : Nat) (U : List Rg) : Prop := w.ownsRow B 43 12 s n (U.flatMap rcz)
theorem infoZ : (Tryz.prog.info? 43).map (fun i => (i.zero, i.size, i.bytes)) = some (some Rg.zero.val, 12, 120) := by kernel_rfl
theorem flatZ {α : Type} {f : α → List Value} {k : Nat} (hf : ∀ x, (f x).length = k) : ∀ (U : List α) (i j : Nat) (x : α), U[i]? = some x → j < k → (U.flatMap f)[i * k + j]? = (f x)[j]?
 | [], i, j, x, h, _ => by simp at h
 | y :: U, i, j, x, h, hj => by
  rw [List.flatMap_cons]; cases i with
  | zero =>
   simp at h; subst h; rw [Nat.zero_mul, Nat.zero_add, List.getElem?_append_left (by rw [hf]; exact hj)]
  | succ i =>
   rw [List.getElem?_append_right (by rw [hf, Nat.succ_mul]; omega), hf, show (i + 1) * k + j - k = i * k + j by rw [Nat.succ_mul]; omega]; exact flatZ hf U i j x (by simpa using h) hj
section
variable {B : Nat} {w w' : World} {a : Option Addr} {n c : Nat} {U : List Rg}
theorem OwnZ.at (h : OwnZ B w (.slice a n c) n U) {i : Nat} {v : Rg} (hv : U[i]? = some v) (hi : i < n) : ∃ g, a = some ⟨g, 0, none⟩ ∧ BoxO w g (i * 12) v := by
 obtain ⟨g, ha, _, hc⟩ := Lk.own_cells h (by omega); have hg : ∀ j, j < 12 → ∀ x, (rcz v)[j]? = some x → w.cell? ⟨g, i * 12 + j, none⟩ = some x := fun j hj x hx => hc _ _ (by rw [flatZ (k := 12) (fun _ => rfl) U i j v hv hj]; exact hx)
 exact ⟨g, ha, hg 0 (by omega) _ rfl, hg 1 (by omega) _ rfl, hg 2 (by omega) _ rfl, hg 3 (by omega) _ rfl, hg 4 (by omega) _ rfl, hg 5 (by omega) _ rfl, hg 6 (by omega) _ rfl, hg 7 (by omega) _ rfl, hg 8 (by omega) _ rfl, hg 9 (by omega) _ rfl, hg 10 (by omega) _ rfl, hg 11 (by omega) _ rfl⟩
theorem OwnZ.later {s : Value} (h : OwnZ B w s n U) (hb : Below w.heap.size w w') : OwnZ B w' s n U := owns_keep h fun g hg => hb.block g (h.lt g hg).2
theorem OwnZ.front {s : Value} (h : OwnZ B w s n U) (hn : U.length = n) {g : Nat} (hg : s.ownBlock = some g) : n = 0 ∨ ∃ k, w.cell? ⟨g, 0, none⟩ = some (.int .i64 k) := by
 obtain ⟨a, c, rfl⟩ := owns_slice h; cases n with
 | zero => exact .inl rfl
 | succ n =>
  cases U with
  | nil => simp at hn
  | cons u U =>
   obtain ⟨g', ha, bx⟩ := h.at (i := 0) (v := u) rfl (by omega); subst ha; have e : g' = g := by simpa [Value.ownBlock] using hg
   subst e; exact .inr ⟨_, by have := bx.c0; rwa [Nat.zero_mul] at this⟩
def Uok (w : World) (u : Rg) : Prop := u.ok w ∧ ∃ g1 g2, u.ra = some ⟨g1, 0, none⟩ ∧ u.wa = some ⟨g2, 0, none⟩ ∧ (∃ s, w.cell? ⟨g1, 0, none⟩ = some (.string s)) ∧ ∃ s, w.cell? ⟨g2, 0, none⟩ = some (.string s)
theorem Uok.onl {F : Nat → Prop} {u : Rg} (h : Uok w u) (ho : Onl F w w') (hF : ∀ g s, w.cell? ⟨g, 0, none⟩ = some (.string s) → ¬ F g) : Uok w' u := by
 obtain ⟨hk, g1, g2, e1, e2, ⟨s1, c1⟩, s2, c2⟩ := h; have n1 := hF g1 s1 c1; have n2 := hF g2 s2 c2; refine ⟨⟨fun i hi => ?_, fun i hi => ?_, hk.rl, hk.wl, hk.rg⟩, g1, g2, e1, e2, ⟨s1, ho.cell n1 c1⟩, s2, ho.cell n2 c2⟩
 ·obtain ⟨b, off, e, x0, x1⟩ := hk.r i hi; have eb : b = g1 := by rw [e1] at e; injection e with e; injection e with e; exact e.symm
  subst eb; exact ⟨b, off, e, ho.cell n1 x0, ho.cell n1 x1⟩
 ·obtain ⟨b, off, e, x0, x1, x2⟩ := hk.w i hi; have eb : b = g2 := by rw [e2] at e; injection e with e; injection e with e; exact e.symm
  subst eb; exact ⟨b, off, e, ho.cell n2 x0, ho.cell n2 x1, ho.cell n2 x2⟩
theorem Uok.later {u : Rg} (h : Uok w u) (hb : Below w.heap.size w w') : Uok w' u := h.onl (F := fun _ => False) (Onl.of_below hb) fun _ _ _ k => k
theorem uok_own {w0 : World} {r : Rg} {g1 g2 : Nat} (h : r.ok w) (h1 : Room2 w0 w g1 r.rs) (h2 : RoomW w0 w g2 r.ws) : Uok w (r.own g1 g2) := by
 refine ⟨own_ok h h1 h2, g1, g2, rfl, rfl, ?_, ?_⟩
 ·obtain ⟨f, hf, _⟩ := h1.cells; exact ⟨_, by have := (hf 0 (by omega)).1; simpa using this⟩
 ·obtain ⟨f, hf, _⟩ := h2.cells; exact ⟨_, by have := (hf 0 (by omega)).1; simpa using this⟩
end
open Go.RowKit Go.Sort Ys
def RowT (w : World) (a : Option Addr) (rs : List Rg) : Prop := ∀ i r, rs[i]? = some r → (∃ b off, a = some ⟨b, off, none⟩ ∧ BoxO w b (off + i * 12) r) ∧ r.ok w ∧ r.rs.length + 1 ≤ 8796093022208 ∧ r.ws.length + 1 ≤ 7036874417766
structure Cop (B : Nat) (w0 w : World) (oa : Option Addr) (oc : Nat) (rs U : List Rg) (k : Nat) : Prop where
 ow : OwnZ B w (.slice oa k oc) k U
 ln : U.length = k
 un : ∀ u ∈ U, Uok w u
 os : Own (rs.take k) U
 z : k = 0 → oa = none
 bl : Below B w0 w
theorem Cop.later {B : Nat} {w0 w w' : World} {oa : Option Addr} {oc : Nat} {rs U : List Rg} {k : Nat} (h : Cop B w0 w oa oc rs U k) (hB : B ≤ w.heap.size) (hb : Below w.heap.size w w') : Cop B w0 w' oa oc rs U k :=
 ⟨h.ow.later hb, h.ln, fun u hu => (h.un u hu).later hb, h.os, h.z, h.bl.trans (hb.mono hB)⟩
theorem Cop.more {B : Nat} {w0 w w' : World} {oa : Option Addr} {oc : Nat} {rs U : List Rg} {k : Nat} (h : Cop B w0 w oa oc rs U k) (hB : B ≤ w.heap.size) {r : Rg} {g1 g2 : Nat} (hr : rs[k]? = some r) (hu : Uok w (r.own g1 g2)) {oa' : Option Addr} {oc' : Nat}
  (ho : w'.ownsRow B 43 12 (.slice oa' (k + 1) oc') (k + 1) (U.flatMap rcz ++ rcz (r.own g1 g2))) (hg : w.grownBy w' (Value.slice oa k oc).ownBlock) : Cop B w0 w' oa' oc' rs (U ++ [r.own g1 g2]) (k + 1) := by
 have hn : ∀ g s, w.cell? ⟨g, 0, none⟩ = some (.string s) → ¬ ((Value.slice oa k oc).ownBlock = some g) := fun g s hc e => by
  rcases h.ow.front h.ln e with h0 | ⟨j, hj⟩
  ·rw [h.z h0] at e; simp [Value.ownBlock] at e
  ·rw [hc] at hj; simp at hj
 have hO := grown_onl hg; refine ⟨by unfold OwnZ; rw [List.flatMap_append]; simpa using ho, by simp [h.ln], fun u hu' => ?_, ?_, fun e => by omega, h.bl.trans (hO.below (fun b hb => (h.ow.lt b hb).1) hB)⟩
 ·rcases List.mem_append.1 hu' with hm | hm
  ·exact (h.un u hm).onl hO hn
  ·rw [List.mem_singleton.1 hm]; exact hu.onl hO hn
 ·rw [List.take_add_one, hr]; exact h.os.snoc r g1 g2
end Go.Proofs.YtneojeidpfjpbaaGreatDoor.Ig
namespace Go.Proofs.YtneojeidpfjpbaaGreatDoor.Lk
open Go.RowKit Go.Sort
theorem cells_own {w : World} {B g n N k : Nat} {t : TypeId} {xs : List Value} (hB : B ≤ g) (hl : Lie w g t (N * k)) (hx : xs.length = n * k) (hn : n ≤ N) (hN : N ≤ maxLen) (hc : ∀ j v, xs[j]? = some v → w.cell? ⟨g, j, none⟩ = some v) :
  w.ownsRow B t k (.slice (some ⟨g, 0, none⟩) n N) n xs := by
 obtain ⟨cur, hh, hs⟩ := hl; refine ⟨hx, .inr ⟨g, N, cur, rfl, hB, hh, hn, hN, hs, ?_⟩⟩; apply List.ext_getElem?
 intro j; rw [List.getElem?_take]; by_cases hj : j < n * k
 ·rw [if_pos hj]; have hj' : j < xs.length := by omega
  have := hc j _ (List.getElem?_eq_getElem hj'); simp only [World.cell?, hh] at this; rw [List.getElem?_eq_getElem hj']; simpa using this
 ·rw [if_neg hj, List.getElem?_eq_none (by omega)]
theorem room2_own {w wr : World} {g : Nat} {xs : List T2} (h : Room2 w wr g xs) (hl : xs.length + 1 ≤ 8796093022208) : Fr2 w.heap.size wr (some ⟨g, 0, none⟩) (xs.length + 1) xs := by
 obtain ⟨f, h1, h2, _⟩ := h.cells; refine cells_own h.low h.obj (flat2_len xs) (by omega) (by unfold maxLen; omega) (fun j v hj => ?_); have hjl : j < xs.length * 2 := by have := (List.getElem?_eq_some_iff.1 hj).1; rw [flat2_len] at this; exact this
 have hf := flat2_get xs (j / 2) (j % 2) (by omega) (by omega); rw [show j / 2 * 2 + j % 2 = j by omega, hj] at hf; obtain ⟨c0, c1⟩ := h1 (j / 2) (by omega); rw [h2 (j / 2) (by omega)] at c0 c1; have hm : j % 2 = 0 ∨ j % 2 = 1 := by omega
 rcases hm with e | e
 ·rw [e] at hf; rw [show j / 2 * 2 = j by omega] at c0; rw [c0]; exact hf.symm
 ·rw [e] at hf; rw [show j / 2 * 2 + 1 = j by omega] at c1; rw [c1]; exact hf.symm
theorem roomW_own {w wr : World} {g : Nat} {xs : List Wr} (h : RoomW w wr g xs) (hl : xs.length + 1 ≤ 7036874417766) : FrW w.heap.size wr (some ⟨g, 0, none⟩) (xs.length + 1) xs := by
 obtain ⟨f, h1, h2, _⟩ := h.cells; refine cells_own h.low h.obj (flatW_len xs) (by omega) (by unfold maxLen; omega) (fun j v hj => ?_); have hjl : j < xs.length * 3 := by have := (List.getElem?_eq_some_iff.1 hj).1; rw [flatW_len] at this; exact this
 have hf := flatW_get xs (j / 3) (j % 3) (by omega) (by omega); rw [show j / 3 * 3 + j % 3 = j by omega, hj] at hf; obtain ⟨c0, c1, c2⟩ := h1 (j / 3) (by omega); rw [h2 (j / 3) (by omega)] at c0 c1 c2; have hm : j % 3 = 0 ∨ j % 3 = 1 ∨ j % 3 = 2 := by omega
 rcases hm with e | e | e
 ·rw [e] at hf; rw [show j / 3 * 3 = j by omega] at c0; rw [c0]; exact hf.symm
 ·rw [e] at hf; rw [show j / 3 * 3 + 1 = j by omega] at c1; rw [c1]; exact hf.symm
 ·rw [e] at hf; rw [show j / 3 * 3 + 2 = j by omega] at c2; rw [c2]; exact hf.symm
theorem Hv.fresh.base {B C : Nat} {w : World} {v : Hv} (h : v.fresh B w) (hC : C ≤ B) : v.fresh C w := ⟨owns_base h.r hC, owns_base h.w hC⟩
theorem rowH_off {F : Nat → Prop} {B n c : Nat} {w w' : World} {a : Option Addr} {U : List Hv} (h : RowH B w a n c U) (hl : ∀ u ∈ U, u.low B) (ho : Onl F w w') (hF : ∀ b, F b → b < B) : RowH B w' a n c U :=
 ⟨owns_keep h.own fun g hg => ho.block g (h.own.lt g hg).2 (fun e => by have h1 := hF g e; have h2 := (h.own.lt g hg).1; omega), h.len, fun u hu => (h.ok u hu).off ho (fun b hb e => by have h1 := (hl u hu).has hb; have h2 := hF b e; omega)⟩
theorem flat_len (us : List Hv) : (us.flatMap hcs).length = us.length * 8 := by
 induction us with
 | nil => rfl
 | cons u us ih =>
  rw [List.flatMap_cons, List.length_append, ih]; show 8 + us.length * 8 = (us.length + 1) * 8
  omega
theorem gv_row {B : Nat} {w : World} {us : List Hv} (hB : B ≤ w.heap.size) (hu : ∀ u ∈ us, u.fresh B w) (hf : us.Pairwise Hv.far) (hl : us.length ≤ 1048576) :
  Gv B (w.alloc (.cells (us.flatMap hcs).toArray 52)) (some ⟨w.heap.size, 0, none⟩) us.length us.length us := by
 have hb : Below w.heap.size w (w.alloc (.cells (us.flatMap hcs).toArray 52)) := Below.al (Below.refl _ _) _; have hh : (w.alloc (.cells (us.flatMap hcs).toArray 52)).heap[w.heap.size]? = some (.cells (us.flatMap hcs).toArray 52) := (MapKept.heap_alloc _ _).1; refine ⟨cells_own hB ⟨_, hh, by simpa using flat_len us⟩ (flat_len us) (Nat.le_refl _) (by unfold maxLen; omega) (fun j v hj => cell_of_obj hh (by simpa using hj)), rfl, fun u hu' => (hu u hu').later hb, hf⟩
theorem mark_fr {W0 w wy : World} {B C : Nat} {us : List Hv} {z : Int} (ht : PowTab W0) (hW : Below W0.heap.size W0 w) (hB0 : W0.heap.size ≤ B) (hB : B ≤ w.heap.size) (hu : ∀ u ∈ us, u.fresh B w ∧ ∀ b, u.has b → b < C) (hf : us.Pairwise Hv.far) (hl : us.length ≤ 1048576) (hs : ∀ u ∈ us, u.h.rs.length ≤ 1073741824 ∧ u.h.ws.length ≤ 1073741824) (hz : 0 ≤ z ∧ z ≤ 4611686018427387904) (hb : Below (w.alloc (.cells (us.flatMap hcs).toArray 52)).heap.size (w.alloc (.cells (us.flatMap hcs).toArray 52)) wy) :
  Calls Tryz.prog 11 #[.slice (some ⟨w.heap.size, 0, none⟩) us.length us.length, .int .i64 z] wy fun e w' => e = .returned (.bool true) ∧ Hid (Onl (fun b => B ≤ b ∧ b < C) w w') := by
 have g := (gv_row (B := B) (w := w) (us := us) hB (fun u hu' => (hu u hu').1) hf hl).later hb; have hal : Below w.heap.size w (w.alloc (.cells (us.flatMap hcs).toArray 52)) := Below.al (Below.refl _ _) _; refine (markG_is ht (Below.on hW (Below.on hal hb)) hB0 (Nat.le_trans hB (Nat.le_trans hal.size hb.size)) g hs (by omega) hz).mono ?_; rintro e w' ⟨rfl, ho⟩; refine ⟨rfl, hid (Onl.fresh (Onl.of_below (Below.on hal hb)) ho.out fun b hb' => ?_)⟩; rcases hb' with h1 | ⟨u, hu', h1⟩
 ·right
  obtain ⟨ad, e, rfl⟩ := slice_own h1; injection e with e
  rw [← e]; exact Nat.le_refl _
 ·exact .inl ⟨((hu u hu').1.has h1).1, (hu u hu').2 b h1⟩
theorem mark_fp {W0 w wy : World} {B : Nat} {us : List Hv} {z : Int} (ht : PowTab W0) (hW : Below W0.heap.size W0 w) (hB0 : W0.heap.size ≤ B) (hB : B ≤ w.heap.size) (hu : ∀ u ∈ us, u.fresh B w) (hf : us.Pairwise Hv.far) (hl : us.length ≤ 1048576) (hs : ∀ u ∈ us, u.h.rs.length ≤ 1073741824 ∧ u.h.ws.length ≤ 1073741824) (hz : 0 ≤ z ∧ z ≤ 4611686018427387904) (hb : Below (w.alloc (.cells (us.flatMap hcs).toArray 52)).heap.size (w.alloc (.cells (us.flatMap hcs).toArray 52)) wy) :
  Calls Tryz.prog 11 #[.slice (some ⟨w.heap.size, 0, none⟩) us.length us.length, .int .i64 z] wy fun e w' => e = .returned (.bool true) ∧ Hid (Onl (fun b => ∃ u ∈ us, u.has b) w w') := by
 have g := (gv_row (B := B) (w := w) (us := us) hB hu hf hl).later hb; have hal : Below w.heap.size w (w.alloc (.cells (us.flatMap hcs).toArray 52)) := Below.al (Below.refl _ _) _; refine (markG_is ht (Below.on hW (Below.on hal hb)) hB0 (Nat.le_trans hB (Nat.le_trans hal.size hb.size)) g hs (by omega) hz).mono ?_; rintro e w' ⟨rfl, ho⟩; refine ⟨rfl, hid (Onl.fresh (Onl.of_below (Below.on hal hb)) ho.out fun b hb' => ?_)⟩; rcases hb' with h1 | h1
 ·right
  obtain ⟨ad, e, rfl⟩ := slice_own h1; injection e with e
  rw [← e]; exact Nat.le_refl _
 ·exact .inl h1
end Go.Proofs.YtneojeidpfjpbaaGreatDoor.Lk
namespace Go.Proofs.YtneojeidpfjpbaaGreatDoor.Ig
open Go.RowKit Go.Sort Ys
def hvU (u : Rg) : Lk.Hv := ⟨⟨(0, 0), 0, 0, 0, 0, u.rs, u.ws⟩, u.ra, u.rc, u.wa, u.wc⟩
def Ap2 (x y : Rg) : Prop := ∀ b, (hvU x).has b → ¬ (hvU y).has b
structure CopF (B : Nat) (w0 w : World) (oa : Option Addr) (oc : Nat) (rs U : List Rg) (k : Nat) : Prop where
 cp : Cop B w0 w oa oc rs U k
 fr : ∀ u ∈ U, (hvU u).fresh B w
 ap : U.Pairwise Ap2
theorem CopF.later {B : Nat} {w0 w w' : World} {oa : Option Addr} {oc : Nat} {rs U : List Rg} {k : Nat} (h : CopF B w0 w oa oc rs U k) (hB : B ≤ w.heap.size) (hb : Below w.heap.size w w') : CopF B w0 w' oa oc rs U k :=
 ⟨h.cp.later hB hb, fun u hu => (h.fr u hu).later hb, h.ap⟩
theorem rec_far {w : World} {B B' k c n : Nat} {a : Option Addr} {U : List Rg} {u : Lk.Hv} (h : OwnZ B w (.slice a k c) n U) (hu : u.fresh B' w) {b : Nat} (hb : u.has b) : (Value.slice a k c).ownBlock ≠ some b := fun e => by
 obtain ⟨cur, hc⟩ := Lk.own_type h e; rcases hb with hb | hb
 ·obtain ⟨cur', hc'⟩ := Lk.own_type hu.r hb; have := Lk.cells_ne hc hc'; revert this; decide
 ·obtain ⟨cur', hc'⟩ := Lk.own_type hu.w hb; have := Lk.cells_ne hc hc'; revert this; decide
theorem own_fresh {w w1 : World} {r : Rg} {g1 g2 : Nat} (h1 : Room2 w w1 g1 r.rs) (h2 : RoomW w w1 g2 r.ws) (hl : r.rs.length + 1 ≤ 8796093022208) (hl2 : r.ws.length + 1 ≤ 7036874417766) : (hvU (r.own g1 g2)).fresh w.heap.size w1 :=
 ⟨Lk.room2_own h1 hl, Lk.roomW_own h2 hl2⟩
theorem CopF.more {B : Nat} {w0 wr w w' : World} {oa : Option Addr} {oc : Nat} {rs U : List Rg} {k : Nat} (h0 : CopF B w0 wr oa oc rs U k) (h : CopF B w0 w oa oc rs U k) (hBr : B ≤ wr.heap.size) (hB : B ≤ w.heap.size) {r : Rg} {g1 g2 : Nat} (hr : rs[k]? = some r) (hu : Uok w (r.own g1 g2)) (hf : (hvU (r.own g1 g2)).fresh wr.heap.size w) {oa' : Option Addr} {oc' : Nat}
  (ho : w'.ownsRow B 43 12 (.slice oa' (k + 1) oc') (k + 1) (U.flatMap rcz ++ rcz (r.own g1 g2))) (hg : w.grownBy w' (Value.slice oa k oc).ownBlock) : CopF B w0 w' oa' oc' rs (U ++ [r.own g1 g2]) (k + 1) := by
 have hO := grown_onl hg; refine ⟨h.cp.more hB hr hu ho hg, fun u hm => ?_, List.pairwise_append.2 ⟨h.ap, List.pairwise_singleton _ _, fun x hx y hy b hb hb' => ?_⟩⟩
 ·rcases List.mem_append.1 hm with hm | hm
  ·exact (h.fr u hm).off hO fun b hb => rec_far h.cp.ow (h.fr u hm) hb
  ·rw [List.mem_singleton.1 hm]; exact (hf.off hO fun b hb => rec_far h.cp.ow hf hb).base hBr
 ·rw [List.mem_singleton.1 hy] at hb'; have h1 := ((h0.fr x hx).has hb).2; have h2 := (hf.has hb').1; omega
theorem ownF_is {w : World} {a : Option Addr} {rs : List Rg} {c : Nat} (hL : RowT w a rs) (hl : rs.length ≤ 1048576) :
  Calls Tryz.prog 5 #[.slice a rs.length c] w fun e w' => ∃ (oa : Option Addr) (oc : Nat) (U : List Rg), e = .returned (.slice oa rs.length oc) ∧ Hid (CopF w.heap.size w w' oa oc rs U rs.length) := by
 obtain ⟨i0, hi, hz0, hz1, hz2⟩ := Go.Proofs.YtneojeidpfjpbaaGreatDoor.info_of infoZ; have HL := hid hL; obtain ⟨N, hN⟩ : ∃ N, rs.length = N := ⟨_, rfl⟩; rw [hN] at hl ⊢; have HN := hid hN; have HC0 : Hid (CopF w.heap.size w w none 0 rs [] 0) := hid ⟨⟨⟨rfl, .inl ⟨rfl, rfl⟩⟩, rfl, fun u hu => (by cases hu), (by rw [List.take_zero]; exact .nil), fun _ => rfl, Below.refl _ _⟩, fun u hu => (by cases hu), List.Pairwise.nil⟩; clear hL hN; go_enter Tryz.func5, Tryz.ntmps5
 go_wp2_with fail
 go_loopg [3, 4] N (fun gg s3 s4 wr => ∃ (k : Nat) (oa : Option Addr) (oc : Nat) (U : List Rg), k ≤ N ∧ gg = N - k ∧ s4 = .int .i64 k ∧ s3 = .slice oa k oc ∧ Hid (CopF w.heap.size w wr oa oc rs U k))
 case atStart => exact ⟨0, none, 0, [], by omega, by omega, rfl, rfl, HC0⟩
 case round =>
  obtain ⟨k, oa, oc, U, hk, rfl, rfl, rfl, HC⟩ := hrel; clear HC0; by_cases hlt : k < N
  ·have hkl : k < rs.length := by rw [HN.out]; exact hlt
   obtain ⟨r, hr⟩ : ∃ r, rs[k]? = some r := ⟨rs[k]'hkl, by simp⟩; obtain ⟨⟨rb, ro, hla, BX⟩, hok, h1, h2⟩ := HL.out k r hr; have HR := hid hr; have bx := BX.later HC.out.cp.bl; have b0 := bx.c0; have b1 := bx.c1; have b2 := bx.c2; have b3 := bx.c3; have b4 := bx.c4; have b5 := bx.c5; have b6 := bx.c6; have b7 := bx.c7; have b8 := bx.c8; have b9 := bx.c9; have b10 := bx.c10; have b11 := bx.c11
   have HOK := hid (hok.later HC.out.cp.bl); have CO := hid (copied_is HOK.out h1 h2); have HLN : Hid (r.rs.length + 1 ≤ 8796093022208 ∧ r.ws.length + 1 ≤ 7036874417766) := hid ⟨h1, h2⟩; subst hla; clear BX hok bx hr hkl h1 h2; go_wp2_with fail
   refine CO.out.mono ?_; rintro e w4 ⟨g1, g2, rfl, hr1, hr2, hne⟩; have hsz : w.heap.size ≤ wr.heap.size := HC.out.cp.bl.size; have HC4 := hid (HC.out.later hsz hr1.bl); have HU4 := hid (uok_own (HOK.out.later hr1.bl) hr1 hr2); have HF4 := hid (own_fresh hr1 hr2 HLN.out.1 HLN.out.2); obtain ⟨v, hv⟩ : ∃ v, v = r.own g1 g2 := ⟨_, rfl⟩; have HV := hid hv; rw [← hv] at HU4 HF4 ⊢; obtain ⟨w6, hw6⟩ : ∃ w6, w6 = w4.alloc (.cells #[.int .i64 v.k, .int .u64 v.x, .int .u32 v.c, .int .u32 v.s, .int .u32 v.h, .int .i64 v.oc, .int .u64 v.w, .int .u32 v.l, .int .u32 v.n, .slice v.ra v.rs.length v.rc, .slice v.wa v.ws.length v.wc, .string v.im] 43) := ⟨_, rfl⟩; have hb6 : Below w4.heap.size w4 w6 := by rw [hw6]; exact Below.al (Below.refl _ _) _
   have blk6 : w6.heap[w4.heap.size]? = some (.cells (rcz v).toArray 43 (0, 0)) := by rw [hw6]; exact World.alloc_heap_new _ _
   have HCL : Hid (∀ j y, (rcz v)[j]? = some y → w6.cell? ((⟨w4.heap.size, 0, none⟩ : Addr).add j) = some y) := hid fun j y hj => by
    rw [Addr.add_lit, Nat.zero_add]; exact Vs.cell_of_obj blk6 (by simpa using hj)
   have hs4 : w.heap.size ≤ w4.heap.size := HC4.out.cp.bl.size; have HC6 := hid (HC4.out.later hs4 hb6); have HU6 := hid (HU4.out.later hb6); have HF6 := hid (HF4.out.later hb6); have HSR := hid hsz; have HCR := hid HC.out; have HO6 : Hid (w6.ownsRow w.heap.size 43 12 (.slice oa k oc) k (U.flatMap rcz)) := hid HC6.out.cp.ow; have hs6 : w.heap.size ≤ w6.heap.size := HC6.out.cp.bl.size; have hmb : k + 1 ≤ 1048576 := by omega
   clear hb6 blk6 hr1 hr2 hne b0 b1 b2 b3 b4 b5 b6 b7 b8 b9 b10 b11 CO HC4 HU4 HC HOK hv; go_wp2_with (at_builtin; refine wpList_append_own _ rfl _ _ 23 rfl w.heap.size 43 i0 Rg.zero.val 12 120 Tryz.underlying23 hi hz0 hz1 hz2 rfl (by decide) (.slice oa k oc) k (U.flatMap rcz) rfl (by rw [← hw6]; exact HO6.out) ⟨w4.heap.size, 0, none⟩ 1 1 (rcz v) rfl rfl (by rw [← hw6]; exact HCL.out) (rcz_one v) (by unfold maxLen; omega) (by omega) (by rw [← hw6]; exact hs6) ?_)
   intro v2 w7 hown hgrow hnil; rw [← hw6] at hgrow; obtain ⟨oa', oc', rfl⟩ := owns_slice hown; have HC7 : Hid (CopF w.heap.size w w7 oa' oc' rs (U ++ [v]) (k + 1)) := hid (by
    have hU := HU6.out; have hF := HF6.out; rw [HV.out] at hown hU hF ⊢; exact HCR.out.more HC6.out HSR.out hs6 HR.out hU hF hown hgrow)
   clear hown hgrow hnil HO6 HCL hw6 hs6 HC6 HU6 HF6 HSR HCR HLN; go_wp2_with fail
   go_roundg (N - (k + 1))
   case measure => omega
   case rel => exact ⟨k + 1, oa', oc', U ++ [v], by omega, rfl, by go_num, rfl, HC7⟩
  ·obtain rfl : k = N := by omega
   go_wp2_with fail
   go_ret
   exact ⟨oa, oc, U, rfl, HC⟩
theorem take_ap {α : Type} {R : α → α → Prop} {U : List α} (h : U.Pairwise R) {i : Nat} {u x : α} (hu : U[i]? = some u) (hx : x ∈ U.take i) : R x u := by
 obtain ⟨j, hj, e⟩ := List.mem_iff_getElem.1 hx; rw [List.length_take] at hj; rw [List.getElem_take] at e; obtain ⟨hi, e2⟩ := List.getElem?_eq_some_iff.1 hu; have := List.pairwise_iff_getElem.1 h j i (by omega) hi (by omega); rwa [e, e2] at this
theorem spoil_is {W0 w : World} {B : Nat} {oa : Option Addr} {oc n : Nat} {U : List Rg} (ht : Lk.PowTab W0) (hW : Below W0.heap.size W0 w) (hB0 : W0.heap.size ≤ B) (hB : B ≤ w.heap.size) (ow : OwnZ B w (.slice oa n oc) n U) (hn : U.length = n) (fr : ∀ u ∈ U, (hvU u).fresh B w) (ap : U.Pairwise Ap2) (hl : ∀ u ∈ U, u.rs.length ≤ 1048576 ∧ u.ws.length ≤ 1048576) (hk : n ≤ 1048576) :
  Calls Tryz.prog 7 #[.slice oa n oc] w fun e w' => e = .returned (.tuple #[]) ∧ Hid (Onl (fun b => ∃ u ∈ U, (hvU u).has b) w w') := by
 have HOW := hid ow; have HN := hid hn; have HFR := hid fr; have HAP := hid ap; have HL := hid hl; have HT := hid ht; have HWW := hid hW; have HB0 : Hid (W0.heap.size ≤ B ∧ B ≤ w.heap.size) := hid ⟨hB0, hB⟩; clear ow hn fr ap hl ht hW hB0 hB; go_enter Tryz.func7, Tryz.ntmps7
 go_wp2_with fail
 go_loopg [2] n (fun g s2 wr => ∃ i : Nat, i ≤ n ∧ g = n - i ∧ s2 = .int .i64 i ∧ Hid (Onl (fun b => ∃ u ∈ U.take i, (hvU u).has b) w wr))
 case atStart => exact ⟨0, by omega, by omega, rfl, hid (Onl.refl _ _)⟩
 case round =>
  obtain ⟨i, hi, rfl, rfl, HO⟩ := hrel; by_cases hlt : i < n
  ·have hI : (i : Int) < (n : Int) := by omega
   obtain ⟨u, hu⟩ : ∃ u, U[i]? = some u := ⟨_, List.getElem?_eq_getElem (by rw [HN.out]; exact hlt)⟩; have HU := hid hu; have HUM : Hid (u ∈ U) := hid (List.mem_of_getElem? hu); have ow1 : OwnZ B wr (.slice oa n oc) n U := owns_keep HOW.out fun g hg => HO.out.block g (HOW.out.lt g hg).2 (fun ⟨x, hx, hb⟩ => rec_far HOW.out (HFR.out x (List.mem_of_mem_take hx)) hb hg)
   have fr1 : (hvU u).fresh B wr := (HFR.out u HUM.out).off HO.out (fun b hb ⟨x, hx, hb'⟩ => take_ap HAP.out hu hx b hb' hb); have hb1 : Below W0.heap.size W0 wr := HWW.out.trans (HO.out.below (B := W0.heap.size) (fun b ⟨x, hx, hb⟩ => Nat.le_trans HB0.out.1 ((HFR.out x (List.mem_of_mem_take hx)).has hb).1) HWW.out.size); obtain ⟨g, rfl, bx⟩ := ow1.at hu hlt; have b9 := bx.c9; have b10 := bx.c10
   have MK : Hid (Calls Tryz.prog 11 #[.slice (some ⟨wr.heap.size, 0, none⟩) 1 1, .int .i64 1] (wr.alloc (.cells #[.int .u32 0, .int .u32 0, .int .u32 0, .int .u64 0, .int .u32 0, .int .u32 0, .slice u.ra u.rs.length u.rc, .slice u.wa u.ws.length u.wc] 52)).drew fun e w' => e = .returned (.bool true) ∧ Hid (Onl (fun b => ∃ v ∈ [hvU u], v.has b) wr w')) := hid (Lk.mark_fp (us := [hvU u]) HT.out hb1 HB0.out.1 (Nat.le_trans HB0.out.2 HO.out.size) (fun v hv => by rw [List.mem_singleton.1 hv]; exact fr1) (List.pairwise_singleton _ _) (by simp) (fun v hv => by
    rw [List.mem_singleton.1 hv]; have := HL.out u HUM.out; exact ⟨Nat.le_trans this.1 (by decide), Nat.le_trans this.2 (by decide)⟩) (by omega) (Below.drew (Below.refl _ _)))
   clear bx ow1 fr1 hb1 hu; go_wp2_with fail
   go_region_with (go_at_call 11; refine MK.out.mono ?_; rintro e w2 ⟨rfl, HO2⟩)
   all_goals (try go_wp2_with fail)
   all_goals go_roundg (n - (i + 1))
   all_goals first | omega | exact ⟨i + 1, by omega, rfl, by go_num, hid ((HO.out.mono fun b ⟨x, hx, hb⟩ => ⟨x, by rw [List.take_add_one]; exact List.mem_append_left _ hx, hb⟩).trans (HO2.out.mono fun b ⟨x, hx, hb⟩ => ⟨u, by rw [List.take_add_one, HU.out]; simp, by rw [List.mem_singleton.1 hx] at hb; exact hb⟩))⟩
  ·obtain rfl : i = n := by omega
   have HF := hid (HO.out.mono fun b ⟨x, hx, hb⟩ => (⟨x, List.mem_of_mem_take hx, hb⟩ : ∃ u ∈ U, (hvU u).has b)); go_wp2_with fail
   go_end0
   exact ⟨rfl, HF.out⟩
end Go.Proofs.YtneojeidpfjpbaaGreatDoor.Ig
namespace Go.Proofs.YtneojeidpfjpbaaGreatDoor.Ys
open Go.RowKit Go.Sort
theorem onlF_q {q : Nat} {a w : World} (h : Onl (fun b => b = q) a w) (o : Nat) (v : Value) : Onl (fun b => b = q) a (w.setCell ⟨q, o, none⟩ v) := h.set (p := q) rfl o v
section
variable {F : Nat → Prop} {w : World} {p : Nat} {m1 m2 m : Option Nat} {V : List Lk.Hv} {I : Lk.It} {s : Ps}
def GotF (s : Ps) (i : Lk.Ix) (B : Nat) (w : World) (u : Lk.Hv) : Prop := (∀ h ∈ s.H, h.id = i → u.h = h) ∧ u.fresh B w ∧ u.ok w
theorem getF_is (T : St F w p m1 m2 m V I s) (i : Lk.Ix) :
  Calls Tryz.prog 13 #[sp p, .agg #[.int .u32 i.1, .int .u32 i.2]] w fun e w' => ∃ (u : Lk.Hv) (ok : Bool), e = .returned (.tuple #[.agg #[.int .u32 u.h.id.1, .int .u32 u.h.id.2, .int .u32 u.h.home, .int .u64 u.h.w, .int .u32 u.h.l, .int .u32 u.h.n, .slice u.ra u.h.rs.length u.rc, .slice u.wa u.h.ws.length u.wc], .bool ok]) ∧ Hid (GotF s i w.heap.size w' u) ∧ Hid (Below w.heap.size w w') := by
 obtain ⟨wx, hwx⟩ : ∃ wx, wx = (w.alloc (.cells #[.int .u32 i.1, .int .u32 i.2] 38)).alloc (.cells #[.int .u32 0, .int .u32 0, .int .u32 0, .int .u64 0, .int .u32 0, .int .u32 0, .slice none 0 0, .slice none 0 0] 52) := ⟨_, rfl⟩; have hbx : Below w.heap.size w wx := by rw [hwx]; exact Below.al (Below.al (Below.refl _ _) _) _
 have x0 : wx.cell? ⟨w.heap.size, 0, none⟩ = some (.int .u32 i.1) := by rw [hwx]; simp [go_sem]
 have x1 : wx.cell? ⟨w.heap.size, 1, none⟩ = some (.int .u32 i.2) := by rw [hwx]; simp [go_sem]
 have hob : wx.heap[w.heap.size + 1]? = some (.cells #[.int .u32 0, .int .u32 0, .int .u32 0, .int .u64 0, .int .u32 0, .int .u32 0, .slice none 0 0, .slice none 0 0] 52 (0, 0)) := by
  rw [hwx, show w.heap.size + 1 = (w.alloc (.cells #[.int .u32 i.1, .int .u32 i.2] 38)).heap.size by simp]; exact World.alloc_heap_new _ _
 have hlt : w.heap.size + 1 < wx.heap.size := (Array.getElem?_eq_some_iff.1 hob).1; have GT : Hid (∀ W, Below wx.heap.size wx W → Calls Tryz.prog 42 #[.pointer (some ⟨p, 2, none⟩), .agg #[.int .u32 i.1, .int .u32 i.2]] W fun e w' => ∃ (u : Lk.Hv) (ok : Bool), e = .returned (.tuple #[.agg #[.int .u32 u.h.id.1, .int .u32 u.h.id.2, .int .u32 u.h.home, .int .u64 u.h.w, .int .u32 u.h.l, .int .u32 u.h.n, .slice u.ra u.h.rs.length u.rc, .slice u.wa u.h.ws.length u.wc], .bool ok]) ∧ Hid (GotF s i wx.heap.size w' u) ∧ Below W.heap.size W w') := hid fun W hb => by
  refine (Lk.get_is (T.later (Below.on hbx hb)).tb i).mono ?_; rintro e w' ⟨u, he, hy, hn, hf, hok, hbw⟩; refine ⟨u, _, he, hid ⟨fun h hh hi => ?_, hf.out.base hb.size, hok.out⟩, hbw.out⟩; have hV : V.map Lk.Hv.h = s.H := T.h; have hhas : Lk.hasB (V.map Lk.Hv.h) i = true := by simp only [Lk.hasB, decide_eq_true_eq]; rw [hV]; exact List.mem_map.2 ⟨h, hh, hi⟩
  obtain ⟨h1, h2⟩ := hy.out hhas; rw [hV] at h1; exact Lk.nodup_inj (by rw [← hV]; exact T.tb.ok.ids) h1 hh (h2.trans hi.symm)
 have HBX := hid hbx; have HOB := hid hob; clear T hbx hob; go_enter Tryz.func13, Tryz.ntmps13
 go_wp2_with fail
 rw [← hwx]; clear hwx; have hne : ¬ w.heap.size = w.heap.size + 1 := by omega
 go_region_held3 (fun w' => w'.cell? ⟨w.heap.size, 0, none⟩ = some (.int .u32 i.1) ∧ w'.cell? ⟨w.heap.size, 1, none⟩ = some (.int .u32 i.2) ∧ Onl (fun b => b = w.heap.size + 1) wx w')
  ((refine (fun (hO : Onl (fun b => b = w.heap.size + 1) wx _) => ⟨hO.cell hne x0, hO.cell hne x1, hO⟩) ?_; (repeat (first | with_reducible exact Onl.refl _ _ | with_reducible assumption | with_reducible refine Onl.drew ?_ | with_reducible refine Onl.al ?_ _ | with_reducible refine onlF_q ?_ _ _))))
  (first | (go_at_call 42; refine (GT.out _ (by (repeat (first | with_reducible exact Below.refl _ _ | with_reducible assumption | with_reducible refine Below.drew ?_ | with_reducible refine Below.al ?_ _ | with_reducible refine Below.setCell ?_ (by first | exact Nat.le_refl _ | (simp; omega) | (simp; done)) _ | with_reducible refine Below.on ?_ (by assumption))))).mono ?_; rintro e w2 ⟨u, ok, rfl, HG, hb2⟩; have hB2 : Below wx.heap.size wx w2 := (by refine Below.on ?_ hb2; (repeat (first | with_reducible exact Below.refl _ _ | with_reducible assumption | with_reducible refine Below.drew ?_ | with_reducible refine Below.al ?_ _ | with_reducible refine Below.setCell ?_ (by first | exact Nat.le_refl _ | (simp; omega) | (simp; done)) _ | with_reducible refine Below.on ?_ (by assumption)))); have hO2 : Onl (fun b => b = w.heap.size + 1) wx w2 := Onl.of_below hB2; have hk2 := (hB2.block _ hlt).trans HOB.out; have f2 : ∀ o, w2.frozen? ⟨w.heap.size + 1, o, none⟩ = false := (fun o => by simp [World.frozen?, hk2]); have r0 : w2.cell? ⟨w.heap.size + 1, 0, none⟩ = some (.int .u32 0) := Vs.cell_of_obj hk2 rfl; have r1 : w2.cell? ⟨w.heap.size + 1, 1, none⟩ = some (.int .u32 0) := Vs.cell_of_obj hk2 rfl; have r2 : w2.cell? ⟨w.heap.size + 1, 2, none⟩ = some (.int .u32 0) := Vs.cell_of_obj hk2 rfl; have r3 : w2.cell? ⟨w.heap.size + 1, 3, none⟩ = some (.int .u64 0) := Vs.cell_of_obj hk2 rfl; have r4 : w2.cell? ⟨w.heap.size + 1, 4, none⟩ = some (.int .u32 0) := Vs.cell_of_obj hk2 rfl; have r5 : w2.cell? ⟨w.heap.size + 1, 5, none⟩ = some (.int .u32 0) := Vs.cell_of_obj hk2 rfl; have r6 : w2.cell? ⟨w.heap.size + 1, 6, none⟩ = some (.slice none 0 0) := Vs.cell_of_obj hk2 rfl; have r7 : w2.cell? ⟨w.heap.size + 1, 7, none⟩ = some (.slice none 0 0) := Vs.cell_of_obj hk2 rfl; have HK2 := hid hk2; clear hk2))
 all_goals (try go_wp2_with fail)
 all_goals
  obtain ⟨WF, hWF⟩ : ∃ WF, WF = ((((((((w2.setCell ⟨w.heap.size + 1, 0, none⟩ (.int .u32 u.h.id.1)).setCell ⟨w.heap.size + 1, 1, none⟩ (.int .u32 u.h.id.2)).setCell ⟨w.heap.size + 1, 2, none⟩ (.int .u32 u.h.home)).setCell ⟨w.heap.size + 1, 3, none⟩ (.int .u64 u.h.w)).setCell ⟨w.heap.size + 1, 4, none⟩ (.int .u32 u.h.l)).setCell ⟨w.heap.size + 1, 5, none⟩ (.int .u32 u.h.n)).setCell ⟨w.heap.size + 1, 6, none⟩ (.slice u.ra u.h.rs.length u.rc)).setCell ⟨w.heap.size + 1, 7, none⟩ (.slice u.wa u.h.ws.length u.wc)) := ⟨_, rfl⟩; have bx : BoxH WF (w.heap.size + 1) u := by rw [hWF]; exact boxH_put HK2.out u
  have hbf : Below w.heap.size w WF := by
   rw [hWF]; repeat (refine Below.setCell ?_ (by simp) _)
   exact Below.on HBX.out hB2
  have HGF : Hid (GotF s i w.heap.size WF u) := hid (by
   have ho : Onl (fun b => b = w.heap.size + 1) w2 WF := by
    rw [hWF]; exact ((((((((Onl.refl (fun b => b = w.heap.size + 1) w2).set (p := w.heap.size + 1) rfl _ _).set (p := w.heap.size + 1) rfl _ _).set (p := w.heap.size + 1) rfl _ _).set (p := w.heap.size + 1) rfl _ _).set (p := w.heap.size + 1) rfl _ _).set (p := w.heap.size + 1) rfl _ _).set (p := w.heap.size + 1) rfl _ _).set (p := w.heap.size + 1) rfl _ _
   obtain ⟨g1, g2, g3⟩ := HG.out; have hn : ∀ b, u.has b → ¬ b = w.heap.size + 1 := fun b hb e => by have := (g2.has hb).1; omega
   exact ⟨g1, (g2.off ho hn).base (by omega), g3.off ho hn⟩)
  rw [← hWF]; have z0 := bx.c0; have z1 := bx.c1; have z2 := bx.c2; have z3 := bx.c3; have z4 := bx.c4; have z5 := bx.c5; have z6 := bx.c6; have z7 := bx.c7
  refine bodyPost_ret (v := .tuple #[.agg #[.int .u32 u.h.id.1, .int .u32 u.h.id.2, .int .u32 u.h.home, .int .u64 u.h.w, .int .u32 u.h.l, .int .u32 u.h.n, .slice u.ra u.h.rs.length u.rc, .slice u.wa u.h.ws.length u.wc], .bool ok]) (by simp [results, Tryz.results13, go_sem, z0, z1, z2, z3, z4, z5, z6, z7]) rfl ⟨u, ok, rfl, HGF, hid hbf⟩
end
end Go.Proofs.YtneojeidpfjpbaaGreatDoor.Ys
namespace Go.Proofs.YtneojeidpfjpbaaGreatDoor.Ig
open Go.RowKit Go.Sort Ys
theorem Own.at {l m : List Rg} (h : Own l m) : ∀ {i : Nat} {r : Rg}, l[i]? = some r → ∃ g1 g2, m[i]? = some (r.own g1 g2) := by
 induction h with
 | nil => intro i r h; simp at h
 | cons a b _ ih =>
  intro i r h; cases i with
  | zero => simp at h; subst h; exact ⟨a, b, rfl⟩
  | succ i => exact ih (by simpa using h)
theorem Own.mem {l m : List Rg} (h : Own l m) : ∀ {u : Rg}, u ∈ m → ∃ r ∈ l, ∃ g1 g2, u = r.own g1 g2 := by
 induction h with
 | nil => intro u h; cases h
 | cons a b _ ih =>
  intro u h; rcases List.mem_cons.1 h with rfl | h
  ·exact ⟨_, List.mem_cons_self .., a, b, rfl⟩
  ·obtain ⟨r, hr, g1, g2, e⟩ := ih h; exact ⟨r, List.mem_cons_of_mem _ hr, g1, g2, e⟩
theorem rok_off {F : Nat → Prop} {w w' : World} {u : Rg} (h : u.ok w) (ho : Onl F w w') (hF : ∀ b, (hvU u).has b → ¬ F b) : u.ok w' := by
 refine ⟨fun i hi => ?_, fun i hi => ?_, h.rl, h.wl, h.rg⟩
 ·obtain ⟨b, off, e, x0, x1⟩ := h.r i hi; have n := hF b (.inl (by simp [hvU, Lk.Hv.rV, e, Value.ownBlock])); exact ⟨b, off, e, ho.cell n x0, ho.cell n x1⟩
 ·obtain ⟨b, off, e, x0, x1, x2⟩ := h.w i hi; have n := hF b (.inr (by simp [hvU, Lk.Hv.wV, e, Value.ownBlock])); exact ⟨b, off, e, ho.cell n x0, ho.cell n x1, ho.cell n x2⟩
def Out (B L H : Nat) (b : Nat) : Prop := B ≤ b ∧ (b < L ∨ H ≤ b)
structure Ma (B L : Nat) (w2 w : World) (p : Nat) (n : Int) (s0 : Ps) (rs : List Rg) (k : Nat) : Prop where
 st : Stg B L w2.heap.size w p (axL s0 (rs.take k))
 run : Run n k (axL s0 (rs.take k))
 on : Onl (Out B L w2.heap.size) w2 w
section
variable {B L : Nat} {w1 w2 w w' : World} {p : Nat} {n : Int} {s0 : Ps} {rs U : List Rg} {k : Nat} {oa : Option Addr} {oc N : Nat}
theorem Ma.le (h : Ma B L w2 w p n s0 rs k) : w2.heap.size ≤ w.heap.size := h.on.size
theorem Ma.own (h : Ma B L w2 w p n s0 rs k) (hc : CopF L w1 w2 oa oc rs U N) : OwnZ L w (.slice oa N oc) N U := owns_keep hc.cp.ow fun g hg => h.on.block g (hc.cp.ow.lt g hg).2 fun e => by
 have h1 := hc.cp.ow.lt g hg; have h2 := e.2; omega
theorem Ma.off (h : Ma B L w2 w p n s0 rs k) (hc : CopF L w1 w2 oa oc rs U N) {u : Rg} (hu : u ∈ U) {b : Nat} (hb : (hvU u).has b) : ¬ Out B L w2.heap.size b := fun e => by
 have h1 := (hc.fr u hu).has hb; have h2 := e.2; omega
theorem Ma.fresh (h : Ma B L w2 w p n s0 rs k) (hc : CopF L w1 w2 oa oc rs U N) {u : Rg} (hu : u ∈ U) : (hvU u).fresh L w := (hc.fr u hu).off h.on fun b hb => h.off hc hu hb
theorem Ma.apply (h : Ma B L w2 w p n s0 rs k) (hB : B ≤ w2.heap.size) (hc : CopF L w1 w2 oa oc rs U N) (hk : k ≤ 93000) {r u : Rg} {g1 g2 : Nat} (hr0 : rs[k]? = some r) (hu : u ∈ U) (e : u = r.own g1 g2) (hR : RgR r) (hx : RgX r) :
  Calls Tryz.prog 6 #[sp p, u.val] w fun e w' => ∃ E, e = .returned (.int .i64 E) ∧ Hid (Ma B L w2 w' p n s0 rs (k + 1)) := by
 have hok : u.ok w := rok_off (hc.cp.un u hu).1 h.on fun b hb => h.off hc hu hb
 subst e; refine (h.st.apply (Nat.le_trans hB h.le) h.le _ hok ⟨hR.x, hR.t⟩ h.run.ceil (run_cnt h.run hk) (fun _ => h.run.jb)).mono ?_; rintro e w' ⟨rfl, H⟩; obtain ⟨I, hI⟩ := h.st.sta.okI; have e1 := axL_take (s := s0) hr0; have e2 := (own_axE (axL s0 (rs.take k)) r g1 g2).2; refine ⟨_, rfl, hid ⟨?_, ?_, h.on.trans H.out.2⟩⟩
 ·rw [e1, ← e2]; exact H.out.1
 ·rw [e1]; exact h.run.step h.st.sta.good hI hR hx
theorem Ma.spoilt (h : Ma B L w2 w p n s0 rs k) (hc : CopF L w1 w2 oa oc rs U N) (ho : Onl (fun b => ∃ u ∈ U, (hvU u).has b) w w') : Stg B L w2.heap.size w' p (axL s0 (rs.take k)) :=
 h.st.spoilt ho (fun b ⟨u, hu, hb⟩ => (hc.fr u hu).has hb) fun b ⟨u, hu, hb⟩ cs z hcs => by
  rcases hb with hb | hb
  ·obtain ⟨cur, hcur⟩ := Lk.own_type (h.fresh hc hu).r hb; rw [hcs] at hcur; injection hcur with e
   injection e with _ e _
   revert e; decide
  ·obtain ⟨cur, hcur⟩ := Lk.own_type (h.fresh hc hu).w hb; rw [hcs] at hcur; injection hcur with e
   injection e with _ e _
   revert e; decide
end
theorem sta_get {B : Nat} {w : World} {p : Nat} {s : Ps} (T : Sta B w p s) {h : Lk.Hd} (hh : h ∈ s.H) :
  Calls Tryz.prog 13 #[sp p, .agg #[.int .u32 h.id.1, .int .u32 h.id.2]] w fun e w' => ∃ (u : Lk.Hv) (ok : Bool), e = .returned (.tuple #[.agg #[.int .u32 u.h.id.1, .int .u32 u.h.id.2, .int .u32 u.h.home, .int .u64 u.h.w, .int .u32 u.h.l, .int .u32 u.h.n, .slice u.ra u.h.rs.length u.rc, .slice u.wa u.h.ws.length u.wc], .bool ok]) ∧ Hid (u.h = h) ∧ Hid (u.fresh w.heap.size w') ∧ Hid (u.ok w') ∧ Hid (Below w.heap.size w w') := by
 obtain ⟨F, m1, m2, m, V, I, T, _⟩ := T; refine (getF_is T h.id).mono ?_; rintro e w' ⟨u, ok, he, hg, hb⟩; exact ⟨u, ok, he, hid (hg.out.1 h hh rfl), hid hg.out.2.1, hid hg.out.2.2, hb⟩
theorem ne_self_sameEntries (x : Lg.En) (W : World) : (binOp .neq 91 (.agg #[.int .u32 x.id.1, .int .u32 x.id.2, .int .u32 x.home, .int .i64 x.oc, .int .u64 x.w, .int .u32 x.l, .int .u32 x.n]) (.agg #[.int .u32 x.id.1, .int .u32 x.id.2, .int .u32 x.home, .int .i64 x.oc, .int .u64 x.w, .int .u32 x.l, .int .u32 x.n])).run Tryz.prog W = .ok (.bool false) W := by
 simp [go_sem, Tryz.underlying91, Tryz.underlying38, Tryz.underlying28]
theorem sameEntries_is {w : World} {a a' : Option Addr} {c c' : Nat} {L : List (Lg.En)} (h : RowG Lg.ecs 7 w a L) (h' : RowG Lg.ecs 7 w a' L) (hl : L.length ≤ 1099511627776) :
  Calls Tryz.prog 46 #[.slice a L.length c, .slice a' L.length c'] w fun e w' => e = .returned (.bool true) ∧ Below w.heap.size w w' := by
 have HR := hid h; have HR' := hid h'; obtain ⟨m, hm⟩ : ∃ m, m = L.length := ⟨_, rfl⟩; rw [← hm] at hl ⊢; have HM := hid hm; have h0 : ((m : Int) != (m : Int)) = false := by simp
 clear h h' hm; go_enter Tryz.func46, Tryz.ntmps46
 go_wp2_with fail
 go_loopg [5] m (fun g s5 wr => ∃ i : Nat, i ≤ m ∧ g = m - i ∧ s5 = .int .i64 i ∧ Hid (Below w.heap.size w wr))
 case atStart => exact ⟨0, by omega, by omega, rfl, hid (Below.refl _ _)⟩
 case round =>
  obtain ⟨i, hi1, rfl, rfl, HB⟩ := hrel; by_cases hlt : i < m
  ·have hi2 : (i : Int) < (m : Int) := by omega
   have hiL : i < L.length := by rw [← HM.out]; exact hlt
   obtain ⟨x, hx⟩ : ∃ x, L[i]? = some x := ⟨_, List.getElem?_eq_getElem hiL⟩; obtain ⟨g, off, eg, hc⟩ := (HR.out.later HB.out) i x hx; obtain ⟨g', off', eg', hc'⟩ := (HR'.out.later HB.out) i x hx; subst eg eg'; have qq := ne_self_sameEntries x; have s0 := cell_regrown (show wr.cell? ⟨g, off + i * 7, none⟩ = some (.int .u32 x.id.1) from hc 0 _ rfl); have t0 := cell_regrown (show wr.cell? ⟨g', off' + i * 7, none⟩ = some (.int .u32 x.id.1) from hc' 0 _ rfl); have s1 := cell_regrown (show wr.cell? ⟨g, off + i * 7 + 1, none⟩ = some (.int .u32 x.id.2) from hc 1 _ rfl); have t1 := cell_regrown (show wr.cell? ⟨g', off' + i * 7 + 1, none⟩ = some (.int .u32 x.id.2) from hc' 1 _ rfl); have s2 := cell_regrown (show wr.cell? ⟨g, off + i * 7 + 2, none⟩ = some (.int .u32 x.home) from hc 2 _ rfl)
   have t2 := cell_regrown (show wr.cell? ⟨g', off' + i * 7 + 2, none⟩ = some (.int .u32 x.home) from hc' 2 _ rfl); have s3 := cell_regrown (show wr.cell? ⟨g, off + i * 7 + 3, none⟩ = some (.int .i64 x.oc) from hc 3 _ rfl); have t3 := cell_regrown (show wr.cell? ⟨g', off' + i * 7 + 3, none⟩ = some (.int .i64 x.oc) from hc' 3 _ rfl); have s4 := cell_regrown (show wr.cell? ⟨g, off + i * 7 + 4, none⟩ = some (.int .u64 x.w) from hc 4 _ rfl); have t4 := cell_regrown (show wr.cell? ⟨g', off' + i * 7 + 4, none⟩ = some (.int .u64 x.w) from hc' 4 _ rfl); have s5 := cell_regrown (show wr.cell? ⟨g, off + i * 7 + 5, none⟩ = some (.int .u32 x.l) from hc 5 _ rfl); have t5 := cell_regrown (show wr.cell? ⟨g', off' + i * 7 + 5, none⟩ = some (.int .u32 x.l) from hc' 5 _ rfl); have s6 := cell_regrown (show wr.cell? ⟨g, off + i * 7 + 6, none⟩ = some (.int .u32 x.n) from hc 6 _ rfl)
   have t6 := cell_regrown (show wr.cell? ⟨g', off' + i * 7 + 6, none⟩ = some (.int .u32 x.n) from hc' 6 _ rfl); clear hc hc' hx; go_wp2_with fail
   refine wp_region_quiet_below (by kernel_rfl) (by kernel_rfl) ?_; repeat (go_big_quiet_step (fail))
   refine wpQuiet_nil ?_; intro wn hwn; replace hwn := below_of_regrown hwn; have HN := hid (Below.on HB.out hwn); go_wp2_with fail
   go_roundg (m - (i + 1))
   case measure => omega
   case rel => exact ⟨i + 1, by omega, rfl, by go_num, HN⟩
  ·have hni : ¬ ((i : Int) < (m : Int)) := by omega
   clear hlt hi1; go_wp2_with fail
   go_ret
   exact ⟨rfl, HB.out⟩
theorem ne_self_sameVersions (x : Vs.Kv) (W : World) : (binOp .neq 97 (.agg #[.string x.1, .int .u64 x.2.s.a, .int .u32 x.2.s.b, .int .u32 x.2.s.c, .bool x.2.del, .string x.2.val]) (.agg #[.string x.1, .int .u64 x.2.s.a, .int .u32 x.2.s.b, .int .u32 x.2.s.c, .bool x.2.del, .string x.2.val])).run Tryz.prog W = .ok (.bool false) W := by
 simp [go_sem, Tryz.underlying97, Tryz.underlying28]
theorem sameVersions_is {w : World} {a a' : Option Addr} {c c' : Nat} {L : List (Vs.Kv)} (h : RowG c6 6 w a L) (h' : RowG c6 6 w a' L) (hl : L.length ≤ 1099511627776) :
  Calls Tryz.prog 47 #[.slice a L.length c, .slice a' L.length c'] w fun e w' => e = .returned (.bool true) ∧ Below w.heap.size w w' := by
 have HR := hid h; have HR' := hid h'; obtain ⟨m, hm⟩ : ∃ m, m = L.length := ⟨_, rfl⟩; rw [← hm] at hl ⊢; have HM := hid hm; have h0 : ((m : Int) != (m : Int)) = false := by simp
 clear h h' hm; go_enter Tryz.func47, Tryz.ntmps47
 go_wp2_with fail
 go_loopg [5] m (fun g s5 wr => ∃ i : Nat, i ≤ m ∧ g = m - i ∧ s5 = .int .i64 i ∧ Hid (Below w.heap.size w wr))
 case atStart => exact ⟨0, by omega, by omega, rfl, hid (Below.refl _ _)⟩
 case round =>
  obtain ⟨i, hi1, rfl, rfl, HB⟩ := hrel; by_cases hlt : i < m
  ·have hi2 : (i : Int) < (m : Int) := by omega
   have hiL : i < L.length := by rw [← HM.out]; exact hlt
   obtain ⟨x, hx⟩ : ∃ x, L[i]? = some x := ⟨_, List.getElem?_eq_getElem hiL⟩; obtain ⟨g, off, eg, hc⟩ := (HR.out.later HB.out) i x hx; obtain ⟨g', off', eg', hc'⟩ := (HR'.out.later HB.out) i x hx; subst eg eg'; have qq := ne_self_sameVersions x; have s0 := cell_regrown (show wr.cell? ⟨g, off + i * 6, none⟩ = some (.string x.1) from hc 0 _ rfl); have t0 := cell_regrown (show wr.cell? ⟨g', off' + i * 6, none⟩ = some (.string x.1) from hc' 0 _ rfl); have s1 := cell_regrown (show wr.cell? ⟨g, off + i * 6 + 1, none⟩ = some (.int .u64 x.2.s.a) from hc 1 _ rfl); have t1 := cell_regrown (show wr.cell? ⟨g', off' + i * 6 + 1, none⟩ = some (.int .u64 x.2.s.a) from hc' 1 _ rfl); have s2 := cell_regrown (show wr.cell? ⟨g, off + i * 6 + 2, none⟩ = some (.int .u32 x.2.s.b) from hc 2 _ rfl)
   have t2 := cell_regrown (show wr.cell? ⟨g', off' + i * 6 + 2, none⟩ = some (.int .u32 x.2.s.b) from hc' 2 _ rfl); have s3 := cell_regrown (show wr.cell? ⟨g, off + i * 6 + 3, none⟩ = some (.int .u32 x.2.s.c) from hc 3 _ rfl); have t3 := cell_regrown (show wr.cell? ⟨g', off' + i * 6 + 3, none⟩ = some (.int .u32 x.2.s.c) from hc' 3 _ rfl); have s4 := cell_regrown (show wr.cell? ⟨g, off + i * 6 + 4, none⟩ = some (.bool x.2.del) from hc 4 _ rfl); have t4 := cell_regrown (show wr.cell? ⟨g', off' + i * 6 + 4, none⟩ = some (.bool x.2.del) from hc' 4 _ rfl); have s5 := cell_regrown (show wr.cell? ⟨g, off + i * 6 + 5, none⟩ = some (.string x.2.val) from hc 5 _ rfl); have t5 := cell_regrown (show wr.cell? ⟨g', off' + i * 6 + 5, none⟩ = some (.string x.2.val) from hc' 5 _ rfl); clear hc hc' hx; go_wp2_with fail
   refine wp_region_quiet_below (by kernel_rfl) (by kernel_rfl) ?_; repeat (go_big_quiet_step (fail))
   refine wpQuiet_nil ?_; intro wn hwn; replace hwn := below_of_regrown hwn; have HN := hid (Below.on HB.out hwn); go_wp2_with fail
   go_roundg (m - (i + 1))
   case measure => omega
   case rel => exact ⟨i + 1, by omega, rfl, by go_num, HN⟩
  ·have hni : ¬ ((i : Int) < (m : Int)) := by omega
   clear hlt hi1; go_wp2_with fail
   go_ret
   exact ⟨rfl, HB.out⟩
end Go.Proofs.YtneojeidpfjpbaaGreatDoor.Ig
namespace Go.Proofs.YtneojeidpfjpbaaGreatDoor.Lk
open Go.RowKit Go.Sort
set_option maxRecDepth 8000 in
theorem sameids_is {w : World} {a a' : Option Addr} {c c' n : Nat} {D : List Ix} (hn : D.length = n) (ha : RowI w a D) (hb : RowI w a' D) (hl : n ≤ 9223372036854775806) :
  Calls Tryz.prog 49 #[.slice a n c, .slice a' n c'] w fun e w' => e = .returned (.bool true) ∧ Below w.heap.size w w' := by
 have HA := hid ha; have HB' := hid hb; have HN := hid hn; clear ha hb hn; go_enter Tryz.func49, Tryz.ntmps49
 go_wp2_with fail
 go_loopg [5] n (fun g s5 wr => ∃ i : Nat, i ≤ n ∧ g = n - i ∧ s5 = .int .i64 i ∧ Hid (Below w.heap.size w wr))
 case atStart => exact ⟨0, by omega, by omega, rfl, Below.refl _ _⟩
 case round =>
  obtain ⟨i, hi1, rfl, rfl, HB⟩ := hrel; by_cases hlt : i < n
  ·obtain ⟨b1, o1, rfl, hc1⟩ := HA.out i (by rw [HN.out]; exact hlt); obtain ⟨b2, o2, rfl, hc2⟩ := HB'.out i (by rw [HN.out]; exact hlt); obtain ⟨x, hx⟩ : ∃ x, x = D[i]?.getD (0, 0) := ⟨_, rfl⟩; rw [← hx] at hc1 hc2; have s0 := cell_regrown (cell_later HB.out (show w.cell? ⟨b1, o1 + i * 2, none⟩ = some (.int .u32 x.1) from hc1 0 _ rfl)); have s1 := cell_regrown (cell_later HB.out (hc1 1 _ rfl)); have t0 := cell_regrown (cell_later HB.out (show w.cell? ⟨b2, o2 + i * 2, none⟩ = some (.int .u32 x.1) from hc2 0 _ rfl)); have t1 := cell_regrown (cell_later HB.out (hc2 1 _ rfl)); have hi2 : (i : Int) < (n : Int) := by omega
   clear hc1 hc2 hx; go_wp2_with fail
   refine wp_region_quiet_below (by kernel_rfl) (by kernel_rfl) ?_; repeat (go_big_quiet_step (fail))
   refine wpQuiet_nil ?_; intro wn hwn; replace hwn := below_of_regrown hwn; have HBN : Hid (Below w.heap.size w wn) := Below.on HB.out hwn; clear s0 s1 t0 t1; go_wp2_with fail
   go_roundg (n - (i + 1))
   case measure => omega
   case rel => exact ⟨i + 1, by omega, rfl, by go_num, HBN⟩
  ·obtain rfl : i = n := by omega
   go_wp2_with fail
   go_ret
   exact ⟨rfl, HB.out⟩
end Go.Proofs.YtneojeidpfjpbaaGreatDoor.Lk
