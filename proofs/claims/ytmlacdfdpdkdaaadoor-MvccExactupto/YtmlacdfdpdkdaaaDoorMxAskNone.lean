import Derived.Test.YtmlacdfdpdkdaaaDoorMxBook
import Derived.Test.YtmlacdfdpdkdaaaDoorRvAbove
import Derived.Test.YtmlacdfdpdkdaaaDoorVLen
import Derived.Test.YtmlacdfdpdkdaaaDoorVAt
import Derived.Test.YtmlacdfdpdkdaaaDoorVRowsV
import Derived.Test.YtmlacdfdpdkdaaaDoorVAbove
/- The law's queries. -/
namespace Go.Proofs.YtmlacdfdpdkdaaaDoor.Bg
open Go.RowKit Go.Sort Go.Proofs.YtmlacdfdpdkdaaaDoor Go.Proofs.YtmlacdfdpdkdaaaDoor.Vs
set_option linter.unusedVariables false

/-- a step in plain words -/
structure Sc where
  k : Int
  o : Int
  t : Sp
  lo : ByteArray
  hi : ByteArray
  wa : Option Addr
  wc : Nat
  ws : List Wr
  va : Option Addr
  vc : Nat
  vs : List Kv
abbrev Sc.cells (s : Sc) : Array Value := #[.int .i64 s.k, .int .i64 s.o, .int .u64 s.t.a, .int .u32 s.t.b, .int .u32 s.t.c, .string s.lo, .string s.hi, .slice s.wa s.ws.length s.wc, .slice s.va s.vs.length s.vc]
/-- the step in its box -/
structure Bx (w : World) (q : Nat) (s : Sc) : Prop where
  x0 : w.cell? ⟨q, 0, none⟩ = some (.int .i64 s.k)
  x1 : w.cell? ⟨q, 1, none⟩ = some (.int .i64 s.o)
  x2 : w.cell? ⟨q, 2, none⟩ = some (.int .u64 s.t.a)
  x3 : w.cell? ⟨q, 3, none⟩ = some (.int .u32 s.t.b)
  x4 : w.cell? ⟨q, 4, none⟩ = some (.int .u32 s.t.c)
  x5 : w.cell? ⟨q, 5, none⟩ = some (.string s.lo)
  x6 : w.cell? ⟨q, 6, none⟩ = some (.string s.hi)
  x7 : w.cell? ⟨q, 7, none⟩ = some (.slice s.wa s.ws.length s.wc)
  x8 : w.cell? ⟨q, 8, none⟩ = some (.slice s.va s.vs.length s.vc)
theorem Bx.of {w : World} (s : Sc) {t : TypeId} {wb : World} (h : wb = w.alloc (.cells s.cells t)) : Bx wb w.heap.size s := by
  have hq : wb.heap[w.heap.size]? = some (.cells s.cells t (0, 0)) := by rw [h]; exact World.alloc_heap_new _ _
  exact ⟨cell_obj hq rfl, cell_obj hq rfl, cell_obj hq rfl, cell_obj hq rfl, cell_obj hq rfl, cell_obj hq rfl, cell_obj hq rfl, cell_obj hq rfl, cell_obj hq rfl⟩
theorem Bx.later {w w' : World} {q : Nat} {s : Sc} (h : Bx w q s) (hb : Below w.heap.size w w') : Bx w' q s :=
  ⟨cell_later hb h.x0, cell_later hb h.x1, cell_later hb h.x2, cell_later hb h.x3, cell_later hb h.x4, cell_later hb h.x5, cell_later hb h.x6, cell_later hb h.x7, cell_later hb h.x8⟩
theorem Bx.onl {F : Nat → Prop} {w w' : World} {q : Nat} {s : Sc} (h : Bx w q s) (ho : Onl F w w') (hq : ¬ F q) : Bx w' q s :=
  ⟨ho.cell hq h.x0, ho.cell hq h.x1, ho.cell hq h.x2, ho.cell hq h.x3, ho.cell hq h.x4, ho.cell hq h.x5, ho.cell hq h.x6, ho.cell hq h.x7, ho.cell hq h.x8⟩
/-- blocks from lo to hi that nobody writes -/
abbrev Cz (c : Nat → Nat) (lo hi : Nat) : Prop := ∀ k, lo ≤ k → k < hi → c k = 7 ∨ c k = 22
abbrev Fz (lo hi : Nat) (w w' : World) : Prop := ∀ k, lo ≤ k → k < hi → w'.heap[k]? = w.heap[k]?
/-- both kinds of stores hold the same -/
structure Eqs (x : Sv) (n : Nat) : Prop where
  m : x.N = x.M
  k : x.kr = x.kp
  c : ∀ j, j < 2 → countM (x.M j) ≤ n
  ok : ∀ j, j < 2 → OkM (x.M j)

/-- the scene with two lists, and with one, in hand -/
def SBP (W w : World) (b : Nat) (x : Sv) (m lo hi : Nat) (z1 z2 : Value) (xs : List (ByteArray × ByteArray)) : Prop := ∃ c s z, St W w c b { x with s := s, z := z } m ∧ Cz c lo hi ∧ RwC elP w W.heap.size c 20 z1 xs ∧ RwC elP w W.heap.size c 21 z2 xs
def SAP (W w : World) (b : Nat) (x : Sv) (m lo hi : Nat) (z2 : Value) (xs : List (ByteArray × ByteArray)) : Prop := ∃ c s z, St W w c b { x with s := s, z := z } m ∧ Cz c lo hi ∧ RwC elP w W.heap.size c 21 z2 xs
theorem sbP_of {W w w1 w5 : World} {b m lo : Nat} {c : Nat → Nat} {x : Sv} {z1 z2 : Value} {xs : List (ByteArray × ByteArray)} (h : St W w c b x m) (hz : Cz c lo w.heap.size) (hb1 : Below w.heap.size w w1) (hb5 : Below w1.heap.size w1 w5) (r1 : RowF elP w1 w.heap.size z1 xs) (r2 : RowF elP w5 w1.heap.size z2 xs) : SBP W w5 b x m lo w.heap.size z1 z2 xs := by
  have hb : Below w.heap.size w w5 := Below.on hb1 hb5
  obtain ⟨c', h', ho, hn⟩ := h.later hb (fun k => if k < w1.heap.size then 20 else 21)
  have r1' := r1.later hb5
  have hs := h.bl.size
  refine ⟨c', x.s, x.z, h', fun k h1 h2 => by rw [ho k h2]; exact hz k h1 h2, ⟨r1'.base hs, fun g hg => ?_⟩, ⟨r2.base (Nat.le_trans hs hb1.size), fun g hg => ?_⟩⟩
  · rw [hn g (r1.lt g hg).1 ((r1'.ty g hg).not ixP), if_pos (r1.lt g hg).2]
  · rw [hn g (Nat.le_trans hb1.size (r2.lt g hg).1) ((r2.ty g hg).not ixP), if_neg (by have := (r2.lt g hg).1; omega)]
theorem SBP.keep {W w : World} {b m lo hi : Nat} {x : Sv} {z1 z2 : Value} {xs : List (ByteArray × ByteArray)} (h : SBP W w b x m lo hi z1 z2 xs) (hh : hi ≤ w.heap.size) (hl : xs.length ≤ 1073741824) (hm : m ≤ 1073741824) :
    Calls Tryd.prog 22 #[.pointer (some ⟨b, 4, none⟩), z1] w fun e w' => e = .returned (.tuple #[]) ∧ Hid (SAP W w' b x (m + 1) lo hi z2 xs ∧ Fz lo hi w w' ∧ w.heap.size ≤ w'.heap.size) := by
  obtain ⟨c, s, z, h, hz, r1, r2⟩ := h
  have hle := h.bp.le
  refine (keepP_is h.bp.bk r1 ⟨by omega, by omega⟩ h.bl.size (by omega) (by omega)).mono ?_
  rintro e w' ⟨rfl, c', s', k⟩
  obtain ⟨c2, h2, hc⟩ := h.keptP k ⟨by omega, by omega⟩ hl
  refine ⟨rfl, ⟨c2, _, _, h2, fun i h5 h6 => ?_, ?_⟩, fun i h5 h6 => k.onl.block i (by omega) (by have := hz i h5 h6; omega), k.onl.size⟩
  · haveI := Classical.propDecidable (IxB w' i)
    by_cases hx : IxB w' i
    · exact .inl (h2.ix i hx)
    · rw [hc i (by omega) (by have := hz i h5 h6; omega) hx]; exact hz i h5 h6
  have r3 := r2.onl (c' := c) (q' := 21) (S := fun q => q = 8 + 0 ∨ q = 10 + 0 ∨ q = 16) k.onl (by omega) (fun _ _ e => e)
  exact ⟨r3.1, fun g hg => (hc g (r2.1.lt g hg).2 (by rw [r2.2 g hg]; omega) ((r3.1.ty g hg).not ixP)).trans (r2.2 g hg)⟩
theorem SAP.keep {W w : World} {b m lo hi : Nat} {x : Sv} {z2 : Value} {xs : List (ByteArray × ByteArray)} (h : SAP W w b x m lo hi z2 xs) (hh : hi ≤ w.heap.size) (hl : xs.length ≤ 1073741824) (hm : m ≤ 1073741824) :
    Calls Tryd.prog 22 #[.pointer (some ⟨b, 4, none⟩), z2] w fun e w' => e = .returned (.tuple #[]) ∧ Hid (Sx W w' b x (m + 1) ∧ Fz lo hi w w') := by
  obtain ⟨c, s, z, h, hz, r2⟩ := h
  have hle := h.bp.le
  refine (keepP_is h.bp.bk r2 ⟨by omega, by omega⟩ h.bl.size (by omega) (by omega)).mono ?_
  rintro e w' ⟨rfl, c', s', k⟩
  obtain ⟨c2, h2, hc⟩ := h.keptP k ⟨by omega, by omega⟩ hl
  exact ⟨rfl, ⟨c2, _, _, h2⟩, fun i h5 h6 => k.onl.block i (by omega) (by have := hz i h5 h6; omega)⟩
/-- the scene with two lists, and with one, in hand -/
def SBV (W w : World) (b : Nat) (x : Sv) (m lo hi : Nat) (z1 z2 : Value) (xs : List (Kv)) : Prop := ∃ c s z, St W w c b { x with s := s, z := z } m ∧ Cz c lo hi ∧ RwC elV w W.heap.size c 20 z1 xs ∧ RwC elV w W.heap.size c 21 z2 xs
def SAV (W w : World) (b : Nat) (x : Sv) (m lo hi : Nat) (z2 : Value) (xs : List (Kv)) : Prop := ∃ c s z, St W w c b { x with s := s, z := z } m ∧ Cz c lo hi ∧ RwC elV w W.heap.size c 21 z2 xs
theorem sbV_of {W w w1 w5 : World} {b m lo : Nat} {c : Nat → Nat} {x : Sv} {z1 z2 : Value} {xs : List (Kv)} (h : St W w c b x m) (hz : Cz c lo w.heap.size) (hb1 : Below w.heap.size w w1) (hb5 : Below w1.heap.size w1 w5) (r1 : RowF elV w1 w.heap.size z1 xs) (r2 : RowF elV w5 w1.heap.size z2 xs) : SBV W w5 b x m lo w.heap.size z1 z2 xs := by
  have hb : Below w.heap.size w w5 := Below.on hb1 hb5
  obtain ⟨c', h', ho, hn⟩ := h.later hb (fun k => if k < w1.heap.size then 20 else 21)
  have r1' := r1.later hb5
  have hs := h.bl.size
  refine ⟨c', x.s, x.z, h', fun k h1 h2 => by rw [ho k h2]; exact hz k h1 h2, ⟨r1'.base hs, fun g hg => ?_⟩, ⟨r2.base (Nat.le_trans hs hb1.size), fun g hg => ?_⟩⟩
  · rw [hn g (r1.lt g hg).1 ((r1'.ty g hg).not ixV), if_pos (r1.lt g hg).2]
  · rw [hn g (Nat.le_trans hb1.size (r2.lt g hg).1) ((r2.ty g hg).not ixV), if_neg (by have := (r2.lt g hg).1; omega)]
theorem SBV.keep {W w : World} {b m lo hi : Nat} {x : Sv} {z1 z2 : Value} {xs : List (Kv)} (h : SBV W w b x m lo hi z1 z2 xs) (hh : hi ≤ w.heap.size) (hl : xs.length ≤ 1073741824) (hm : m ≤ 1073741824) :
    Calls Tryd.prog 32 #[.pointer (some ⟨b, 8, none⟩), z1] w fun e w' => e = .returned (.tuple #[]) ∧ Hid (SAV W w' b x (m + 1) lo hi z2 xs ∧ Fz lo hi w w' ∧ w.heap.size ≤ w'.heap.size) := by
  obtain ⟨c, s, z, h, hz, r1, r2⟩ := h
  have hle := h.bv.le
  refine (keepV_is h.bv.bk r1 ⟨by omega, by omega⟩ h.bl.size (by omega) (by omega)).mono ?_
  rintro e w' ⟨rfl, c', s', k⟩
  obtain ⟨c2, h2, hc⟩ := h.keptV k ⟨by omega, by omega⟩ hl
  refine ⟨rfl, ⟨c2, _, _, h2, fun i h5 h6 => ?_, ?_⟩, fun i h5 h6 => k.onl.block i (by omega) (by have := hz i h5 h6; omega), k.onl.size⟩
  · haveI := Classical.propDecidable (IxB w' i)
    by_cases hx : IxB w' i
    · exact .inl (h2.ix i hx)
    · rw [hc i (by omega) (by have := hz i h5 h6; omega) hx]; exact hz i h5 h6
  have r3 := r2.onl (c' := c) (q' := 21) (S := fun q => q = 8 + 1 ∨ q = 10 + 1 ∨ q = 16) k.onl (by omega) (fun _ _ e => e)
  exact ⟨r3.1, fun g hg => (hc g (r2.1.lt g hg).2 (by rw [r2.2 g hg]; omega) ((r3.1.ty g hg).not ixV)).trans (r2.2 g hg)⟩
theorem SAV.keep {W w : World} {b m lo hi : Nat} {x : Sv} {z2 : Value} {xs : List (Kv)} (h : SAV W w b x m lo hi z2 xs) (hh : hi ≤ w.heap.size) (hl : xs.length ≤ 1073741824) (hm : m ≤ 1073741824) :
    Calls Tryd.prog 32 #[.pointer (some ⟨b, 8, none⟩), z2] w fun e w' => e = .returned (.tuple #[]) ∧ Hid (Sx W w' b x (m + 1) ∧ Fz lo hi w w') := by
  obtain ⟨c, s, z, h, hz, r2⟩ := h
  have hle := h.bv.le
  refine (keepV_is h.bv.bk r2 ⟨by omega, by omega⟩ h.bl.size (by omega) (by omega)).mono ?_
  rintro e w' ⟨rfl, c', s', k⟩
  obtain ⟨c2, h2, hc⟩ := h.keptV k ⟨by omega, by omega⟩ hl
  exact ⟨rfl, ⟨c2, _, _, h2⟩, fun i h5 h6 => k.onl.block i (by omega) (by have := hz i h5 h6; omega)⟩
end Go.Proofs.YtmlacdfdpdkdaaaDoor.Bg
/- The law's queries. -/
namespace Go.Proofs.YtmlacdfdpdkdaaaDoor.Bg
open Go.RowKit Go.Sort Go.Proofs.YtmlacdfdpdkdaaaDoor Go.Proofs.YtmlacdfdpdkdaaaDoor.Vs
set_option linter.unusedVariables false

set_option maxRecDepth 8000 in
set_option maxHeartbeats 4000000 in
theorem asks_read {W w00 w : World} {b m n j : Nat} {x : Sv} (h : Sx W w00 b x m) (hb00 : Below w00.heap.size w00 w) (hx : Eqs x n) (hn : n ≤ 1048576) (hm : m ≤ 1073741823) (s : Sc) (hj : j < 2) (hb : bits BinOp.and IntKind.i64 s.o 1 = (j : Int)) (hk : s.k = 3) :
    Calls Tryd.prog 8 #[pt b, .agg s.cells] w fun e w' => e = .returned (.bool true) ∧ Hid (Sx W w' b x (m + 2)) ∧ Hid (Fz w00.heap.size w.heap.size w w') := by
  obtain ⟨wb, hwb⟩ : ∃ wb, wb = w.alloc (.cells s.cells 58) := ⟨_, rfl⟩
  have hbb : Below w.heap.size w wb := by rw [hwb]; exact Below.al (Below.refl _ _) _
  obtain ⟨c, s0, z0, h, hz⟩ : ∃ c s0 z0, St W wb c b { x with s := s0, z := z0 } m ∧ Cz c w00.heap.size wb.heap.size := by
    obtain ⟨c0, s0, z0, h0⟩ := h
    obtain ⟨c, h1, _, h2⟩ := h0.later (Below.on hb00 hbb) (fun _ => 22)
    refine ⟨c, s0, z0, h1, fun k h5 h6 => ?_⟩
    haveI := Classical.propDecidable (IxB wb k)
    by_cases hx : IxB wb k
    · exact .inl (h1.ix k hx)
    · exact .inr (h2 k h5 hx)
  have HS := hid h
  have HZ := hid hz
  have HFZ : Hid (∀ w', (∀ k, w00.heap.size ≤ k → k < wb.heap.size → w'.heap[k]? = wb.heap[k]?) → Fz w00.heap.size w.heap.size w w') := fun w' h9 k h5 h6 => (h9 k h5 (Nat.lt_of_lt_of_le h6 hbb.size)).trans (hbb.block k h6)
  obtain ⟨x0, x1, x2, x3, x4, x5, x6, x7, x8⟩ := Bx.of s hwb
  obtain ⟨q, hq⟩ : ∃ q, q = w.heap.size := ⟨_, rfl⟩
  rw [← hq] at x0 x1 x2 x3 x4 x5 x6 x7 x8
  have y0 := h.cp j hj
  have y1 := h.cq j hj
  have hcj := hx.c j hj
  have hst := h.st j hj
  have hrs := h.rs j hj
  have hgd := hst.good
  simp only [hx.m, hx.k] at hst hrs hgd y0 y1
  obtain ⟨xs, hxs⟩ : ∃ xs, xs = rdL (x.M j) (x.kp j) s.lo s.hi s.t := ⟨_, rfl⟩
  have hxl : xs.length ≤ 1048576 := by rw [hxs]; exact Nat.le_trans (rd_len _ _ _ _ _ hgd) (by omega)
  have L1 : Hid (∀ w1, Below wb.heap.size wb w1 → Calls Tryd.prog 6 #[pt (x.p j), .agg #[.string s.lo, .string s.hi], sv s.t] w1 fun e w' => ∃ a k, e = .returned (.tuple #[.slice a xs.length k, .int .i64 (rdE (x.M j) (x.kp j) s.lo s.hi s.t)]) ∧ RowF elP w' w1.heap.size (.slice a xs.length k) xs ∧ Below w1.heap.size w1 w') := fun w1 hb1 => by
    refine (read_is (hst.later hb1) s.lo s.hi s.t (by omega)).mono ?_
    rintro e w' ⟨v, rfl, ho, hb⟩
    rw [← hxs] at ho
    obtain ⟨a, k, rfl⟩ := owns_slice ho
    exact ⟨a, k, rfl, OwnP.rowF ho, hb⟩
  have L2 : Hid (∀ w1, Below wb.heap.size wb w1 → Calls Tryd.prog 20 #[pt (x.r j), .agg #[.string s.lo, .string s.hi], sv s.t] w1 fun e w' => ∃ a k, e = .returned (.tuple #[.slice a xs.length k, .int .i64 (rdE (x.M j) (x.kp j) s.lo s.hi s.t)]) ∧ RowF elP w' w1.heap.size (.slice a xs.length k) xs ∧ Below w1.heap.size w1 w') := fun w1 hb1 => by
    refine (rread_is (hrs.later hb1) (by rw [dump_len]; omega) s.lo s.hi s.t).mono ?_
    rintro e w' ⟨v, rfl, ho, hb⟩
    rw [(re_is hgd _ _ _ _).1]
    rw [(re_is hgd _ _ _ _).2, ← hxs] at ho
    obtain ⟨a, k, rfl⟩ := owns_slice ho
    exact ⟨a, k, rfl, OwnP.rowF ho, hb⟩
  generalize rdE (x.M j) (x.kp j) s.lo s.hi s.t = re at L1 L2
  clear hxs
  have HF : Hid (∀ w', Below wb.heap.size wb w' → Hid (Sx W w' b x (m + 2)) ∧ Hid (Fz w00.heap.size w.heap.size w w')) := fun w' hb => by
    obtain ⟨c', h', _⟩ := h.later hb (fun _ => 22)
    exact ⟨⟨c', s0, z0, h'.mono (by omega)⟩, HFZ.out w' (fun k _ h6 => hb.block k h6)⟩
  have HWB := hid hwb
  have HQ := hid hq
  generalize x.p j = pj at y0 L1
  generalize x.r j = rj at y1 L2
  clear h hx hbb hq hwb hst hrs hgd hb00 hz
  rw [hk] at x0
  go_enter Tryd.func8, Tryd.ntmps8
  go_upto_region 1 with fail
  rw [← HWB.out, ← HQ.out]
  have hJ : (j : Int) < 2 := by omega
  go_wp2_with fail
  go_quiet (fail)
  obtain ⟨wc, hwc⟩ : ∃ wc, wc = wb.drewN nq := ⟨_, rfl⟩
  rw [← hwc]
  have hbc : Below wb.heap.size wb wc := by rw [hwc]; exact Below.drewN (Below.refl _ _) _
  replace x0 := cell_later hbc x0
  replace x1 := cell_later hbc x1
  replace x2 := cell_later hbc x2
  replace x3 := cell_later hbc x3
  replace x4 := cell_later hbc x4
  replace x5 := cell_later hbc x5
  replace x6 := cell_later hbc x6
  replace x7 := cell_later hbc x7
  replace x8 := cell_later hbc x8
  replace y0 := cell_later hbc y0
  replace y1 := cell_later hbc y1
  clear hwc
  go_wp2_with fail
  go_quiet (fail)
  obtain ⟨wr, hwr⟩ : ∃ wr, wr = wc.drewN nq := ⟨_, rfl⟩
  rw [← hwr]
  have hbd : Below wc.heap.size wc wr := by rw [hwr]; exact Below.drewN (Below.refl _ _) _
  have hbr := Below.on hbc hbd
  replace x0 := cell_later hbd x0
  replace x2 := cell_later hbd x2
  replace x3 := cell_later hbd x3
  replace x4 := cell_later hbd x4
  replace x5 := cell_later hbd x5
  replace x6 := cell_later hbd x6
  have HBR := hid hbr
  clear hwr hbc hbd hbr y0 y1 x1 x7 x8
  go_wp2_with fail
  refine (L1.out _ HBR.out).mono ?_
  rintro e wa ⟨a1, k1, rfl, hr1, hb1⟩
  replace x2 := cell_later hb1 x2
  replace x3 := cell_later hb1 x3
  replace x4 := cell_later hb1 x4
  replace x5 := cell_later hb1 x5
  replace x6 := cell_later hb1 x6
  have HR1 := hid hr1
  have HB1 : Hid (Below wb.heap.size wb wa) := Below.on HBR.out hb1
  clear hr1 hb1
  go_wp2_with fail
  refine (L2.out _ HB1.out).mono ?_
  rintro e w2 ⟨a2, k2, rfl, hr2, hb2⟩
  replace x2 := cell_later hb2 x2
  replace x3 := cell_later hb2 x3
  replace x4 := cell_later hb2 x4
  replace x5 := cell_later hb2 x5
  replace x6 := cell_later hb2 x6
  have HR2 := hid hr2
  have HB2 : Hid (Below wa.heap.size wa w2) := hb2
  clear hr2 hb2
  go_wp2_with fail
  refine (sameP_at (HR1.out.later HB2.out).rd HR2.out.rd (by omega)).mono ?_
  rintro e w3 ⟨rfl, hb3⟩
  replace x2 := cell_later hb3 x2
  replace x3 := cell_later hb3 x3
  replace x4 := cell_later hb3 x4
  replace x5 := cell_later hb3 x5
  replace x6 := cell_later hb3 x6
  have HB3 : Hid (Below wa.heap.size wa w3) := Below.on HB2.out hb3
  have HR3 : Hid (RowF elP w3 _ (.slice a2 xs.length k2) xs) := HR2.out.later hb3
  clear hb3
  go_wp2_with fail
  refine (L1.out _ (Below.on HB1.out (HB3.out.mono (Nat.le_refl _)))).mono ?_
  rintro e w4 ⟨a4, k4, rfl, hr4, hb4⟩
  have HR4 := hid hr4
  have HB4 := hid hb4
  clear hr4 hb4
  go_wp2_with fail
  refine (sameP_at HR4.out.rd (HR3.out.later HB4.out).rd (by omega)).mono ?_
  rintro e w5 ⟨rfl, hb5⟩
  have HSB : Hid (SBP W w5 b x m w00.heap.size wb.heap.size (.slice a1 xs.length k1) (.slice a4 xs.length k4) xs) := by
    have h9 := sbP_of HS.out HZ.out HB1.out (Below.on (Below.on HB3.out HB4.out) hb5) (HR1.out.base HBR.out.size) ((HR4.out.later hb5).base HB3.out.size)
    exact h9
  have HB5 : Hid (Below wb.heap.size wb w5) := Below.on HB1.out (Below.on (Below.on HB3.out HB4.out) hb5)
  clear hb5
  go_wp2_with fail
  refine (HSB.out.keep HB5.out.size (by omega) (by omega)).mono ?_
  rintro e w6 ⟨rfl, h6⟩
  go_wp2_with fail
  refine (h6.out.1.keep (Nat.le_trans HB5.out.size h6.out.2.2) (by omega) (by omega)).mono ?_
  rintro e w7 ⟨rfl, h7⟩
  have HE : Hid (Sx W w7 b x (m + 2)) ∧ Hid (Fz w00.heap.size w.heap.size w w7) := ⟨h7.out.1, HFZ.out w7 (fun k h8 h9 => ((h7.out.2 k h8 h9).trans (h6.out.2.1 k h8 h9)).trans (HB5.out.block k h9))⟩
  go_wp2_with fail
  go_ret
  exact ⟨rfl, HE⟩
end Go.Proofs.YtmlacdfdpdkdaaaDoor.Bg
/- The law's queries. -/
namespace Go.Proofs.YtmlacdfdpdkdaaaDoor.Bg
open Go.RowKit Go.Sort Go.Proofs.YtmlacdfdpdkdaaaDoor Go.Proofs.YtmlacdfdpdkdaaaDoor.Vs
set_option linter.unusedVariables false

set_option maxRecDepth 8000 in
set_option maxHeartbeats 4000000 in
theorem asks_dump {W w00 w : World} {b m n j : Nat} {x : Sv} (h : Sx W w00 b x m) (hb00 : Below w00.heap.size w00 w) (hx : Eqs x n) (hn : n ≤ 1048576) (hm : m ≤ 1073741823) (s : Sc) (hj : j < 2) (hb : bits BinOp.and IntKind.i64 s.o 1 = (j : Int)) (hk : s.k = 8) :
    Calls Tryd.prog 8 #[pt b, .agg s.cells] w fun e w' => e = .returned (.bool true) ∧ Hid (Sx W w' b x (m + 2)) ∧ Hid (Fz w00.heap.size w.heap.size w w') := by
  obtain ⟨wb, hwb⟩ : ∃ wb, wb = w.alloc (.cells s.cells 58) := ⟨_, rfl⟩
  have hbb : Below w.heap.size w wb := by rw [hwb]; exact Below.al (Below.refl _ _) _
  obtain ⟨c, s0, z0, h, hz⟩ : ∃ c s0 z0, St W wb c b { x with s := s0, z := z0 } m ∧ Cz c w00.heap.size wb.heap.size := by
    obtain ⟨c0, s0, z0, h0⟩ := h
    obtain ⟨c, h1, _, h2⟩ := h0.later (Below.on hb00 hbb) (fun _ => 22)
    refine ⟨c, s0, z0, h1, fun k h5 h6 => ?_⟩
    haveI := Classical.propDecidable (IxB wb k)
    by_cases hx : IxB wb k
    · exact .inl (h1.ix k hx)
    · exact .inr (h2 k h5 hx)
  have HS := hid h
  have HZ := hid hz
  have HFZ : Hid (∀ w', (∀ k, w00.heap.size ≤ k → k < wb.heap.size → w'.heap[k]? = wb.heap[k]?) → Fz w00.heap.size w.heap.size w w') := fun w' h9 k h5 h6 => (h9 k h5 (Nat.lt_of_lt_of_le h6 hbb.size)).trans (hbb.block k h6)
  obtain ⟨x0, x1, x2, x3, x4, x5, x6, x7, x8⟩ := Bx.of s hwb
  obtain ⟨q, hq⟩ : ∃ q, q = w.heap.size := ⟨_, rfl⟩
  rw [← hq] at x0 x1 x2 x3 x4 x5 x6 x7 x8
  have y0 := h.cp j hj
  have y1 := h.cq j hj
  have hcj := hx.c j hj
  have hst := h.st j hj
  have hrs := h.rs j hj
  have hgd := hst.good
  simp only [hx.m, hx.k] at hst hrs hgd y0 y1
  obtain ⟨xs, hxs⟩ : ∃ xs, xs = dumpM (x.M j) := ⟨_, rfl⟩
  have hxl : xs.length ≤ 1048576 := by rw [hxs, dump_len]; omega
  have L1 : Hid (∀ w1, Below wb.heap.size wb w1 → Calls Tryd.prog 29 #[pt (x.p j)] w1 fun e w' => ∃ a k, e = .returned (.slice a xs.length k) ∧ RowF elV w' w1.heap.size (.slice a xs.length k) xs ∧ Below w1.heap.size w1 w') := fun w1 hb1 => by
    refine (dump_is (hst.later hb1) (by omega)).mono ?_
    rintro e w' ⟨v, rfl, ho, hb⟩
    rw [← hxs] at ho
    obtain ⟨a, k, rfl⟩ := owns_slice ho
    exact ⟨a, k, rfl, OwnV.rowF ho, hb⟩
  have L2 : Hid (∀ w1, Below wb.heap.size wb w1 → Calls Tryd.prog 31 #[pt (x.r j)] w1 fun e w' => ∃ a k, e = .returned (.slice a xs.length k) ∧ RowF elV w' w1.heap.size (.slice a xs.length k) xs ∧ Below w1.heap.size w1 w') := fun w1 hb1 => by
    refine (rdump_is (hrs.later hb1) (by rw [dump_len]; omega)).mono ?_
    rintro e w' ⟨v, rfl, ho, hb⟩
    rw [← hxs] at ho
    obtain ⟨a, k, rfl⟩ := owns_slice ho
    exact ⟨a, k, rfl, OwnV.rowF ho, hb⟩
  clear hxs
  have HF : Hid (∀ w', Below wb.heap.size wb w' → Hid (Sx W w' b x (m + 2)) ∧ Hid (Fz w00.heap.size w.heap.size w w')) := fun w' hb => by
    obtain ⟨c', h', _⟩ := h.later hb (fun _ => 22)
    exact ⟨⟨c', s0, z0, h'.mono (by omega)⟩, HFZ.out w' (fun k _ h6 => hb.block k h6)⟩
  have HWB := hid hwb
  have HQ := hid hq
  generalize x.p j = pj at y0 L1
  generalize x.r j = rj at y1 L2
  clear h hx hbb hq hwb hst hrs hgd hb00 hz
  rw [hk] at x0
  go_enter Tryd.func8, Tryd.ntmps8
  go_upto_region 1 with fail
  rw [← HWB.out, ← HQ.out]
  have hJ : (j : Int) < 2 := by omega
  go_wp2_with fail
  go_quiet (fail)
  obtain ⟨wc, hwc⟩ : ∃ wc, wc = wb.drewN nq := ⟨_, rfl⟩
  rw [← hwc]
  have hbc : Below wb.heap.size wb wc := by rw [hwc]; exact Below.drewN (Below.refl _ _) _
  replace x0 := cell_later hbc x0
  replace x1 := cell_later hbc x1
  replace x2 := cell_later hbc x2
  replace x3 := cell_later hbc x3
  replace x4 := cell_later hbc x4
  replace x5 := cell_later hbc x5
  replace x6 := cell_later hbc x6
  replace x7 := cell_later hbc x7
  replace x8 := cell_later hbc x8
  replace y0 := cell_later hbc y0
  replace y1 := cell_later hbc y1
  clear hwc
  go_wp2_with fail
  go_quiet (fail)
  obtain ⟨wr, hwr⟩ : ∃ wr, wr = wc.drewN nq := ⟨_, rfl⟩
  rw [← hwr]
  have hbd : Below wc.heap.size wc wr := by rw [hwr]; exact Below.drewN (Below.refl _ _) _
  have hbr := Below.on hbc hbd
  replace x0 := cell_later hbd x0
  replace x2 := cell_later hbd x2
  replace x3 := cell_later hbd x3
  replace x4 := cell_later hbd x4
  replace x5 := cell_later hbd x5
  replace x6 := cell_later hbd x6
  have HBR := hid hbr
  clear hwr hbc hbd hbr y0 y1 x1 x7 x8
  go_wp2_with fail
  refine (L1.out _ HBR.out).mono ?_
  rintro e wa ⟨a1, k1, rfl, hr1, hb1⟩
  replace x2 := cell_later hb1 x2
  replace x3 := cell_later hb1 x3
  replace x4 := cell_later hb1 x4
  replace x5 := cell_later hb1 x5
  replace x6 := cell_later hb1 x6
  have HR1 := hid hr1
  have HB1 : Hid (Below wb.heap.size wb wa) := Below.on HBR.out hb1
  clear hr1 hb1
  go_wp2_with fail
  refine (L2.out _ HB1.out).mono ?_
  rintro e w2 ⟨a2, k2, rfl, hr2, hb2⟩
  replace x2 := cell_later hb2 x2
  replace x3 := cell_later hb2 x3
  replace x4 := cell_later hb2 x4
  replace x5 := cell_later hb2 x5
  replace x6 := cell_later hb2 x6
  have HR2 := hid hr2
  have HB2 : Hid (Below wa.heap.size wa w2) := hb2
  clear hr2 hb2
  go_wp2_with fail
  refine (sameV_at (HR1.out.later HB2.out).rd HR2.out.rd (by omega)).mono ?_
  rintro e w3 ⟨rfl, hb3⟩
  replace x2 := cell_later hb3 x2
  replace x3 := cell_later hb3 x3
  replace x4 := cell_later hb3 x4
  replace x5 := cell_later hb3 x5
  replace x6 := cell_later hb3 x6
  have HB3 : Hid (Below wa.heap.size wa w3) := Below.on HB2.out hb3
  have HR3 : Hid (RowF elV w3 _ (.slice a2 xs.length k2) xs) := HR2.out.later hb3
  clear hb3
  go_wp2_with fail
  refine (L1.out _ (Below.on HB1.out (HB3.out.mono (Nat.le_refl _)))).mono ?_
  rintro e w4 ⟨a4, k4, rfl, hr4, hb4⟩
  have HR4 := hid hr4
  have HB4 := hid hb4
  clear hr4 hb4
  go_wp2_with fail
  refine (sameV_at HR4.out.rd ((HR1.out.later (Below.on HB3.out HB4.out))).rd (by omega)).mono ?_
  rintro e w5 ⟨rfl, hb5⟩
  have HSB : Hid (SBV W w5 b x m w00.heap.size wb.heap.size (.slice a1 xs.length k1) (.slice a4 xs.length k4) xs) := by
    have h9 := sbV_of HS.out HZ.out HB1.out (Below.on (Below.on HB3.out HB4.out) hb5) (HR1.out.base HBR.out.size) ((HR4.out.later hb5).base HB3.out.size)
    exact h9
  have HB5 : Hid (Below wb.heap.size wb w5) := Below.on HB1.out (Below.on (Below.on HB3.out HB4.out) hb5)
  clear hb5
  go_wp2_with fail
  refine (HSB.out.keep HB5.out.size (by omega) (by omega)).mono ?_
  rintro e w6 ⟨rfl, h6⟩
  go_wp2_with fail
  refine (h6.out.1.keep (Nat.le_trans HB5.out.size h6.out.2.2) (by omega) (by omega)).mono ?_
  rintro e w7 ⟨rfl, h7⟩
  have HE : Hid (Sx W w7 b x (m + 2)) ∧ Hid (Fz w00.heap.size w.heap.size w w7) := ⟨h7.out.1, HFZ.out w7 (fun k h8 h9 => ((h7.out.2 k h8 h9).trans (h6.out.2.1 k h8 h9)).trans (HB5.out.block k h9))⟩
  go_wp2_with fail
  go_ret
  exact ⟨rfl, HE⟩
end Go.Proofs.YtmlacdfdpdkdaaaDoor.Bg
/- The law's queries. -/
namespace Go.Proofs.YtmlacdfdpdkdaaaDoor.Bg
open Go.RowKit Go.Sort Go.Proofs.YtmlacdfdpdkdaaaDoor Go.Proofs.YtmlacdfdpdkdaaaDoor.Vs
set_option linter.unusedVariables false

set_option maxRecDepth 8000 in
set_option maxHeartbeats 4000000 in
theorem asks_len {W w00 w : World} {b m n j : Nat} {x : Sv} (h : Sx W w00 b x m) (hb00 : Below w00.heap.size w00 w) (hx : Eqs x n) (hn : n ≤ 1048576) (hm : m ≤ 1073741823) (s : Sc) (hj : j < 2) (hb : bits BinOp.and IntKind.i64 s.o 1 = (j : Int)) (hk : s.k = 7) :
    Calls Tryd.prog 8 #[pt b, .agg s.cells] w fun e w' => e = .returned (.bool true) ∧ Hid (Sx W w' b x (m + 2)) ∧ Hid (Fz w00.heap.size w.heap.size w w') := by
  obtain ⟨wb, hwb⟩ : ∃ wb, wb = w.alloc (.cells s.cells 58) := ⟨_, rfl⟩
  have hbb : Below w.heap.size w wb := by rw [hwb]; exact Below.al (Below.refl _ _) _
  obtain ⟨c, s0, z0, h, hz⟩ : ∃ c s0 z0, St W wb c b { x with s := s0, z := z0 } m ∧ Cz c w00.heap.size wb.heap.size := by
    obtain ⟨c0, s0, z0, h0⟩ := h
    obtain ⟨c, h1, _, h2⟩ := h0.later (Below.on hb00 hbb) (fun _ => 22)
    refine ⟨c, s0, z0, h1, fun k h5 h6 => ?_⟩
    haveI := Classical.propDecidable (IxB wb k)
    by_cases hx : IxB wb k
    · exact .inl (h1.ix k hx)
    · exact .inr (h2 k h5 hx)
  have HS := hid h
  have HZ := hid hz
  have HFZ : Hid (∀ w', (∀ k, w00.heap.size ≤ k → k < wb.heap.size → w'.heap[k]? = wb.heap[k]?) → Fz w00.heap.size w.heap.size w w') := fun w' h9 k h5 h6 => (h9 k h5 (Nat.lt_of_lt_of_le h6 hbb.size)).trans (hbb.block k h6)
  obtain ⟨x0, x1, x2, x3, x4, x5, x6, x7, x8⟩ := Bx.of s hwb
  obtain ⟨q, hq⟩ : ∃ q, q = w.heap.size := ⟨_, rfl⟩
  rw [← hq] at x0 x1 x2 x3 x4 x5 x6 x7 x8
  have y0 := h.cp j hj
  have y1 := h.cq j hj
  have hcj := hx.c j hj
  have hst := h.st j hj
  have hrs := h.rs j hj
  have hgd := hst.good
  simp only [hx.m, hx.k] at hst hrs hgd y0 y1
  have L1 : Hid (∀ w1, Below wb.heap.size wb w1 → Calls Tryd.prog 27 #[pt (x.p j)] w1 fun e w' => e = .returned (.int .i64 (countM (x.M j) : Nat)) ∧ Below w1.heap.size w1 w') := fun w1 hb1 => stolen_is (hst.later hb1) (by omega)
  have L2 : Hid (∀ w1, Below wb.heap.size wb w1 → Calls Tryd.prog 28 #[pt (x.r j)] w1 fun e w' => e = .returned (.int .i64 (countM (x.M j) : Nat)) ∧ w' = w1) := fun w1 hb1 => by
    have := rlen_is (hrs.later hb1)
    rw [dump_len] at this
    exact this
  generalize countM (x.M j) = cn at L1 L2
  have HF : Hid (∀ w', Below wb.heap.size wb w' → Hid (Sx W w' b x (m + 2)) ∧ Hid (Fz w00.heap.size w.heap.size w w')) := fun w' hb => by
    obtain ⟨c', h', _⟩ := h.later hb (fun _ => 22)
    exact ⟨⟨c', s0, z0, h'.mono (by omega)⟩, HFZ.out w' (fun k _ h6 => hb.block k h6)⟩
  have HWB := hid hwb
  have HQ := hid hq
  generalize x.p j = pj at y0 L1
  generalize x.r j = rj at y1 L2
  clear h hx hbb hq hwb hst hrs hgd hb00 hz
  rw [hk] at x0
  go_enter Tryd.func8, Tryd.ntmps8
  go_upto_region 1 with fail
  rw [← HWB.out, ← HQ.out]
  have hJ : (j : Int) < 2 := by omega
  go_wp2_with fail
  go_quiet (fail)
  obtain ⟨wc, hwc⟩ : ∃ wc, wc = wb.drewN nq := ⟨_, rfl⟩
  rw [← hwc]
  have hbc : Below wb.heap.size wb wc := by rw [hwc]; exact Below.drewN (Below.refl _ _) _
  replace x0 := cell_later hbc x0
  replace x1 := cell_later hbc x1
  replace x2 := cell_later hbc x2
  replace x3 := cell_later hbc x3
  replace x4 := cell_later hbc x4
  replace x5 := cell_later hbc x5
  replace x6 := cell_later hbc x6
  replace x7 := cell_later hbc x7
  replace x8 := cell_later hbc x8
  replace y0 := cell_later hbc y0
  replace y1 := cell_later hbc y1
  clear hwc
  go_wp2_with fail
  go_quiet (fail)
  obtain ⟨wr, hwr⟩ : ∃ wr, wr = wc.drewN nq := ⟨_, rfl⟩
  rw [← hwr]
  have hbd : Below wc.heap.size wc wr := by rw [hwr]; exact Below.drewN (Below.refl _ _) _
  have hbr := Below.on hbc hbd
  replace x0 := cell_later hbd x0
  replace x2 := cell_later hbd x2
  replace x3 := cell_later hbd x3
  replace x4 := cell_later hbd x4
  replace x5 := cell_later hbd x5
  replace x6 := cell_later hbd x6
  have HBR := hid hbr
  clear hwr hbc hbd hbr y0 y1 x1 x7 x8
  go_wp2_with fail
  refine (L1.out _ HBR.out).mono ?_
  rintro e w1 ⟨rfl, hb1⟩
  have HB1 : Hid (Below wb.heap.size wb w1) := Below.on HBR.out hb1
  go_wp2_with fail
  refine (L2.out _ HB1.out).mono ?_
  rintro e w2 ⟨rfl, rfl⟩
  go_wp2_with fail
  go_ret
  exact ⟨rfl, HF.out _ HB1.out⟩
end Go.Proofs.YtmlacdfdpdkdaaaDoor.Bg
/- The law's queries. -/
namespace Go.Proofs.YtmlacdfdpdkdaaaDoor.Bg
open Go.RowKit Go.Sort Go.Proofs.YtmlacdfdpdkdaaaDoor Go.Proofs.YtmlacdfdpdkdaaaDoor.Vs
set_option linter.unusedVariables false

set_option maxRecDepth 8000 in
set_option maxHeartbeats 4000000 in
theorem asks_abv {W w00 w : World} {b m n j : Nat} {x : Sv} (h : Sx W w00 b x m) (hb00 : Below w00.heap.size w00 w) (hx : Eqs x n) (hn : n ≤ 1048576) (hm : m ≤ 1073741823) (s : Sc) (hj : j < 2) (hb : bits BinOp.and IntKind.i64 s.o 1 = (j : Int)) (hk : s.k = 4) :
    Calls Tryd.prog 8 #[pt b, .agg s.cells] w fun e w' => e = .returned (.bool true) ∧ Hid (Sx W w' b x (m + 2)) ∧ Hid (Fz w00.heap.size w.heap.size w w') := by
  obtain ⟨wb, hwb⟩ : ∃ wb, wb = w.alloc (.cells s.cells 58) := ⟨_, rfl⟩
  have hbb : Below w.heap.size w wb := by rw [hwb]; exact Below.al (Below.refl _ _) _
  obtain ⟨c, s0, z0, h, hz⟩ : ∃ c s0 z0, St W wb c b { x with s := s0, z := z0 } m ∧ Cz c w00.heap.size wb.heap.size := by
    obtain ⟨c0, s0, z0, h0⟩ := h
    obtain ⟨c, h1, _, h2⟩ := h0.later (Below.on hb00 hbb) (fun _ => 22)
    refine ⟨c, s0, z0, h1, fun k h5 h6 => ?_⟩
    haveI := Classical.propDecidable (IxB wb k)
    by_cases hx : IxB wb k
    · exact .inl (h1.ix k hx)
    · exact .inr (h2 k h5 hx)
  have HS := hid h
  have HZ := hid hz
  have HFZ : Hid (∀ w', (∀ k, w00.heap.size ≤ k → k < wb.heap.size → w'.heap[k]? = wb.heap[k]?) → Fz w00.heap.size w.heap.size w w') := fun w' h9 k h5 h6 => (h9 k h5 (Nat.lt_of_lt_of_le h6 hbb.size)).trans (hbb.block k h6)
  obtain ⟨x0, x1, x2, x3, x4, x5, x6, x7, x8⟩ := Bx.of s hwb
  obtain ⟨q, hq⟩ : ∃ q, q = w.heap.size := ⟨_, rfl⟩
  rw [← hq] at x0 x1 x2 x3 x4 x5 x6 x7 x8
  have y0 := h.cp j hj
  have y1 := h.cq j hj
  have hcj := hx.c j hj
  have hst := h.st j hj
  have hrs := h.rs j hj
  have hgd := hst.good
  simp only [hx.m, hx.k] at hst hrs hgd y0 y1
  have L1 : Hid (∀ w1, Below wb.heap.size wb w1 → Calls Tryd.prog 23 #[pt (x.p j), .agg #[.string s.lo, .string s.hi], sv s.t] w1 fun e w' => e = .returned (.bool (abB (x.M j) s.lo s.hi s.t)) ∧ Below w1.heap.size w1 w') := fun w1 hb1 => above_is (hst.later hb1) _ _ _ (by omega)
  have L2 : Hid (∀ w1, Below wb.heap.size wb w1 → Calls Tryd.prog 24 #[pt (x.r j), .agg #[.string s.lo, .string s.hi], sv s.t] w1 fun e w' => e = .returned (.bool (abB (x.M j) s.lo s.hi s.t)) ∧ Below w1.heap.size w1 w') := fun w1 hb1 => by
    have := rabv_is (hrs.later hb1) (by rw [dump_len]; omega) s.lo s.hi s.t
    rw [show anL (dumpM (x.M j)) s.lo s.hi s.t = abB (x.M j) s.lo s.hi s.t from (ab_dump hgd _ _ _).symm] at this
    exact this
  generalize abB (x.M j) s.lo s.hi s.t = ab at L1 L2
  have HF : Hid (∀ w', Below wb.heap.size wb w' → Hid (Sx W w' b x (m + 2)) ∧ Hid (Fz w00.heap.size w.heap.size w w')) := fun w' hb => by
    obtain ⟨c', h', _⟩ := h.later hb (fun _ => 22)
    exact ⟨⟨c', s0, z0, h'.mono (by omega)⟩, HFZ.out w' (fun k _ h6 => hb.block k h6)⟩
  have HWB := hid hwb
  have HQ := hid hq
  generalize x.p j = pj at y0 L1
  generalize x.r j = rj at y1 L2
  clear h hx hbb hq hwb hst hrs hgd hb00 hz
  rw [hk] at x0
  go_enter Tryd.func8, Tryd.ntmps8
  go_upto_region 1 with fail
  rw [← HWB.out, ← HQ.out]
  have hJ : (j : Int) < 2 := by omega
  go_wp2_with fail
  go_quiet (fail)
  obtain ⟨wc, hwc⟩ : ∃ wc, wc = wb.drewN nq := ⟨_, rfl⟩
  rw [← hwc]
  have hbc : Below wb.heap.size wb wc := by rw [hwc]; exact Below.drewN (Below.refl _ _) _
  replace x0 := cell_later hbc x0
  replace x1 := cell_later hbc x1
  replace x2 := cell_later hbc x2
  replace x3 := cell_later hbc x3
  replace x4 := cell_later hbc x4
  replace x5 := cell_later hbc x5
  replace x6 := cell_later hbc x6
  replace x7 := cell_later hbc x7
  replace x8 := cell_later hbc x8
  replace y0 := cell_later hbc y0
  replace y1 := cell_later hbc y1
  clear hwc
  go_wp2_with fail
  go_quiet (fail)
  obtain ⟨wr, hwr⟩ : ∃ wr, wr = wc.drewN nq := ⟨_, rfl⟩
  rw [← hwr]
  have hbd : Below wc.heap.size wc wr := by rw [hwr]; exact Below.drewN (Below.refl _ _) _
  have hbr := Below.on hbc hbd
  replace x0 := cell_later hbd x0
  replace x2 := cell_later hbd x2
  replace x3 := cell_later hbd x3
  replace x4 := cell_later hbd x4
  replace x5 := cell_later hbd x5
  replace x6 := cell_later hbd x6
  have HBR := hid hbr
  clear hwr hbc hbd hbr y0 y1 x1 x7 x8
  go_wp2_with fail
  have M1 : Hid (∀ w1, Below wr.heap.size wr w1 → _) := fun w1 hb1 => L1.out w1 (Below.on HBR.out hb1)
  have M2 : Hid (∀ w1, Below wr.heap.size wr w1 → _) := fun w1 hb1 => L2.out w1 (Below.on HBR.out hb1)
  have rx2 := cell_regrown x2
  have rx3 := cell_regrown x3
  have rx4 := cell_regrown x4
  have rx5 := cell_regrown x5
  have rx6 := cell_regrown x6
  refine wp_region_quiet_below (by kernel_rfl) (by kernel_rfl) ?_
  repeat (go_big_quiet_step (first | (go_at_call 23; exact Calls.regrown_of (M1.out _ (below_of_regrown ⟨⟨_, _⟩, rfl⟩))) | (go_at_call 24; exact Calls.regrown_of (M2.out _ (below_of_regrown ⟨⟨_, _⟩, rfl⟩)))))
  refine wpQuiet_nil ?_
  intro wn hwn
  replace hwn := below_of_regrown hwn
  have HN : Hid (Below wb.heap.size wb wn) := Below.on HBR.out hwn
  go_wp2_with fail
  go_ret
  exact ⟨rfl, HF.out _ HN.out⟩
end Go.Proofs.YtmlacdfdpdkdaaaDoor.Bg
/- The law's queries. -/
namespace Go.Proofs.YtmlacdfdpdkdaaaDoor.Bg
open Go.RowKit Go.Sort Go.Proofs.YtmlacdfdpdkdaaaDoor Go.Proofs.YtmlacdfdpdkdaaaDoor.Vs
set_option linter.unusedVariables false

set_option maxRecDepth 8000 in
set_option maxHeartbeats 4000000 in
theorem asks_mark {W w00 w : World} {b m n j : Nat} {x : Sv} (h : Sx W w00 b x m) (hb00 : Below w00.heap.size w00 w) (hx : Eqs x n) (hn : n ≤ 1048576) (hm : m ≤ 1073741823) (s : Sc) (hj : j < 2) (hb : bits BinOp.and IntKind.i64 s.o 1 = (j : Int)) (hk : s.k = 6) :
    Calls Tryd.prog 8 #[pt b, .agg s.cells] w fun e w' => e = .returned (.bool true) ∧ Hid (Sx W w' b x (m + 2)) ∧ Hid (Fz w00.heap.size w.heap.size w w') := by
  obtain ⟨wb, hwb⟩ : ∃ wb, wb = w.alloc (.cells s.cells 58) := ⟨_, rfl⟩
  have hbb : Below w.heap.size w wb := by rw [hwb]; exact Below.al (Below.refl _ _) _
  obtain ⟨c, s0, z0, h, hz⟩ : ∃ c s0 z0, St W wb c b { x with s := s0, z := z0 } m ∧ Cz c w00.heap.size wb.heap.size := by
    obtain ⟨c0, s0, z0, h0⟩ := h
    obtain ⟨c, h1, _, h2⟩ := h0.later (Below.on hb00 hbb) (fun _ => 22)
    refine ⟨c, s0, z0, h1, fun k h5 h6 => ?_⟩
    haveI := Classical.propDecidable (IxB wb k)
    by_cases hx : IxB wb k
    · exact .inl (h1.ix k hx)
    · exact .inr (h2 k h5 hx)
  have HS := hid h
  have HZ := hid hz
  have HFZ : Hid (∀ w', (∀ k, w00.heap.size ≤ k → k < wb.heap.size → w'.heap[k]? = wb.heap[k]?) → Fz w00.heap.size w.heap.size w w') := fun w' h9 k h5 h6 => (h9 k h5 (Nat.lt_of_lt_of_le h6 hbb.size)).trans (hbb.block k h6)
  obtain ⟨x0, x1, x2, x3, x4, x5, x6, x7, x8⟩ := Bx.of s hwb
  obtain ⟨q, hq⟩ : ∃ q, q = w.heap.size := ⟨_, rfl⟩
  rw [← hq] at x0 x1 x2 x3 x4 x5 x6 x7 x8
  have y0 := h.cp j hj
  have y1 := h.cq j hj
  have hcj := hx.c j hj
  have hst := h.st j hj
  have hrs := h.rs j hj
  have hgd := hst.good
  simp only [hx.m, hx.k] at hst hrs hgd y0 y1
  have L1 : Hid (∀ w1, Below wb.heap.size wb w1 → Calls Tryd.prog 25 #[pt (x.p j)] w1 fun e w' => e = .returned (sv (x.kp j)) ∧ Below w1.heap.size w1 w') := fun w1 hb1 => wmark_is (hst.later hb1)
  have L2 : Hid (∀ w1, Below wb.heap.size wb w1 → Calls Tryd.prog 26 #[pt (x.r j)] w1 fun e w' => e = .returned (sv (x.kp j)) ∧ Below w1.heap.size w1 w') := fun w1 hb1 => rmark_is (hrs.later hb1)
  generalize x.kp j = km at L1 L2
  obtain ⟨ka, kb, kc⟩ := km
  have HF : Hid (∀ w', Below wb.heap.size wb w' → Hid (Sx W w' b x (m + 2)) ∧ Hid (Fz w00.heap.size w.heap.size w w')) := fun w' hb => by
    obtain ⟨c', h', _⟩ := h.later hb (fun _ => 22)
    exact ⟨⟨c', s0, z0, h'.mono (by omega)⟩, HFZ.out w' (fun k _ h6 => hb.block k h6)⟩
  have HWB := hid hwb
  have HQ := hid hq
  generalize x.p j = pj at y0 L1
  generalize x.r j = rj at y1 L2
  clear h hx hbb hq hwb hst hrs hgd hb00 hz
  rw [hk] at x0
  go_enter Tryd.func8, Tryd.ntmps8
  go_upto_region 1 with fail
  rw [← HWB.out, ← HQ.out]
  have hJ : (j : Int) < 2 := by omega
  go_wp2_with fail
  go_quiet (fail)
  obtain ⟨wc, hwc⟩ : ∃ wc, wc = wb.drewN nq := ⟨_, rfl⟩
  rw [← hwc]
  have hbc : Below wb.heap.size wb wc := by rw [hwc]; exact Below.drewN (Below.refl _ _) _
  replace x0 := cell_later hbc x0
  replace x1 := cell_later hbc x1
  replace x2 := cell_later hbc x2
  replace x3 := cell_later hbc x3
  replace x4 := cell_later hbc x4
  replace x5 := cell_later hbc x5
  replace x6 := cell_later hbc x6
  replace x7 := cell_later hbc x7
  replace x8 := cell_later hbc x8
  replace y0 := cell_later hbc y0
  replace y1 := cell_later hbc y1
  clear hwc
  go_wp2_with fail
  go_quiet (fail)
  obtain ⟨wr, hwr⟩ : ∃ wr, wr = wc.drewN nq := ⟨_, rfl⟩
  rw [← hwr]
  have hbd : Below wc.heap.size wc wr := by rw [hwr]; exact Below.drewN (Below.refl _ _) _
  have hbr := Below.on hbc hbd
  replace x0 := cell_later hbd x0
  replace x2 := cell_later hbd x2
  replace x3 := cell_later hbd x3
  replace x4 := cell_later hbd x4
  replace x5 := cell_later hbd x5
  replace x6 := cell_later hbd x6
  have HBR := hid hbr
  clear hwr hbc hbd hbr y0 y1 x1 x7 x8
  go_wp2_with fail
  refine (L1.out _ HBR.out).mono ?_
  rintro e w1 ⟨rfl, hb1⟩
  have HB1 : Hid (Below wb.heap.size wb w1) := Below.on HBR.out hb1
  go_wp2_with fail
  refine (L2.out _ HB1.out).mono ?_
  rintro e w2 ⟨rfl, hb2⟩
  go_wp2_with fail
  go_ret
  exact ⟨rfl, HF.out _ (Below.on HB1.out hb2)⟩
end Go.Proofs.YtmlacdfdpdkdaaaDoor.Bg
/- The law's queries. -/
namespace Go.Proofs.YtmlacdfdpdkdaaaDoor.Bg
open Go.RowKit Go.Sort Go.Proofs.YtmlacdfdpdkdaaaDoor Go.Proofs.YtmlacdfdpdkdaaaDoor.Vs
set_option linter.unusedVariables false

set_option maxRecDepth 8000 in
set_option maxHeartbeats 4000000 in
theorem asks_none {W w00 w : World} {b m n j : Nat} {x : Sv} (h : Sx W w00 b x m) (hb00 : Below w00.heap.size w00 w) (hx : Eqs x n) (hn : n ≤ 1048576) (hm : m ≤ 1073741823) (s : Sc) (hj : j < 2) (hb : bits BinOp.and IntKind.i64 s.o 1 = (j : Int)) (h3 : s.k ≠ 3) (h4 : s.k ≠ 4) (h6 : s.k ≠ 6) (h7 : s.k ≠ 7) (h8 : s.k ≠ 8) :
    Calls Tryd.prog 8 #[pt b, .agg s.cells] w fun e w' => e = .returned (.bool true) ∧ Hid (Sx W w' b x (m + 2)) ∧ Hid (Fz w00.heap.size w.heap.size w w') := by
  obtain ⟨wb, hwb⟩ : ∃ wb, wb = w.alloc (.cells s.cells 58) := ⟨_, rfl⟩
  have hbb : Below w.heap.size w wb := by rw [hwb]; exact Below.al (Below.refl _ _) _
  obtain ⟨c, s0, z0, h, hz⟩ : ∃ c s0 z0, St W wb c b { x with s := s0, z := z0 } m ∧ Cz c w00.heap.size wb.heap.size := by
    obtain ⟨c0, s0, z0, h0⟩ := h
    obtain ⟨c, h1, _, h2⟩ := h0.later (Below.on hb00 hbb) (fun _ => 22)
    refine ⟨c, s0, z0, h1, fun k h5 h6 => ?_⟩
    haveI := Classical.propDecidable (IxB wb k)
    by_cases hx : IxB wb k
    · exact .inl (h1.ix k hx)
    · exact .inr (h2 k h5 hx)
  have HS := hid h
  have HZ := hid hz
  have HFZ : Hid (∀ w', (∀ k, w00.heap.size ≤ k → k < wb.heap.size → w'.heap[k]? = wb.heap[k]?) → Fz w00.heap.size w.heap.size w w') := fun w' h9 k h5 h6 => (h9 k h5 (Nat.lt_of_lt_of_le h6 hbb.size)).trans (hbb.block k h6)
  obtain ⟨x0, x1, x2, x3, x4, x5, x6, x7, x8⟩ := Bx.of s hwb
  obtain ⟨q, hq⟩ : ∃ q, q = w.heap.size := ⟨_, rfl⟩
  rw [← hq] at x0 x1 x2 x3 x4 x5 x6 x7 x8
  have y0 := h.cp j hj
  have y1 := h.cq j hj
  have hcj := hx.c j hj
  have hst := h.st j hj
  have hrs := h.rs j hj
  have hgd := hst.good
  simp only [hx.m, hx.k] at hst hrs hgd y0 y1
  have HF : Hid (∀ w', Below wb.heap.size wb w' → Hid (Sx W w' b x (m + 2)) ∧ Hid (Fz w00.heap.size w.heap.size w w')) := fun w' hb => by
    obtain ⟨c', h', _⟩ := h.later hb (fun _ => 22)
    exact ⟨⟨c', s0, z0, h'.mono (by omega)⟩, HFZ.out w' (fun k _ h6 => hb.block k h6)⟩
  have HWB := hid hwb
  have HQ := hid hq
  generalize x.p j = pj at y0 
  generalize x.r j = rj at y1 
  clear h hx hbb hq hwb hst hrs hgd hb00 hz
  go_enter Tryd.func8, Tryd.ntmps8
  go_upto_region 1 with fail
  rw [← HWB.out, ← HQ.out]
  have hJ : (j : Int) < 2 := by omega
  go_wp2_with fail
  go_quiet (fail)
  obtain ⟨wc, hwc⟩ : ∃ wc, wc = wb.drewN nq := ⟨_, rfl⟩
  rw [← hwc]
  have hbc : Below wb.heap.size wb wc := by rw [hwc]; exact Below.drewN (Below.refl _ _) _
  replace x0 := cell_later hbc x0
  replace x1 := cell_later hbc x1
  replace x2 := cell_later hbc x2
  replace x3 := cell_later hbc x3
  replace x4 := cell_later hbc x4
  replace x5 := cell_later hbc x5
  replace x6 := cell_later hbc x6
  replace x7 := cell_later hbc x7
  replace x8 := cell_later hbc x8
  replace y0 := cell_later hbc y0
  replace y1 := cell_later hbc y1
  clear hwc
  go_wp2_with fail
  go_quiet (fail)
  obtain ⟨wr, hwr⟩ : ∃ wr, wr = wc.drewN nq := ⟨_, rfl⟩
  rw [← hwr]
  have hbd : Below wc.heap.size wc wr := by rw [hwr]; exact Below.drewN (Below.refl _ _) _
  have hbr := Below.on hbc hbd
  replace x0 := cell_later hbd x0
  replace x2 := cell_later hbd x2
  replace x3 := cell_later hbd x3
  replace x4 := cell_later hbd x4
  replace x5 := cell_later hbd x5
  replace x6 := cell_later hbd x6
  have HBR := hid hbr
  clear hwr hbc hbd hbr y0 y1 x1 x7 x8
  go_wp2_with fail
  go_ret
  exact ⟨rfl, HF.out _ HBR.out⟩
end Go.Proofs.YtmlacdfdpdkdaaaDoor.Bg
