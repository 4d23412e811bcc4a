import Derived.Test.YtneojeidpfjpbaaGreatDoorB03
set_option linter.unusedVariables false
set_option maxHeartbeats 2000000
namespace Go.Proofs.YtneojeidpfjpbaaGreatDoor.Lk
open Go.RowKit Go.Sort
def Fr2 (B : Nat) (w : World) (a : Option Addr) (c : Nat) (xs : List T2) : Prop := w.ownsRow B 25 2 (.slice a xs.length c) xs.length (flat2 xs)
def FrW (B : Nat) (w : World) (a : Option Addr) (c : Nat) (xs : List Wr) : Prop := w.ownsRow B 103 3 (.slice a xs.length c) xs.length (flatW xs)
theorem Fr2.row {B : Nat} {w : World} {a : Option Addr} {c : Nat} {xs : List T2} (h : Fr2 B w a c xs) : Row2 w a xs := fun i hi => by
 obtain ⟨g, rfl, _, hc⟩ := own_cells h (by omega); refine ⟨g, 0, rfl, ?_, ?_⟩
 ·rw [Nat.zero_add]; exact hc _ _ (by rw [show i * 2 = i * 2 + 0 by omega, flat2_get xs i 0 hi (by omega)]; rfl)
 ·rw [Nat.zero_add]; exact hc _ _ (by rw [flat2_get xs i 1 hi (by omega)]; rfl)
theorem FrW.row {B : Nat} {w : World} {a : Option Addr} {c : Nat} {xs : List Wr} (h : FrW B w a c xs) : RowW w a xs := fun i hi => by
 obtain ⟨g, rfl, _, hc⟩ := own_cells h (by omega); refine ⟨g, 0, rfl, ?_, ?_, ?_⟩
 ·rw [Nat.zero_add]; exact hc _ _ (by rw [show i * 3 = i * 3 + 0 by omega, flatW_get xs i 0 hi (by omega)]; rfl)
 ·rw [Nat.zero_add]; exact hc _ _ (by rw [flatW_get xs i 1 hi (by omega)]; rfl)
 ·rw [Nat.zero_add]; exact hc _ _ (by rw [flatW_get xs i 2 hi (by omega)]; rfl)
theorem row2_flat {w : World} {a : Addr} {xs : List T2} (h : Row2 w (some a) xs) : ∀ j u, (flat2 xs)[j]? = some u → w.cell? (a.add j) = some u := fun j u hj => by
 have hjl : j < xs.length * 2 := by have := (List.getElem?_eq_some_iff.1 hj).1; rwa [flat2_len] at this
 obtain ⟨b, off, e, h0, h1⟩ := h (j / 2) (by omega); injection e with e
 subst e; rw [Addr.add_lit]; have h2 := flat2_get xs (j / 2) (j % 2) (by omega) (by omega); rw [show j / 2 * 2 + j % 2 = j by omega, hj] at h2; rcases (show j % 2 = 0 ∨ j % 2 = 1 by omega) with e | e <;> rw [e] at h2 <;> simp [encS] at h2 <;> subst h2
 ·rw [show off + j = off + j / 2 * 2 by omega]; exact h0
 ·rw [show off + j = off + j / 2 * 2 + 1 by omega]; exact h1
theorem rowW_flat {w : World} {a : Addr} {xs : List Wr} (h : RowW w (some a) xs) : ∀ j u, (flatW xs)[j]? = some u → w.cell? (a.add j) = some u := fun j u hj => by
 have hjl : j < xs.length * 3 := by have := (List.getElem?_eq_some_iff.1 hj).1; rwa [flatW_len] at this
 obtain ⟨b, off, e, h0, h1, h2⟩ := h (j / 3) (by omega); injection e with e
 subst e; rw [Addr.add_lit]; have h3 := flatW_get xs (j / 3) (j % 3) (by omega) (by omega); rw [show j / 3 * 3 + j % 3 = j by omega, hj] at h3; rcases (show j % 3 = 0 ∨ j % 3 = 1 ∨ j % 3 = 2 by omega) with e | e | e <;> rw [e] at h3 <;> simp [encW] at h3 <;> subst h3
 ·rw [show off + j = off + j / 3 * 3 by omega]; exact h0
 ·rw [show off + j = off + j / 3 * 3 + 1 by omega]; exact h1
 ·rw [show off + j = off + j / 3 * 3 + 2 by omega]; exact h2
theorem cloneS_is {w : World} {a : Option Addr} {c : Nat} {xs : List T2} (h : Row2 w a xs) (hl : xs.length + 1 ≤ 4398046511104) :
  Calls Tryz.prog 111 #[.slice a xs.length c] w fun e w' => ∃ a' c', e = .returned (.slice a' xs.length c') ∧ Fr2 w.heap.size w' a' c' xs ∧ Below w.heap.size w w' := by
 have q22 : ∀ (w : World) (a : Option Addr) (n c n' c' : Nat), (binOp .eql 40 (.slice a n c) (.slice none n' c')).run Tryz.prog w = .ok (.bool a.isNone) w := fun w a n c n' c' => Lib.run_eql_slice_nil w _ _ a n c n' c' Tryz.underlying40
 cases a with
 | none =>
  have h0 : xs.length = 0 := by
   by_cases h0 : xs.length = 0
   ·exact h0
   ·obtain ⟨b, off, e, _⟩ := h 0 (by omega); cases e
  go_enter Tryz.func111, Tryz.ntmps111
  go_wp2_with fail
  go_ret
  refine ⟨none, 0, by rw [h0]; rfl, ⟨flat2_len xs, .inl ⟨by rw [h0], h0⟩⟩, Below.refl _ _⟩
 | some ad =>
  obtain ⟨i0, hi, hz0, hz1, hz2⟩ := info_of infoSp; have A := hid (row2_flat h); have hL := flat2_len xs; obtain ⟨n, hn⟩ : ∃ n, n = xs.length := ⟨_, rfl⟩; rw [← hn] at hL hl ⊢; have HN := hid hn; have HL := hid hL; have HO := hid (flat2_one xs); have HS := hid hl; clear h hl hL hn; go_enter Tryz.func111, Tryz.ntmps111
  go_wp2_with (at_builtin; refine wpList_append_own _ rfl _ _ 40 rfl w.heap.size 25 i0 (.agg #[.string ⟨#[]⟩, .string ⟨#[]⟩]) 2 32 Tryz.underlying40 hi hz0 hz1 hz2 rfl (by decide) _ _ _ rfl (World.ownsRow_made w #[] 0 (Nat.le_refl _) (Nat.zero_le _) (by simp)) ad n c (flat2 xs) rfl ?qc1 ?qc2 ?qc3 ?qc4 ?qc5 ?qc6 ?_)
  case qc1 => exact HL.out
  case qc2 =>
   intro j u hj; exact Lib.cell?_alloc_some _ (A.out j u hj)
  case qc3 => exact HO.out
  case qc4 => rw [Nat.zero_add]; have := HS.out; unfold maxLen; omega
  case qc5 => rw [Nat.zero_add]; have := HS.out; omega
  case qc6 => simp
  intro v' w1 hown hgrow hnil; have hown' : w1.ownsRow w.heap.size 25 2 v' n (flat2 xs) := by simpa using hown
  obtain ⟨a', c', rfl⟩ := owns_slice hown'; go_wp2_with fail
  go_ret
  exact ⟨a', c', rfl, by rw [Fr2, ← HN.out]; exact hown', ((Below.refl _ w).alloc (Nat.le_refl _) _).grown hgrow (by simp) (by intro k hk; simp [Value.ownBlock] at hk; omega)⟩
theorem cloneW_is {w : World} {a : Option Addr} {c : Nat} {xs : List Wr} (h : RowW w a xs) (hl : xs.length + 1 ≤ 3518437208883) :
  Calls Tryz.prog 112 #[.slice a xs.length c] w fun e w' => ∃ a' c', e = .returned (.slice a' xs.length c') ∧ FrW w.heap.size w' a' c' xs ∧ Below w.heap.size w w' := by
 have q22 : ∀ (w : World) (a : Option Addr) (n c n' c' : Nat), (binOp .eql 41 (.slice a n c) (.slice none n' c')).run Tryz.prog w = .ok (.bool a.isNone) w := fun w a n c n' c' => Lib.run_eql_slice_nil w _ _ a n c n' c' Tryz.underlying41
 cases a with
 | none =>
  have h0 : xs.length = 0 := by
   by_cases h0 : xs.length = 0
   ·exact h0
   ·obtain ⟨b, off, e, _⟩ := h 0 (by omega); cases e
  go_enter Tryz.func112, Tryz.ntmps112
  go_wp2_with fail
  go_ret
  refine ⟨none, 0, by rw [h0]; rfl, ⟨flatW_len xs, .inl ⟨by rw [h0], h0⟩⟩, Below.refl _ _⟩
 | some ad =>
  obtain ⟨i0, hi, hz0, hz1, hz2⟩ := info_of infoWr; have A := hid (rowW_flat h); have hL := flatW_len xs; obtain ⟨n, hn⟩ : ∃ n, n = xs.length := ⟨_, rfl⟩; rw [← hn] at hL hl ⊢; have HN := hid hn; have HL := hid hL; have HO := hid (flatW_one xs); have HS := hid hl; clear h hl hL hn; go_enter Tryz.func112, Tryz.ntmps112
  go_wp2_with (at_builtin; refine wpList_append_own _ rfl _ _ 41 rfl w.heap.size 103 i0 (.agg #[.string ⟨#[]⟩, .bool false, .string ⟨#[]⟩]) 3 40 Tryz.underlying41 hi hz0 hz1 hz2 rfl (by decide) _ _ _ rfl (World.ownsRow_made w #[] 0 (Nat.le_refl _) (Nat.zero_le _) (by simp)) ad n c (flatW xs) rfl ?qc1 ?qc2 ?qc3 ?qc4 ?qc5 ?qc6 ?_)
  case qc1 => exact HL.out
  case qc2 =>
   intro j u hj; exact Lib.cell?_alloc_some _ (A.out j u hj)
  case qc3 => exact HO.out
  case qc4 => rw [Nat.zero_add]; have := HS.out; unfold maxLen; omega
  case qc5 => rw [Nat.zero_add]; have := HS.out; omega
  case qc6 => simp
  intro v' w1 hown hgrow hnil; have hown' : w1.ownsRow w.heap.size 103 3 v' n (flatW xs) := by simpa using hown
  obtain ⟨a', c', rfl⟩ := owns_slice hown'; go_wp2_with fail
  go_ret
  exact ⟨a', c', rfl, by rw [FrW, ← HN.out]; exact hown', ((Below.refl _ w).alloc (Nat.le_refl _) _).grown hgrow (by simp) (by intro k hk; simp [Value.ownBlock] at hk; omega)⟩
structure Hv.fresh (B : Nat) (W : World) (v : Hv) : Prop where
 r : Fr2 B W v.ra v.rc v.h.rs
 w : FrW B W v.wa v.wc v.h.ws
theorem Hv.fresh.ok {B : Nat} {W : World} {v : Hv} (h : v.fresh B W) (rl : v.h.rs.length + 1 ≤ 4398046511104) (wl : v.h.ws.length + 1 ≤ 3518437208883) : v.ok W := ⟨h.r.row, h.w.row, rl, wl⟩
theorem Hv.fresh.later {B : Nat} {w w' : World} {v : Hv} (h : v.fresh B w) (hb : Below w.heap.size w w') : v.fresh B w' :=
 ⟨owns_keep h.r fun g hg => hb.block g (h.r.lt g hg).2, owns_keep h.w fun g hg => hb.block g (h.w.lt g hg).2⟩
theorem owns_base {w : World} {B B' size n : Nat} {e : TypeId} {v : Value} {xs : List Value} (h : w.ownsRow B e size v n xs) (hb : B' ≤ B) : w.ownsRow B' e size v n xs := by
 obtain ⟨h1, h2 | ⟨g, cap, cur, e1, hB, hh⟩⟩ := h
 ·exact ⟨h1, .inl h2⟩
 ·exact ⟨h1, .inr ⟨g, cap, cur, e1, Nat.le_trans hb hB, hh⟩⟩
theorem Fr2.later {B : Nat} {w w' : World} {a : Option Addr} {c : Nat} {xs : List T2} (h : Fr2 B w a c xs) (hb : Below w.heap.size w w') : Fr2 B w' a c xs := owns_keep h fun g hg => hb.block g (h.lt g hg).2
theorem own_end {w wx W W' : World} {k0 k1 k2 k3 k4 k5 x6 x7 : Value} {T : TypeId} {B1 B2 c1 c2 : Nat} {a1 a2 : Option Addr} {rs : List T2} {ws : List Wr}
  (hbx : Below w.heap.size w wx) (hb : Below wx.heap.size wx W) (hsz : w.heap.size + 1 < wx.heap.size) (hblk : wx.heap[w.heap.size]? = some (.cells #[k0, k1, k2, k3, k4, k5, x6, x7] T))
  (f1 : Fr2 B1 W a1 c1 rs) (f2 : FrW B2 W a2 c2 ws) (h1 : wx.heap.size ≤ B1) (h2 : wx.heap.size ≤ B2)
  (hW : W' = (W.setCell ⟨w.heap.size, 6, none⟩ (.slice a1 rs.length c1)).setCell ⟨w.heap.size, 7, none⟩ (.slice a2 ws.length c2) ∨ W' = (W.setCell ⟨w.heap.size, 7, none⟩ (.slice a2 ws.length c2)).setCell ⟨w.heap.size, 6, none⟩ (.slice a1 rs.length c1)) :
  Hid (Fr2 w.heap.size W' a1 c1 rs) ∧ Hid (FrW w.heap.size W' a2 c2 ws) ∧ Hid (W'.heap[w.heap.size]? = some (.cells #[k0, k1, k2, k3, k4, k5, .slice a1 rs.length c1, .slice a2 ws.length c2] T)) ∧ Hid (W'.heap[w.heap.size + 1]? = wx.heap[w.heap.size + 1]?) ∧ Hid (Below w.heap.size w W') := by
 have hoth : ∀ k, k ≠ w.heap.size → W'.heap[k]? = W.heap[k]? := fun k hk => by
  rcases hW with rfl | rfl <;> rw [Below.heap_setCell _ _ _ _ (by exact hk), Below.heap_setCell _ _ _ _ (by exact hk)]
 have hbW := Below.on hbx hb; have hblkW : W.heap[w.heap.size]? = some (.cells #[k0, k1, k2, k3, k4, k5, x6, x7] T) := (hb.block _ (by omega)).trans hblk; refine ⟨owns_base (owns_keep f1 fun g hg => hoth g (by have := (f1.lt g hg).1; omega)) (by omega), owns_base (owns_keep f2 fun g hg => hoth g (by have := (f2.lt g hg).1; omega)) (by omega), ?_, ?_, ?_⟩
 ·show _ = _
  rcases hW with rfl | rfl
  ·exact heap_setCell_same _ _ _ _ _ _ (heap_setCell_same _ _ _ _ _ _ hblkW)
  ·exact heap_setCell_same _ _ _ _ _ _ (heap_setCell_same _ _ _ _ _ _ hblkW)
 ·exact (hoth _ (by omega)).trans (hb.block _ hsz)
 ·rcases hW with rfl | rfl
  ·exact Below.setCell (Below.setCell hbW (Nat.le_refl _) _) (Nat.le_refl _) _
  ·exact Below.setCell (Below.setCell hbW (Nat.le_refl _) _) (Nat.le_refl _) _
theorem own_is {w : World} {v : Hv} (h : v.ok w) :
  Calls Tryz.prog 76 #[v.val] w fun e w' => ∃ v' : Hv, e = .returned v'.val ∧ v'.h = v.h ∧ v'.fresh w.heap.size w' ∧ Below w.heap.size w w' := by
 obtain ⟨⟨⟨vc, vs⟩, home, vw, vl, vn, rs, ws⟩, ra, rc, wa, wk⟩ := v; obtain ⟨hr, hw, hrl, hwl⟩ := h; simp only at hr hw hrl hwl; have HR := hid hr; have HW := hid hw; have HRL := hid hrl; have HWL := hid hwl; clear hr hw hrl hwl; go_enter Tryz.func76, Tryz.ntmps76
 go_wp2_with fail
 obtain ⟨wx, hwx⟩ : ∃ wx, wx = (w.alloc (.cells #[.int .u32 vc, .int .u32 vs, .int .u32 home, .int .u64 vw, .int .u32 vl, .int .u32 vn, .slice ra rs.length rc, .slice wa ws.length wk] 52)).alloc (.cells #[.int .u32 0, .int .u32 0, .int .u32 0, .int .u64 0, .int .u32 0, .int .u32 0, .slice none 0 0, .slice none 0 0] 52) := ⟨_, rfl⟩; have hbx : Below w.heap.size w wx := by rw [hwx]; exact Below.al (Below.al (Below.refl _ _) _) _
 have CS : Hid (∀ W, Below w.heap.size w W → Calls Tryz.prog 111 #[.slice ra rs.length rc] W fun e w' => ∃ a' c', e = .returned (.slice a' rs.length c') ∧ Fr2 W.heap.size w' a' c' rs ∧ Below W.heap.size W w') := fun W hb => cloneS_is (HR.out.later hb) HRL.out
 have CW : Hid (∀ W, Below w.heap.size w W → Calls Tryz.prog 112 #[.slice wa ws.length wk] W fun e w' => ∃ a' c', e = .returned (.slice a' ws.length c') ∧ FrW W.heap.size w' a' c' ws ∧ Below W.heap.size W w') := fun W hb => cloneW_is (HW.out.later hb) HWL.out
 have f3 : ∀ o, wx.frozen? ⟨w.heap.size, o, none⟩ = false := fun o => by rw [hwx]; simp [go_sem]
 have x6 : wx.cell? ⟨w.heap.size, 6, none⟩ = some (.slice ra rs.length rc) := by rw [hwx]; simp [go_sem]
 have x7 : wx.cell? ⟨w.heap.size, 7, none⟩ = some (.slice wa ws.length wk) := by rw [hwx]; simp [go_sem]
 have hsz : w.heap.size + 1 < wx.heap.size := by rw [hwx]; simp
 have hlt : w.heap.size < wx.heap.size := by omega
 have hblk : wx.heap[w.heap.size]? = some (.cells #[.int .u32 vc, .int .u32 vs, .int .u32 home, .int .u64 vw, .int .u32 vl, .int .u32 vn, .slice ra rs.length rc, .slice wa ws.length wk] 52) := by
  rw [hwx, (MapKept.heap_alloc _ _).2 _ (by simp)]; exact (MapKept.heap_alloc _ _).1
 have HBK : Hid (wx.heap[w.heap.size + 1]? = some (.cells #[.int .u32 0, .int .u32 0, .int .u32 0, .int .u64 0, .int .u32 0, .int .u32 0, .slice none 0 0, .slice none 0 0] 52)) := by
  show _ = _
  rw [hwx, show w.heap.size + 1 = (w.alloc (.cells #[.int .u32 vc, .int .u32 vs, .int .u32 home, .int .u64 vw, .int .u32 vl, .int .u32 vn, .slice ra rs.length rc, .slice wa ws.length wk] 52)).heap.size by simp]; exact (MapKept.heap_alloc _ _).1
 rw [← hwx]; clear hwx; go_cut [] (fun wz => ∃ a1 c1 a2 c2, Hid (Fr2 w.heap.size wz a1 c1 rs) ∧ Hid (FrW w.heap.size wz a2 c2 ws) ∧ Hid (wz.heap[w.heap.size]? = some (.cells #[.int .u32 vc, .int .u32 vs, .int .u32 home, .int .u64 vw, .int .u32 vl, .int .u32 vn, .slice a1 rs.length c1, .slice a2 ws.length c2] 52)) ∧ Hid (wz.heap[w.heap.size + 1]? = wx.heap[w.heap.size + 1]?) ∧ Hid (Below w.heap.size w wz))
 case first =>
  go_region_with (first
   | (go_at_call 111; refine (CS.out _ (by (repeat (first | exact Below.refl _ _ | assumption | refine Below.drew ?_ | refine Below.al ?_ _ | refine Below.setCell ?_ (by first | exact Nat.le_refl _ | (simp; omega) | (simp; done)) _ | refine Below.on ?_ (by assumption))))).mono ?_; rintro e w1 ⟨a1, c1, rfl, hf1, hb1⟩; have hs1 : w.heap.size < w1.heap.size := Nat.lt_of_lt_of_le (by first | exact hlt | assumption) hb1.size; have y6 := (bcell hb1).1 w.heap.size 6 (by first | exact hlt | assumption); have y7 := (bcell hb1).1 w.heap.size 7 (by first | exact hlt | assumption); have z6 := (bcell hb1).2 w.heap.size 6 (by first | exact hlt | assumption); have z7 := (bcell hb1).2 w.heap.size 7 (by first | exact hlt | assumption))
   | (go_at_call 112; refine (CW.out _ (by (repeat (first | exact Below.refl _ _ | assumption | refine Below.drew ?_ | refine Below.al ?_ _ | refine Below.setCell ?_ (by first | exact Nat.le_refl _ | (simp; omega) | (simp; done)) _ | refine Below.on ?_ (by assumption))))).mono ?_; rintro e w2 ⟨a2, c2, rfl, hf2, hb2⟩; have hs2 : w.heap.size < w2.heap.size := Nat.lt_of_lt_of_le (by first | exact hlt | assumption) hb2.size; have y6 := (bcell hb2).1 w.heap.size 6 (by first | exact hlt | assumption); have y7 := (bcell hb2).1 w.heap.size 7 (by first | exact hlt | assumption); have z6 := (bcell hb2).2 w.heap.size 6 (by first | exact hlt | assumption); have z7 := (bcell hb2).2 w.heap.size 7 (by first | exact hlt | assumption)))
  all_goals (try go_wp2_with fail)
  all_goals go_meet
  all_goals refine ⟨a1, c1, a2, c2, ?_⟩
  all_goals first
   | exact own_end hbx (Below.on (Below.on (Below.drew (Below.refl _ wx)) hb1) hb2) hsz hblk (hf1.later hb2) hf2 (Nat.le_refl _) hb1.size (by first | exact .inl rfl | exact .inr rfl)
   | exact own_end hbx (Below.on (Below.on (Below.drew (Below.refl _ wx)) hb2) hb1) hsz hblk hf1 (hf2.later hb1) hb2.size (Nat.le_refl _) (by first | exact .inl rfl | exact .inr rfl)
 case rest =>
  obtain ⟨a1, c1, a2, c2, F1, F2, HK, HZ, HB⟩ := hcut; have k0 : wc.cell? ⟨w.heap.size, 0, none⟩ = some (.int .u32 vc) := cell_of_obj HK.out rfl; have k1 : wc.cell? ⟨w.heap.size, 1, none⟩ = some (.int .u32 vs) := cell_of_obj HK.out rfl; have k2 : wc.cell? ⟨w.heap.size, 2, none⟩ = some (.int .u32 home) := cell_of_obj HK.out rfl; have k3 : wc.cell? ⟨w.heap.size, 3, none⟩ = some (.int .u64 vw) := cell_of_obj HK.out rfl; have k4 : wc.cell? ⟨w.heap.size, 4, none⟩ = some (.int .u32 vl) := cell_of_obj HK.out rfl; have k5 : wc.cell? ⟨w.heap.size, 5, none⟩ = some (.int .u32 vn) := cell_of_obj HK.out rfl; have k6 : wc.cell? ⟨w.heap.size, 6, none⟩ = some (.slice a1 rs.length c1) := cell_of_obj HK.out rfl; have k7 : wc.cell? ⟨w.heap.size, 7, none⟩ = some (.slice a2 ws.length c2) := cell_of_obj HK.out rfl
  have hz : wc.heap[w.heap.size + 1]? = some (.cells #[.int .u32 0, .int .u32 0, .int .u32 0, .int .u64 0, .int .u32 0, .int .u32 0, .slice none 0 0, .slice none 0 0] 52) := HZ.out.trans HBK.out; have r0 : wc.cell? ⟨w.heap.size + 1, 0, none⟩ = some (.int .u32 0) := cell_of_obj hz rfl; have r1 : wc.cell? ⟨w.heap.size + 1, 1, none⟩ = some (.int .u32 0) := cell_of_obj hz rfl; have r2 : wc.cell? ⟨w.heap.size + 1, 2, none⟩ = some (.int .u32 0) := cell_of_obj hz rfl; have r3 : wc.cell? ⟨w.heap.size + 1, 3, none⟩ = some (.int .u64 0) := cell_of_obj hz rfl; have r4 : wc.cell? ⟨w.heap.size + 1, 4, none⟩ = some (.int .u32 0) := cell_of_obj hz rfl; have r5 : wc.cell? ⟨w.heap.size + 1, 5, none⟩ = some (.int .u32 0) := cell_of_obj hz rfl; have r6 : wc.cell? ⟨w.heap.size + 1, 6, none⟩ = some (.slice none 0 0) := cell_of_obj hz rfl
  have r7 : wc.cell? ⟨w.heap.size + 1, 7, none⟩ = some (.slice none 0 0) := cell_of_obj hz rfl; have f4 : ∀ o, wc.frozen? ⟨w.heap.size + 1, o, none⟩ = false := fun o => by simp [World.frozen?, hz]
  have HH := hid hz; clear hz HK HZ; go_wp2_with fail
  obtain ⟨w8, hw8⟩ : ∃ w8, w8 = ((((((((wc.setCell ⟨w.heap.size + 1, 0, none⟩ (.int .u32 vc)).setCell ⟨w.heap.size + 1, 1, none⟩ (.int .u32 vs)).setCell ⟨w.heap.size + 1, 2, none⟩ (.int .u32 home)).setCell ⟨w.heap.size + 1, 3, none⟩ (.int .u64 vw)).setCell ⟨w.heap.size + 1, 4, none⟩ (.int .u32 vl)).setCell ⟨w.heap.size + 1, 5, none⟩ (.int .u32 vn)).setCell ⟨w.heap.size + 1, 6, none⟩ (.slice a1 rs.length c1)).setCell ⟨w.heap.size + 1, 7, none⟩ (.slice a2 ws.length c2)) := ⟨_, rfl⟩; have hoth : ∀ k, k ≠ w.heap.size + 1 → w8.heap[k]? = wc.heap[k]? := fun k hk => by
   rw [hw8]; repeat rw [Below.heap_setCell _ _ _ _ (by exact hk)]
  have hb8 : Below w.heap.size w w8 := by
   rw [hw8]; repeat refine Below.setCell ?_ (by exact Nat.le_succ _) _
   exact HB.out
  have hblk8 : w8.heap[w.heap.size + 1]? = some (.cells #[.int .u32 vc, .int .u32 vs, .int .u32 home, .int .u64 vw, .int .u32 vl, .int .u32 vn, .slice a1 rs.length c1, .slice a2 ws.length c2] 52) := by
   rw [hw8]; exact heap_setCell_same _ _ _ _ _ _ (heap_setCell_same _ _ _ _ _ _ (heap_setCell_same _ _ _ _ _ _ (heap_setCell_same _ _ _ _ _ _ (heap_setCell_same _ _ _ _ _ _ (heap_setCell_same _ _ _ _ _ _ (heap_setCell_same _ _ _ _ _ _ (heap_setCell_same _ _ _ _ _ _ HH.out)))))))
  have n1 : ∀ g, (Value.slice a1 rs.length c1).ownBlock = some g → g ≠ w.heap.size + 1 := fun g hg e => by
   obtain ⟨_, ⟨e1, _⟩ | ⟨g', cap, cur, e1, _, hh, _⟩⟩ := F1.out
   ·injection e1 with e1; subst e1; simp [Value.ownBlock] at hg
   ·injection e1 with e1; subst e1
    simp [Value.ownBlock] at hg; subst hg; rw [e, HH.out] at hh; injection hh with hh
    injection hh with _ hh
    revert hh; decide
  have n2 : ∀ g, (Value.slice a2 ws.length c2).ownBlock = some g → g ≠ w.heap.size + 1 := fun g hg e => by
   obtain ⟨_, ⟨e1, _⟩ | ⟨g', cap, cur, e1, _, hh, _⟩⟩ := F2.out
   ·injection e1 with e1; subst e1; simp [Value.ownBlock] at hg
   ·injection e1 with e1; subst e1
    simp [Value.ownBlock] at hg; subst hg; rw [e, HH.out] at hh; injection hh with hh
    injection hh with _ hh
    revert hh; decide
  rw [← hw8]; have t0 : w8.cell? ⟨w.heap.size + 1, 0, none⟩ = some (.int .u32 vc) := cell_of_obj hblk8 rfl; have t1 : w8.cell? ⟨w.heap.size + 1, 1, none⟩ = some (.int .u32 vs) := cell_of_obj hblk8 rfl; have t2 : w8.cell? ⟨w.heap.size + 1, 2, none⟩ = some (.int .u32 home) := cell_of_obj hblk8 rfl; have t3 : w8.cell? ⟨w.heap.size + 1, 3, none⟩ = some (.int .u64 vw) := cell_of_obj hblk8 rfl; have t4 : w8.cell? ⟨w.heap.size + 1, 4, none⟩ = some (.int .u32 vl) := cell_of_obj hblk8 rfl; have t5 : w8.cell? ⟨w.heap.size + 1, 5, none⟩ = some (.int .u32 vn) := cell_of_obj hblk8 rfl; have t6 : w8.cell? ⟨w.heap.size + 1, 6, none⟩ = some (.slice a1 rs.length c1) := cell_of_obj hblk8 rfl; have t7 : w8.cell? ⟨w.heap.size + 1, 7, none⟩ = some (.slice a2 ws.length c2) := cell_of_obj hblk8 rfl; clear hw8 hblk8
  refine bodyPost_ret (v := .agg #[.int .u32 vc, .int .u32 vs, .int .u32 home, .int .u64 vw, .int .u32 vl, .int .u32 vn, .slice a1 rs.length c1, .slice a2 ws.length c2]) (by simp [results, Tryz.results76, go_sem, t0, t1, t2, t3, t4, t5, t6, t7]) rfl ⟨⟨⟨⟨vc, vs⟩, home, vw, vl, vn, rs, ws⟩, a1, c1, a2, c2⟩, rfl, rfl, ⟨?_, ?_⟩, hb8⟩
  ·exact owns_keep F1.out fun g hg => hoth g (n1 g hg)
  ·exact owns_keep F2.out fun g hg => hoth g (n2 g hg)
end Go.Proofs.YtneojeidpfjpbaaGreatDoor.Lk
