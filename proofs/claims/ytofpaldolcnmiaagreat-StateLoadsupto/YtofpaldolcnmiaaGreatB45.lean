import Derived.Test.YtofpaldolcnmiaaGreatB44
set_option linter.unusedVariables false
set_option maxHeartbeats 4000000
namespace Go.Proofs.YtofpaldolcnmiaaGreat
namespace Lk
open Go.RowKit Go.Sort
theorem own_apartC {w : World} {b1 b2 n1 n2 s1 s2 : Nat} {e1 e2 : TypeId} {v1 v2 : Value} {xs ys : List Value} (h1 : w.ownsRow b1 e1 s1 v1 n1 xs) (h2 : w.ownsRow b2 e2 s2 v2 n2 ys) (hne : e1 ≠ e2) : v1.ownBlock = none ∨ v1.ownBlock ≠ v2.ownBlock := by
 obtain ⟨_, ⟨rfl, _⟩ | ⟨g, cap, cur, rfl, _, hg, _⟩⟩ := h1
 ·exact .inl rfl
 ·right
  obtain ⟨_, ⟨rfl, _⟩ | ⟨g', cap', cur', rfl, _, hg', _⟩⟩ := h2
  ·simp [Value.ownBlock]
  ·simp only [Value.ownBlock]; intro e; injection e with e
   subst e; rw [hg] at hg'; injection hg' with hg'
   injection hg' with _ e _
   exact hne e
theorem own_apartD {w : World} {b1 b2 n1 n2 s1 s2 : Nat} {e1 e2 : TypeId} {v1 v2 : Value} {xs ys : List Value} (h1 : w.ownsRow b1 e1 s1 v1 n1 xs) (h2 : w.ownsRow b2 e2 s2 v2 n2 ys) (hne : e1 ≠ e2) {g : Nat} (hg : v1.ownBlock = some g) : v2.ownBlock ≠ some g := fun h9 => by
 rcases own_apartC h1 h2 hne with h | h
 ·rw [h] at hg; cases hg
 ·exact h (hg.trans h9.symm)
set_option maxRecDepth 8000 in
theorem rcopied_is {w : World} {v : Hv} (h : v.ok w) :
  Calls Tryz.prog 58 #[.agg #[.int .u32 v.h.id.1, .int .u32 v.h.id.2, .int .u32 v.h.home, .int .u64 v.h.w, .int .u32 v.h.l, .int .u32 v.h.n, .slice v.ra v.h.rs.length v.rc, .slice v.wa v.h.ws.length v.wc]] w fun e w' => ∃ u : Hv, e = .returned (.agg #[.int .u32 u.h.id.1, .int .u32 u.h.id.2, .int .u32 u.h.home, .int .u64 u.h.w, .int .u32 u.h.l, .int .u32 u.h.n, .slice u.ra u.h.rs.length u.rc, .slice u.wa u.h.ws.length u.wc]) ∧ Hid (u.h = v.h) ∧ Hid (u.fresh w.heap.size w') ∧ Hid (u.ok w') ∧ Hid (Below w.heap.size w w') := by
 obtain ⟨wx, hwx⟩ : ∃ wx, wx = ((w.alloc (.cells #[.int .u32 v.h.id.1, .int .u32 v.h.id.2, .int .u32 v.h.home, .int .u64 v.h.w, .int .u32 v.h.l, .int .u32 v.h.n, .slice v.ra v.h.rs.length v.rc, .slice v.wa v.h.ws.length v.wc] 100)).alloc (.cells #[.int .u32 0, .int .u32 0, .int .u32 0, .int .u64 0, .int .u32 0, .int .u32 0, .slice none 0 0, .slice none 0 0] 100)).alloc (.cells #[.int .u32 v.h.id.1, .int .u32 v.h.id.2, .int .u32 v.h.home, .int .u64 v.h.w, .int .u32 v.h.l, .int .u32 v.h.n, .slice none 0 0, .slice none 0 0] 100) := ⟨_, rfl⟩; have hbx : Below w.heap.size w wx := by rw [hwx]; exact Below.al (Below.al (Below.al (Below.refl _ _) _) _) _
 have HSX : Hid (w.heap.size + 2 < wx.heap.size) := by rw [hwx]; exact hid (by simp)
 have BX6 : Hid (wx.cell? ⟨w.heap.size, 6, none⟩ = some (.slice v.ra v.h.rs.length v.rc)) := by rw [hwx]; exact hid (by simp [go_sem])
 have BX7 : Hid (wx.cell? ⟨w.heap.size, 7, none⟩ = some (.slice v.wa v.h.ws.length v.wc)) := by rw [hwx]; exact hid (by simp [go_sem])
 have HBK : Hid (wx.heap[w.heap.size + 2]? = some (.cells #[.int .u32 v.h.id.1, .int .u32 v.h.id.2, .int .u32 v.h.home, .int .u64 v.h.w, .int .u32 v.h.l, .int .u32 v.h.n, .slice none 0 0, .slice none 0 0] 100)) := by
  show _ = _
  rw [hwx, show w.heap.size + 2 = ((w.alloc (.cells #[.int .u32 v.h.id.1, .int .u32 v.h.id.2, .int .u32 v.h.home, .int .u64 v.h.w, .int .u32 v.h.l, .int .u32 v.h.n, .slice v.ra v.h.rs.length v.rc, .slice v.wa v.h.ws.length v.wc] 100)).alloc (.cells #[.int .u32 0, .int .u32 0, .int .u32 0, .int .u64 0, .int .u32 0, .int .u32 0, .slice none 0 0, .slice none 0 0] 100)).heap.size by simp]; exact (MapKept.heap_alloc _ _).1
 have HZB : Hid (wx.heap[w.heap.size + 1]? = some (.cells #[.int .u32 0, .int .u32 0, .int .u32 0, .int .u64 0, .int .u32 0, .int .u32 0, .slice none 0 0, .slice none 0 0] 100)) := by
  show _ = _
  rw [hwx, (MapKept.heap_alloc _ _).2 _ (by simp), show w.heap.size + 1 = (w.alloc (.cells #[.int .u32 v.h.id.1, .int .u32 v.h.id.2, .int .u32 v.h.home, .int .u64 v.h.w, .int .u32 v.h.l, .int .u32 v.h.n, .slice v.ra v.h.rs.length v.rc, .slice v.wa v.h.ws.length v.wc] 100)).heap.size by simp]; exact (MapKept.heap_alloc _ _).1
 have BARE : Hid (Bare wx (w.heap.size + 2)) := by
  intro o s hc; simp only [World.cell?, HBK.out] at hc; match o, hc with
  | 0, hc => simp at hc
  | 1, hc => simp at hc
  | 2, hc => simp at hc
  | 3, hc => simp at hc
  | 4, hc => simp at hc
  | 5, hc => simp at hc
  | 6, hc => simp at hc
  | 7, hc => simp at hc
  | o + 8, hc => simp at hc
 obtain ⟨i0, hi0, hz0, hs0, hb0⟩ := info_of infoSp; obtain ⟨i1, hi1, hz1, hs1, hb1⟩ := info_of infoWr; have R1 := hid (h.r.later hbx); have R2 := hid (h.w.later hbx); have hrl := h.rl; have hwl := h.wl; have HBX := hid hbx; clear h hbx; go_enter Tryz.func58, Tryz.ntmps58
 go_wp2_with fail
 rw [← hwx]; clear hwx; go_loopg [4] v.h.rs.length (fun g s4 wr => ∃ (k : Nat) (a : Option Addr) (c : Nat), k ≤ v.h.rs.length ∧ g = v.h.rs.length - k ∧ s4 = .int .i64 k ∧ Hid (wr.heap[w.heap.size + 2]? = some (.cells #[.int .u32 v.h.id.1, .int .u32 v.h.id.2, .int .u32 v.h.home, .int .u64 v.h.w, .int .u32 v.h.l, .int .u32 v.h.n, .slice a k c, .slice none 0 0] 100) ∧ wr.ownsRow wx.heap.size 126 2 (.slice a k c) k (flat2 (v.h.rs.take k)) ∧ Onl (fun b => b = w.heap.size + 2) wx wr))
 case atStart => exact ⟨0, none, 0, by omega, by omega, rfl, ⟨HBK.out, ⟨by simp [flat2], .inl ⟨rfl, rfl⟩⟩, Onl.refl _ _⟩⟩
 case round =>
  obtain ⟨k, a, c, hk, rfl, rfl, HI⟩ := hrel; have hbk := HI.out.1; have f6 : wr.cell? ⟨w.heap.size + 2, 6, none⟩ = some (.slice a k c) := cob hbk rfl; have h6 : wr.cell? ⟨w.heap.size, 6, none⟩ = some (.slice v.ra v.h.rs.length v.rc) := HI.out.2.2.cell (by omega) BX6.out; by_cases hlt : k < v.h.rs.length
  ·have hrow := (row2_onl R1.out HI.out.2.2 (fun b e => by rw [e]; exact BARE.out)) k hlt; obtain ⟨b, off, eb, c0, c1⟩ := hrow; rw [eb] at h6; clear eb; obtain ⟨x, hx⟩ : ∃ x, x = nth2 v.h.rs k := ⟨_, rfl⟩; rw [← hx] at c0 c1; have HT : Hid (flat2 (v.h.rs.take (k + 1)) = flat2 (v.h.rs.take k) ++ encS x) := by show _ = _; rw [nth2_take hlt, ← hx]; simp [flat2, List.flatMap_append]
   have hk1 : (k : Int) < (v.h.rs.length : Int) := by omega
   obtain ⟨wa, hwa⟩ : ∃ wa, wa = (wr.alloc (.cells #[.string x.1, .string x.2] 126)).drew := ⟨_, rfl⟩; have hba : Below wr.heap.size wr wa := by rw [hwa]; (repeat (first | exact Below.refl _ _ | assumption | refine Below.drew ?_ | refine Below.al ?_ _ | refine Below.setCell ?_ (by first | exact Nat.le_refl _ | simp <;> omega) _ | refine Below.on ?_ (by assumption)))
   have Hown : Hid (wa.ownsRow wx.heap.size 126 2 (.slice a k c) k (flat2 (v.h.rs.take k))) := owk HI.out.2.1 fun g hg => hba.block g (HI.out.2.1.lt g hg).2
   have n1 : Hid (∀ j u, (encS x)[j]? = some u → wa.cell? (Addr.add ⟨wr.heap.size, 0, none⟩ j) = some u) := by
    show ∀ j u, _
    intro j u hj; rw [hwa]; match j, hj with
    | 0, hj => simp [encS] at hj; subst hj; simp [go_sem, Addr.add]
    | 1, hj => simp [encS] at hj; subst hj; simp [go_sem, Addr.add]
   have n2 : Hid (∀ u ∈ encS x, u.oneCell' = true) := fun u hu => by simp [encS] at hu; rcases hu with rfl | rfl <;> rfl
   have n3 : Hid (k + 1 ≤ maxLen) := by show _ ≤ _; unfold maxLen; omega
   have n4 : Hid ((k + 1) * 32 ≤ 140737488355328) := by show _ ≤ _; omega
   have hsx : wx.heap.size ≤ wr.heap.size := HI.out.2.2.size; have n5 : Hid (wx.heap.size ≤ wa.heap.size) := Nat.le_trans hsx hba.size; have hlw : w.heap.size + 2 < wr.heap.size := Nat.lt_of_lt_of_le HSX.out hsx; have HBA := hid hba; have HWA := hid hwa; have ba3 : wa.heap[w.heap.size + 2]? = some (.cells #[.int .u32 v.h.id.1, .int .u32 v.h.id.2, .int .u32 v.h.home, .int .u64 v.h.w, .int .u32 v.h.l, .int .u32 v.h.n, .slice a k c, .slice none 0 0] 100) := (hba.block _ hlw).trans hbk; have HA3 := hid ba3; have HNE : Hid (∀ g, (Value.slice a k c).ownBlock = some g → wx.heap.size ≤ g) := fun g hg => (HI.out.2.1.lt g hg).1
   clear hx hwa hba hbk ba3; go_wp2_with fail
   go_region_law ((rw [← HWA.out]; refine step_append_lies _ (by rfl) _ _ 37 (by rfl) wx.heap.size 126 i0 (.agg #[.string ⟨#[]⟩, .string ⟨#[]⟩]) 2 32 Tryz.underlying37 hi0 hz0 hs0 hb0 rfl (by decide) (.slice a k c) k (flat2 (v.h.rs.take k)) (by simp [Act.eval]) Hown.out ⟨wr.heap.size, 0, none⟩ 1 1 (encS x) (by simp [Act.eval]) rfl n1.out n2.out (by decide) n3.out n4.out n5.out wa.heap.size rfl ?_; intro g cap w3 hown hgrow hat hlt3; have b3 : w3.heap[w.heap.size + 2]? = some (.cells #[.int .u32 v.h.id.1, .int .u32 v.h.id.2, .int .u32 v.h.home, .int .u64 v.h.w, .int .u32 v.h.l, .int .u32 v.h.n, .slice a k c, .slice none 0 0] 100) := (hgrow.block _ (by have := HBA.out.size; omega) (fun e => by have := HNE.out _ e.symm; have := HSX.out; omega)).trans HA3.out; have f3 : w3.cell? ⟨w.heap.size + 2, 6, none⟩ = some (.slice a k c) := cob b3 rfl; have z3 : ∀ o, w3.frozen? ⟨w.heap.size + 2, o, none⟩ = false := (fun o => by simp [World.frozen?, b3]); have HB3 := hid b3; have HG := hid hgrow; have HOW := hid hown; clear hown hgrow hat b3))
   all_goals (try go_wp2_with fail)
   all_goals
    have HE : Hid ((w3.setCell ⟨w.heap.size + 2, 6, none⟩ (.slice (some ⟨g, 0, none⟩) (k + 1) cap)).heap[w.heap.size + 2]? = some (.cells #[.int .u32 v.h.id.1, .int .u32 v.h.id.2, .int .u32 v.h.home, .int .u64 v.h.w, .int .u32 v.h.l, .int .u32 v.h.n, .slice (some ⟨g, 0, none⟩) (k + 1) cap, .slice none 0 0] 100) ∧ (w3.setCell ⟨w.heap.size + 2, 6, none⟩ (.slice (some ⟨g, 0, none⟩) (k + 1) cap)).ownsRow wx.heap.size 126 2 (.slice (some ⟨g, 0, none⟩) (k + 1) cap) (k + 1) (flat2 (v.h.rs.take (k + 1))) ∧ Onl (fun b => b = w.heap.size + 2) wx (w3.setCell ⟨w.heap.size + 2, 6, none⟩ (.slice (some ⟨g, 0, none⟩) (k + 1) cap))) := by
     have e1 : (w3.setCell ⟨w.heap.size + 2, 6, none⟩ (.slice (some ⟨g, 0, none⟩) (k + 1) cap)).heap[w.heap.size + 2]? = some (.cells #[.int .u32 v.h.id.1, .int .u32 v.h.id.2, .int .u32 v.h.home, .int .u64 v.h.w, .int .u32 v.h.l, .int .u32 v.h.n, .slice (some ⟨g, 0, none⟩) (k + 1) cap, .slice none 0 0] 100) := heap_setCell_same _ _ _ _ _ _ HB3.out; have o3 : Onl (fun b => b = w.heap.size + 2) wx w3 := (HI.out.2.2.on HBA.out).fresh (grown_onl HG.out) (fun i hi => .inr (HNE.out i hi)); refine ⟨e1, ?_, o3.set rfl _ _⟩
     ·rw [HT.out]; exact owk HOW.out fun g' hg' => Below.heap_setCell _ _ _ _ (by have := (HOW.out.lt g' hg').1; have := HSX.out; show g' ≠ w.heap.size + 2; omega)
    go_roundg (v.h.rs.length - (k + 1))
    case measure => omega
    case rel => exact ⟨k + 1, some ⟨g, 0, none⟩, cap, by omega, rfl, by go_num, HE⟩
  ·obtain rfl : k = v.h.rs.length := by omega
   have HB1 : Hid (wr.heap[w.heap.size + 2]? = some (.cells #[.int .u32 v.h.id.1, .int .u32 v.h.id.2, .int .u32 v.h.home, .int .u64 v.h.w, .int .u32 v.h.l, .int .u32 v.h.n, .slice a v.h.rs.length c, .slice none 0 0] 100)) := HI.out.1; have HF1 : Hid (Fr2 wx.heap.size wr a c v.h.rs) := by have := HI.out.2.1; rwa [List.take_length] at this
   have HO1 := hid HI.out.2.2; obtain ⟨ar, har⟩ : ∃ ar, ar = a := ⟨_, rfl⟩; obtain ⟨cr, hcr⟩ : ∃ cr, cr = c := ⟨_, rfl⟩; rw [← har, ← hcr] at HB1 HF1; clear har hcr hbk HI hlt hk; go_wp2_with fail
   clear f6 h6; go_loopg [5] v.h.ws.length (fun g s5 wr => ∃ (k : Nat) (a : Option Addr) (c : Nat), k ≤ v.h.ws.length ∧ g = v.h.ws.length - k ∧ s5 = .int .i64 k ∧ Hid (wr.heap[w.heap.size + 2]? = some (.cells #[.int .u32 v.h.id.1, .int .u32 v.h.id.2, .int .u32 v.h.home, .int .u64 v.h.w, .int .u32 v.h.l, .int .u32 v.h.n, .slice ar v.h.rs.length cr, .slice a k c] 100) ∧ wr.ownsRow wx.heap.size 117 3 (.slice a k c) k (flatW (v.h.ws.take k)) ∧ Onl (fun b => b = w.heap.size + 2) wx wr ∧ Fr2 wx.heap.size wr ar cr v.h.rs))
   case atStart => exact ⟨0, none, 0, by omega, by omega, rfl, ⟨HB1.out, ⟨by simp [flatW], .inl ⟨rfl, rfl⟩⟩, HO1.out, HF1.out⟩⟩
   case round =>
    obtain ⟨k, a, c, hk, rfl, rfl, HI⟩ := hrel; have hbk := HI.out.1; have f7 : wr.cell? ⟨w.heap.size + 2, 7, none⟩ = some (.slice a k c) := cob hbk rfl; have h7 : wr.cell? ⟨w.heap.size, 7, none⟩ = some (.slice v.wa v.h.ws.length v.wc) := HI.out.2.2.1.cell (by omega) BX7.out; by_cases hlt : k < v.h.ws.length
    ·have hrow := (rowW_onl R2.out HI.out.2.2.1 (fun b e => by rw [e]; exact BARE.out)) k hlt; obtain ⟨b, off, eb, c0, c1, c2⟩ := hrow; rw [eb] at h7; clear eb; obtain ⟨x, hx⟩ : ∃ x, x = nthW v.h.ws k := ⟨_, rfl⟩; rw [← hx] at c0 c1 c2; have HT : Hid (flatW (v.h.ws.take (k + 1)) = flatW (v.h.ws.take k) ++ encW x) := by show _ = _; rw [nthW_take hlt, ← hx]; simp [flatW, List.flatMap_append]
     have hk1 : (k : Int) < (v.h.ws.length : Int) := by omega
     obtain ⟨wa, hwa⟩ : ∃ wa, wa = (wr.alloc (.cells #[.string x.key, .bool x.del, .string x.val] 117)).drew := ⟨_, rfl⟩; have hba : Below wr.heap.size wr wa := by rw [hwa]; (repeat (first | exact Below.refl _ _ | assumption | refine Below.drew ?_ | refine Below.al ?_ _ | refine Below.setCell ?_ (by first | exact Nat.le_refl _ | simp <;> omega) _ | refine Below.on ?_ (by assumption)))
     have Hown : Hid (wa.ownsRow wx.heap.size 117 3 (.slice a k c) k (flatW (v.h.ws.take k))) := owk HI.out.2.1 fun g hg => hba.block g (HI.out.2.1.lt g hg).2
     have n1 : Hid (∀ j u, (encW x)[j]? = some u → wa.cell? (Addr.add ⟨wr.heap.size, 0, none⟩ j) = some u) := by
      show ∀ j u, _
      intro j u hj; rw [hwa]; match j, hj with
      | 0, hj => simp [encW] at hj; subst hj; simp [go_sem, Addr.add]
      | 1, hj => simp [encW] at hj; subst hj; simp [go_sem, Addr.add]
      | 2, hj => simp [encW] at hj; subst hj; simp [go_sem, Addr.add]
     have n2 : Hid (∀ u ∈ encW x, u.oneCell' = true) := fun u hu => by simp [encW] at hu; rcases hu with rfl | rfl | rfl <;> rfl
     have n3 : Hid (k + 1 ≤ maxLen) := by show _ ≤ _; unfold maxLen; omega
     have n4 : Hid ((k + 1) * 40 ≤ 140737488355328) := by show _ ≤ _; omega
     have hsx : wx.heap.size ≤ wr.heap.size := HI.out.2.2.1.size; have n5 : Hid (wx.heap.size ≤ wa.heap.size) := Nat.le_trans hsx hba.size; have hlw : w.heap.size + 2 < wr.heap.size := Nat.lt_of_lt_of_le HSX.out hsx; have HBA := hid hba; have HWA := hid hwa; have ba3 : wa.heap[w.heap.size + 2]? = some (.cells #[.int .u32 v.h.id.1, .int .u32 v.h.id.2, .int .u32 v.h.home, .int .u64 v.h.w, .int .u32 v.h.l, .int .u32 v.h.n, .slice ar v.h.rs.length cr, .slice a k c] 100) := (hba.block _ hlw).trans hbk; have HA3 := hid ba3; have HNE : Hid (∀ g, (Value.slice a k c).ownBlock = some g → wx.heap.size ≤ g) := fun g hg => (HI.out.2.1.lt g hg).1
     clear hx hwa hba hbk ba3; go_wp2_with fail
     go_region_law ((rw [← HWA.out]; refine step_append_lies _ (by rfl) _ _ 38 (by rfl) wx.heap.size 117 i1 (.agg #[.string ⟨#[]⟩, .bool false, .string ⟨#[]⟩]) 3 40 Tryz.underlying38 hi1 hz1 hs1 hb1 rfl (by decide) (.slice a k c) k (flatW (v.h.ws.take k)) (by simp [Act.eval]) Hown.out ⟨wr.heap.size, 0, none⟩ 1 1 (encW x) (by simp [Act.eval]) rfl n1.out n2.out (by decide) n3.out n4.out n5.out wa.heap.size rfl ?_; intro g cap w3 hown hgrow hat hlt3; have b3 : w3.heap[w.heap.size + 2]? = some (.cells #[.int .u32 v.h.id.1, .int .u32 v.h.id.2, .int .u32 v.h.home, .int .u64 v.h.w, .int .u32 v.h.l, .int .u32 v.h.n, .slice ar v.h.rs.length cr, .slice a k c] 100) := (hgrow.block _ (by have := HBA.out.size; omega) (fun e => by have := HNE.out _ e.symm; have := HSX.out; omega)).trans HA3.out; have f3 : w3.cell? ⟨w.heap.size + 2, 7, none⟩ = some (.slice a k c) := cob b3 rfl; have z3 : ∀ o, w3.frozen? ⟨w.heap.size + 2, o, none⟩ = false := (fun o => by simp [World.frozen?, b3]); have HB3 := hid b3; have HG := hid hgrow; have HOW := hid hown; clear hown hgrow hat b3))
     all_goals (try go_wp2_with fail)
     all_goals
      have HE : Hid ((w3.setCell ⟨w.heap.size + 2, 7, none⟩ (.slice (some ⟨g, 0, none⟩) (k + 1) cap)).heap[w.heap.size + 2]? = some (.cells #[.int .u32 v.h.id.1, .int .u32 v.h.id.2, .int .u32 v.h.home, .int .u64 v.h.w, .int .u32 v.h.l, .int .u32 v.h.n, .slice ar v.h.rs.length cr, .slice (some ⟨g, 0, none⟩) (k + 1) cap] 100) ∧ (w3.setCell ⟨w.heap.size + 2, 7, none⟩ (.slice (some ⟨g, 0, none⟩) (k + 1) cap)).ownsRow wx.heap.size 117 3 (.slice (some ⟨g, 0, none⟩) (k + 1) cap) (k + 1) (flatW (v.h.ws.take (k + 1))) ∧ Onl (fun b => b = w.heap.size + 2) wx (w3.setCell ⟨w.heap.size + 2, 7, none⟩ (.slice (some ⟨g, 0, none⟩) (k + 1) cap)) ∧ Fr2 wx.heap.size (w3.setCell ⟨w.heap.size + 2, 7, none⟩ (.slice (some ⟨g, 0, none⟩) (k + 1) cap)) ar cr v.h.rs) := by
       have e1 : (w3.setCell ⟨w.heap.size + 2, 7, none⟩ (.slice (some ⟨g, 0, none⟩) (k + 1) cap)).heap[w.heap.size + 2]? = some (.cells #[.int .u32 v.h.id.1, .int .u32 v.h.id.2, .int .u32 v.h.home, .int .u64 v.h.w, .int .u32 v.h.l, .int .u32 v.h.n, .slice ar v.h.rs.length cr, .slice (some ⟨g, 0, none⟩) (k + 1) cap] 100) := heap_setCell_same _ _ _ _ _ _ HB3.out; have o3 : Onl (fun b => b = w.heap.size + 2) wx w3 := (HI.out.2.2.1.on HBA.out).fresh (grown_onl HG.out) (fun i hi => .inr (HNE.out i hi)); refine ⟨e1, ?_, o3.set rfl _ _, ?_⟩
       ·rw [HT.out]; exact owk HOW.out fun g' hg' => Below.heap_setCell _ _ _ _ (by have := (HOW.out.lt g' hg').1; have := HSX.out; show g' ≠ w.heap.size + 2; omega)
       ·refine owk (owk (owk HI.out.2.2.2 fun g' hg' => HBA.out.block g' (HI.out.2.2.2.lt g' hg').2) fun g' hg' => HG.out.block g' (Nat.lt_of_lt_of_le (HI.out.2.2.2.lt g' hg').2 HBA.out.size) (fun e => own_apartD HI.out.2.2.2 HI.out.2.1 (by decide) hg' e.symm)) fun g' hg' => Below.heap_setCell _ _ _ _ (by have := (HI.out.2.2.2.lt g' hg').1; have := HSX.out; show g' ≠ w.heap.size + 2; omega)
      go_roundg (v.h.ws.length - (k + 1))
      case measure => omega
      case rel => exact ⟨k + 1, some ⟨g, 0, none⟩, cap, by omega, rfl, by go_num, HE⟩
    ·obtain rfl : k = v.h.ws.length := by omega
     have HF1 := hid HI.out.2.2.2; have HF2 : Hid (FrW wx.heap.size wr a c v.h.ws) := by have := HI.out.2.1; rwa [List.take_length] at this
     have hO := HI.out.2.2.1; have g0 := cob (o := 0) hbk rfl; have g1 := cob (o := 1) hbk rfl; have g2 := cob (o := 2) hbk rfl; have g3 := cob (o := 3) hbk rfl; have g4 := cob (o := 4) hbk rfl; have g5 := cob (o := 5) hbk rfl; have g6 := cob (o := 6) hbk rfl; have g7 := cob (o := 7) hbk rfl; have hz : wr.heap[w.heap.size + 1]? = some (.cells #[.int .u32 0, .int .u32 0, .int .u32 0, .int .u64 0, .int .u32 0, .int .u32 0, .slice none 0 0, .slice none 0 0] 100) := (hO.block _ (by have := HSX.out; omega) (by omega)).trans HZB.out; have r0 := cob (o := 0) hz rfl; have r1 := cob (o := 1) hz rfl; have r2 := cob (o := 2) hz rfl; have r3 := cob (o := 3) hz rfl; have r4 := cob (o := 4) hz rfl; have r5 := cob (o := 5) hz rfl; have r6 := cob (o := 6) hz rfl
     have r7 := cob (o := 7) hz rfl; have f4 : ∀ o, wr.frozen? ⟨w.heap.size + 1, o, none⟩ = false := fun o => by simp [World.frozen?, hz]
     have HH := hid hz; have HB9 : Hid (Below w.heap.size w wr) := HBX.out.trans (hO.below (B := w.heap.size) (fun b e => by omega) HBX.out.size); clear hz hbk hO HI f7; go_wp2_with fail
     obtain ⟨w8, hw8⟩ : ∃ w8, w8 = (((((((wr.setCell ⟨w.heap.size + 1, 0, none⟩ (.int .u32 v.h.id.1)).setCell ⟨w.heap.size + 1, 1, none⟩ (.int .u32 v.h.id.2)).setCell ⟨w.heap.size + 1, 2, none⟩ (.int .u32 v.h.home)).setCell ⟨w.heap.size + 1, 3, none⟩ (.int .u64 v.h.w)).setCell ⟨w.heap.size + 1, 4, none⟩ (.int .u32 v.h.l)).setCell ⟨w.heap.size + 1, 5, none⟩ (.int .u32 v.h.n)).setCell ⟨w.heap.size + 1, 6, none⟩ (.slice ar v.h.rs.length cr)).setCell ⟨w.heap.size + 1, 7, none⟩ (.slice a v.h.ws.length c) := ⟨_, rfl⟩; have hO8 : Onl (fun b => b = w.heap.size + 1) wr w8 := by
      rw [hw8]; repeat refine Onl.set ?_ (by rfl) _ _
      exact Onl.refl _ _
     have hb8 : Below w.heap.size w w8 := by
      rw [hw8]; repeat refine Below.setCell ?_ (by exact Nat.le_succ _) _
      exact HB9.out
     have hblk8 : w8.heap[w.heap.size + 1]? = some (.cells #[.int .u32 v.h.id.1, .int .u32 v.h.id.2, .int .u32 v.h.home, .int .u64 v.h.w, .int .u32 v.h.l, .int .u32 v.h.n, .slice ar v.h.rs.length cr, .slice a v.h.ws.length c] 100) := by
      rw [hw8]; exact heap_setCell_same _ _ _ _ _ _ (heap_setCell_same _ _ _ _ _ _ (heap_setCell_same _ _ _ _ _ _ (heap_setCell_same _ _ _ _ _ _ (heap_setCell_same _ _ _ _ _ _ (heap_setCell_same _ _ _ _ _ _ (heap_setCell_same _ _ _ _ _ _ (heap_setCell_same _ _ _ _ _ _ HH.out)))))))
     rw [← hw8]; have t0 : w8.cell? ⟨w.heap.size + 1, 0, none⟩ = some (.int .u32 v.h.id.1) := cob hblk8 rfl; have t1 : w8.cell? ⟨w.heap.size + 1, 1, none⟩ = some (.int .u32 v.h.id.2) := cob hblk8 rfl; have t2 : w8.cell? ⟨w.heap.size + 1, 2, none⟩ = some (.int .u32 v.h.home) := cob hblk8 rfl; have t3 : w8.cell? ⟨w.heap.size + 1, 3, none⟩ = some (.int .u64 v.h.w) := cob hblk8 rfl; have t4 : w8.cell? ⟨w.heap.size + 1, 4, none⟩ = some (.int .u32 v.h.l) := cob hblk8 rfl; have t5 : w8.cell? ⟨w.heap.size + 1, 5, none⟩ = some (.int .u32 v.h.n) := cob hblk8 rfl; have t6 : w8.cell? ⟨w.heap.size + 1, 6, none⟩ = some (.slice ar v.h.rs.length cr) := cob hblk8 rfl; have t7 : w8.cell? ⟨w.heap.size + 1, 7, none⟩ = some (.slice a v.h.ws.length c) := cob hblk8 rfl; clear hw8 hblk8
     have hfr : (⟨v.h, ar, cr, a, c⟩ : Hv).fresh w.heap.size w8 := by
      refine ⟨owb (owk HF1.out fun g e => hO8.block g (HF1.out.lt g e).2 (fun k => ?_)) (by have := HSX.out; omega), owb (owk HF2.out fun g e => hO8.block g (HF2.out.lt g e).2 (fun k => ?_)) (by have := HSX.out; omega)⟩
      ·have := (HF1.out.lt g e).1; have := HSX.out; omega
      ·have := (HF2.out.lt g e).1; have := HSX.out; omega
     refine bodyPost_ret (v := .agg #[.int .u32 v.h.id.1, .int .u32 v.h.id.2, .int .u32 v.h.home, .int .u64 v.h.w, .int .u32 v.h.l, .int .u32 v.h.n, .slice ar v.h.rs.length cr, .slice a v.h.ws.length c]) (by simp [results, Tryz.results58, go_sem, t0, t1, t2, t3, t4, t5, t6, t7]) rfl ⟨⟨v.h, ar, cr, a, c⟩, rfl, rfl, hfr, hfr.ok hrl hwl, hb8⟩
def nthH (U : List Hv) (i : Nat) : Hv := (U[i]?).getD Hv.zero
theorem ownH_at {B n : Nat} {w : World} {a : Option Addr} {c : Nat} {U : List Hv} (h : OwnH B w (.slice a n c) n U) (hn : U.length = n) {i : Nat} (hi : i < n) :
  ∃ g, a = some ⟨g, 0, none⟩ ∧ ∀ o v, (hcs (nthH U i))[o]? = some v → w.cell? ⟨g, i * 8 + o, none⟩ = some v := by
 obtain ⟨g, rfl, _, hc⟩ := own_cells h (by omega); letI : Inhabited Hv := ⟨Hv.zero⟩
 refine ⟨g, rfl, fun o v ho => hc _ _ ?_⟩; have hol : o < 8 := by have := (List.getElem?_eq_some_iff.1 ho).1; simpa using this
 rw [fm_get (k := 8) hcs_len U i o (by omega) hol, ← ho]; have : U[i]! = nthH U i := by simp [nthH, getElem!_pos, show i < U.length by omega]
 rw [this]
structure RowH (B : Nat) (w : World) (a : Option Addr) (n c : Nat) (U : List Hv) : Prop where
 own : OwnH B w (.slice a n c) n U
 len : U.length = n
 ok : ∀ u ∈ U, u.ok w
theorem RowH.later {B : Nat} {w w' : World} {a : Option Addr} {n c : Nat} {U : List Hv} (h : RowH B w a n c U) (hb : Below w.heap.size w w') : RowH B w' a n c U :=
 ⟨owk h.own fun g hg => hb.block g (h.own.lt g hg).2, h.len, fun u hu => (h.ok u hu).later hb⟩
theorem nthH_mem {U : List Hv} {i : Nat} (h : i < U.length) : nthH U i ∈ U := by
 have : nthH U i = U[i] := by simp [nthH, h]
 rw [this]; exact List.getElem_mem h
theorem nthH_ext {U V : List Hv} (hl : U.length = V.length) (h : ∀ j, j < U.length → (nthH U j).h = (nthH V j).h) : U.map Hv.h = V.map Hv.h := by
 apply List.ext_getElem (by simpa using hl)
 intro j h1 h2; have h1' : j < U.length := by simpa using h1
 have h2' : j < V.length := by simpa using h2
 have := h j h1'; simpa [nthH, h1', h2'] using this
end Lk
namespace Ig
open Go.RowKit Go.Sort Ys
theorem anyH_yes {U : List Lk.Hv} {t : Lk.Ix} {x : Lk.Hv} (hx : x ∈ U) (h : x.h.id = t) : (U.any fun u => decide (u.h.id = t)) = true := by
 rw [List.any_eq_true]; exact ⟨x, hx, by simp [h]⟩
theorem anyH_no {U : List Lk.Hv} {t : Lk.Ix} (h : ∀ i, i < U.length → (Lk.nthH U i).h.id ≠ t) : (U.any fun u => decide (u.h.id = t)) = false := by
 rw [List.any_eq_false]; intro u hu; obtain ⟨i, hi, rfl⟩ := List.getElem_of_mem hu; have h1 := h i hi; have h2 : Lk.nthH U i = U[i] := by simp [Lk.nthH, hi]
 rw [h2] at h1; simp [h1]
set_option maxRecDepth 8000 in
theorem dget_is {w : World} {B q : Nat} {n top : Int} {wm : Vs.Sp} {t : Lk.Ix} {U : List Lk.Hv} {E : List Lg.En} {V : List Vs.Kv} (h : Dst w B q n top wm U E V) (hl : U.length ≤ 1099511627776) (hr : ∀ u ∈ U, u.h.rs.length ≤ 1099511627776 ∧ u.h.ws.length ≤ 1099511627776) :
  Calls Tryz.prog 107 #[.pointer (some ⟨q, 0, none⟩), .agg #[.int .u32 t.1, .int .u32 t.2]] w fun e w' => (∃ v : Lk.Hv, e = .returned (.tuple #[.agg #[.int .u32 v.h.id.1, .int .u32 v.h.id.2, .int .u32 v.h.home, .int .u64 v.h.w, .int .u32 v.h.l, .int .u32 v.h.n, .slice v.ra v.h.rs.length v.rc, .slice v.wa v.h.ws.length v.wc], .bool (U.any fun u => decide (u.h.id = t))])) ∧ Below w.heap.size w w' := by
 have hok : ∀ u ∈ U, u.ok w := fun u hu => (h.fr u hu).ok (by have := (hr u hu).1; omega) (by have := (hr u hu).2; omega)
 obtain ⟨⟨aH, aE, aV, cH, cE, cV, kb, hO, -, -⟩, -, hq⟩ := h; obtain ⟨m, hm⟩ : ∃ m, m = U.length := ⟨_, rfl⟩; have c5 : w.cell? ⟨q, 5, none⟩ = some (.slice aH m cH) := by rw [hm]; exact Vs.cob (o := 5) kb rfl
 rw [← hm] at hO; obtain ⟨wx, hwx⟩ : ∃ wx, wx = (w.alloc (.cells #[.int .u32 t.1, .int .u32 t.2] 33)).alloc (.cells #[.int .u32 0, .int .u32 0, .int .u32 0, .int .u64 0, .int .u32 0, .int .u32 0, .slice none 0 0, .slice none 0 0] 100) := ⟨_, rfl⟩; have hbx : Below w.heap.size w wx := by rw [hwx]; exact Below.al (Below.al (Below.refl _ _) _) _
 have hsx : w.heap.size + 1 < wx.heap.size := by rw [hwx]; simp
 have k0 : wx.heap[w.heap.size]? = some (.cells #[.int .u32 t.1, .int .u32 t.2] 33 (0, 0)) := by
  rw [hwx, (MapKept.heap_alloc _ _).2 _ (by simp)]; exact (MapKept.heap_alloc _ _).1
 have k1 : wx.heap[w.heap.size + 1]? = some (.cells #[.int .u32 0, .int .u32 0, .int .u32 0, .int .u64 0, .int .u32 0, .int .u32 0, .slice none 0 0, .slice none 0 0] 100 (0, 0)) := by
  rw [hwx, show w.heap.size + 1 = (w.alloc (.cells #[.int .u32 t.1, .int .u32 t.2] 33)).heap.size by simp]; exact (MapKept.heap_alloc _ _).1
 have K0 := hid k0; have K1 := hid k1; have HBX := hid hbx; have HSX := hid hsx; replace c5 := cell_later hbx c5; have C5 := hid c5; have OH := hid hO; have HOK := hid hok; have HL := hid hl; have HM := hid hm; clear kb hO hl hm hok hr k0 k1 hbx hsx; go_enter Tryz.func107, Tryz.ntmps107
 go_wp2_with fail
 rw [← hwx]; clear hwx; go_loopg [6] m (fun g s6 wr => ∃ i : Nat, i ≤ m ∧ g = m - i ∧ s6 = .int .i64 i ∧ Hid (∀ j, j < i → (Lk.nthH U j).h.id ≠ t) ∧ Hid (Below wx.heap.size wx wr))
 case atStart => exact ⟨0, by omega, by omega, rfl, fun j hj => absurd hj (by omega), Below.refl _ _⟩
 case round =>
  obtain ⟨i, hi1, rfl, rfl, HA, HB⟩ := hrel; have HBB := hid (Below.on HBX.out HB.out); have b5 := cell_later HB.out c5; have hmb : m ≤ 1099511627776 := by rw [HM.out]; exact HL.out
  by_cases hlt : i < m
  ·have hi2 : (i : Int) < (m : Int) := by omega
   obtain ⟨g, eg, hc⟩ := Lk.ownH_at OH.out HM.out.symm hlt; obtain ⟨x, hx⟩ : ∃ x, x = Lk.nthH U i := ⟨_, rfl⟩; have hxm : x ∈ U := by rw [hx]; exact Lk.nthH_mem (by rw [← HM.out]; exact hlt)
   rw [← hx] at hc; have HX := hid hx; have HXM := hid hxm; subst eg; have HC := hid hc; clear c5 hx hxm hc; obtain ⟨sm, hsm⟩ : ∃ sm, Lk.sameI x.h.id t = sm := ⟨_, rfl⟩; have HSM := hid hsm; have qq : ∀ W, (binOp .eql 33 (.agg #[.int .u32 x.h.id.1, .int .u32 x.h.id.2]) (.agg #[.int .u32 t.1, .int .u32 t.2])).run Tryz.prog W = .ok (.bool sm) W := fun W => by rw [← hsm]; exact Lk.run_eqI _ _ W
   clear hsm; go_wp2_with fail
   have r5 := cell_regrown b5; have s0 := cell_regrown (show wr.cell? ⟨g, i * 8, none⟩ = some (.int .u32 x.h.id.1) from cell_later HBB.out (HC.out 0 _ rfl)); have s1 := cell_regrown (cell_later HBB.out (HC.out 1 _ rfl)); have x0 := cell_regrown (cell_later HB.out (show wx.cell? ⟨w.heap.size, 0, none⟩ = some (.int .u32 t.1) from Vs.cob (o := 0) K0.out rfl)); have x1 := cell_regrown (cell_later HB.out (show wx.cell? ⟨w.heap.size, 1, none⟩ = some (.int .u32 t.2) from Vs.cob (o := 1) K0.out rfl)); have B5 := hid b5; clear b5; go_cut [25] (fun s25 wz => s25 = .bool sm ∧ Hid (Below wr.heap.size wr wz))
   case first =>
    refine wp_region_quiet_below (by kernel_rfl) (by kernel_rfl) ?_; repeat (go_big_quiet_step (fail))
    refine wpQuiet_nil ?_; intro wn hwn; replace hwn := bor hwn; go_wp2_with fail
    go_meet
    exact ⟨rfl, hid hwn⟩
   case rest =>
    obtain ⟨rfl, HZ⟩ := hcut; have HBC := hid (Below.on HB.out HZ.out); have HBW := hid (Below.on HBB.out HZ.out); clear r5 s0 s1 x0 x1 qq; cases sm with
    | false =>
     have hne : x.h.id ≠ t := fun e => by have h9 := HSM.out; rw [Lk.sameI_eq, e] at h9; simp at h9
     have HA2 : Hid (∀ j, j < i + 1 → (Lk.nthH U j).h.id ≠ t) := hid fun j hj => by
      rcases Nat.lt_or_ge j i with h9 | h9
      ·exact HA.out j h9
      ·rw [show j = i by omega, ← HX.out]; exact hne
     clear hne; go_wp2_with fail
     go_roundg (m - (i + 1))
     case measure => omega
     case rel => exact ⟨i + 1, by omega, rfl, by go_num, HA2, HBC.out⟩
    | true =>
     have hxe : x.h.id = t := by have h9 := HSM.out; rw [Lk.sameI_eq] at h9; simpa [Prod.ext_iff] using h9
     have HF := hid (anyH_yes HXM.out hxe); clear hxe; have r5 := cell_later HZ.out B5.out; have s0 : wc.cell? ⟨g, i * 8, none⟩ = some (.int .u32 x.h.id.1) := cell_later HBW.out (HC.out 0 _ rfl); have s1 : wc.cell? ⟨g, i * 8 + 1, none⟩ = some (.int .u32 x.h.id.2) := cell_later HBW.out (HC.out 1 _ rfl); have s2 : wc.cell? ⟨g, i * 8 + 2, none⟩ = some (.int .u32 x.h.home) := cell_later HBW.out (HC.out 2 _ rfl); have s3 : wc.cell? ⟨g, i * 8 + 3, none⟩ = some (.int .u64 x.h.w) := cell_later HBW.out (HC.out 3 _ rfl); have s4 : wc.cell? ⟨g, i * 8 + 4, none⟩ = some (.int .u32 x.h.l) := cell_later HBW.out (HC.out 4 _ rfl); have s5 : wc.cell? ⟨g, i * 8 + 5, none⟩ = some (.int .u32 x.h.n) := cell_later HBW.out (HC.out 5 _ rfl); have s6 : wc.cell? ⟨g, i * 8 + 6, none⟩ = some (.slice x.ra x.h.rs.length x.rc) := cell_later HBW.out (HC.out 6 _ rfl)
     have s7 : wc.cell? ⟨g, i * 8 + 7, none⟩ = some (.slice x.wa x.h.ws.length x.wc) := cell_later HBW.out (HC.out 7 _ rfl); have XOK := hid ((HOK.out x HXM.out).later HBW.out); go_wp2_with fail
     refine (Lk.rcopied_is XOK.out).mono ?_; rintro e w3 ⟨u, rfl, -, -, -, hb3⟩; have HB3 := hid (Below.on HBW.out hb3); have hz3 : w3.heap[w.heap.size + 1]? = some (.cells #[.int .u32 0, .int .u32 0, .int .u32 0, .int .u64 0, .int .u32 0, .int .u32 0, .slice none 0 0, .slice none 0 0] 100 (0, 0)) := ((Below.on HBC.out hb3).block _ HSX.out).trans K1.out; have z0 : w3.cell? ⟨w.heap.size + 1, 0, none⟩ = some (.int .u32 0) := Vs.cob (o := 0) hz3 rfl; have z1 : w3.cell? ⟨w.heap.size + 1, 1, none⟩ = some (.int .u32 0) := Vs.cob (o := 1) hz3 rfl; have z2 : w3.cell? ⟨w.heap.size + 1, 2, none⟩ = some (.int .u32 0) := Vs.cob (o := 2) hz3 rfl; have z3 : w3.cell? ⟨w.heap.size + 1, 3, none⟩ = some (.int .u64 0) := Vs.cob (o := 3) hz3 rfl; have z4 : w3.cell? ⟨w.heap.size + 1, 4, none⟩ = some (.int .u32 0) := Vs.cob (o := 4) hz3 rfl
     have z5 : w3.cell? ⟨w.heap.size + 1, 5, none⟩ = some (.int .u32 0) := Vs.cob (o := 5) hz3 rfl; have z6 : w3.cell? ⟨w.heap.size + 1, 6, none⟩ = some (.slice none 0 0) := Vs.cob (o := 6) hz3 rfl; have z7 : w3.cell? ⟨w.heap.size + 1, 7, none⟩ = some (.slice none 0 0) := Vs.cob (o := 7) hz3 rfl; have f4 : ∀ o, w3.frozen? ⟨w.heap.size + 1, o, none⟩ = false := fun o => by simp [World.frozen?, hz3]
     have HH := hid hz3; clear hz3 s0 s1 s2 s3 s4 s5 s6 s7 r5 hb3; go_wp2_with fail
     obtain ⟨w8, hw8⟩ : ∃ w8, w8 = ((((((((w3.setCell ⟨w.heap.size + 1, 0, none⟩ (.int .u32 u.h.id.1)).setCell ⟨w.heap.size + 1, 1, none⟩ (.int .u32 u.h.id.2)).setCell ⟨w.heap.size + 1, 2, none⟩ (.int .u32 u.h.home)).setCell ⟨w.heap.size + 1, 3, none⟩ (.int .u64 u.h.w)).setCell ⟨w.heap.size + 1, 4, none⟩ (.int .u32 u.h.l)).setCell ⟨w.heap.size + 1, 5, none⟩ (.int .u32 u.h.n)).setCell ⟨w.heap.size + 1, 6, none⟩ (.slice u.ra u.h.rs.length u.rc)).setCell ⟨w.heap.size + 1, 7, none⟩ (.slice u.wa u.h.ws.length u.wc)) := ⟨_, rfl⟩; have hb8 : Below w.heap.size w w8 := by
      rw [hw8]; repeat refine Below.setCell ?_ (by exact Nat.le_succ _) _
      exact HB3.out
     have hblk8 : w8.heap[w.heap.size + 1]? = some (.cells #[.int .u32 u.h.id.1, .int .u32 u.h.id.2, .int .u32 u.h.home, .int .u64 u.h.w, .int .u32 u.h.l, .int .u32 u.h.n, .slice u.ra u.h.rs.length u.rc, .slice u.wa u.h.ws.length u.wc] 100) := by
      rw [hw8]; exact (heap_setCell_same _ _ _ _ _ _ (heap_setCell_same _ _ _ _ _ _ (heap_setCell_same _ _ _ _ _ _ (heap_setCell_same _ _ _ _ _ _ (heap_setCell_same _ _ _ _ _ _ (heap_setCell_same _ _ _ _ _ _ (heap_setCell_same _ _ _ _ _ _ (heap_setCell_same _ _ _ _ _ _ HH.out))))))))
     rw [← hw8]; have t0 : w8.cell? ⟨w.heap.size + 1, 0, none⟩ = some (.int .u32 u.h.id.1) := Vs.cob (o := 0) hblk8 rfl; have t1 : w8.cell? ⟨w.heap.size + 1, 1, none⟩ = some (.int .u32 u.h.id.2) := Vs.cob (o := 1) hblk8 rfl; have t2 : w8.cell? ⟨w.heap.size + 1, 2, none⟩ = some (.int .u32 u.h.home) := Vs.cob (o := 2) hblk8 rfl; have t3 : w8.cell? ⟨w.heap.size + 1, 3, none⟩ = some (.int .u64 u.h.w) := Vs.cob (o := 3) hblk8 rfl; have t4 : w8.cell? ⟨w.heap.size + 1, 4, none⟩ = some (.int .u32 u.h.l) := Vs.cob (o := 4) hblk8 rfl; have t5 : w8.cell? ⟨w.heap.size + 1, 5, none⟩ = some (.int .u32 u.h.n) := Vs.cob (o := 5) hblk8 rfl; have t6 : w8.cell? ⟨w.heap.size + 1, 6, none⟩ = some (.slice u.ra u.h.rs.length u.rc) := Vs.cob (o := 6) hblk8 rfl
     have t7 : w8.cell? ⟨w.heap.size + 1, 7, none⟩ = some (.slice u.wa u.h.ws.length u.wc) := Vs.cob (o := 7) hblk8 rfl; clear hw8 hblk8 z0 z1 z2 z3 z4 z5 z6 z7; exact bodyPost_ret (v := .tuple #[.agg #[.int .u32 u.h.id.1, .int .u32 u.h.id.2, .int .u32 u.h.home, .int .u64 u.h.w, .int .u32 u.h.l, .int .u32 u.h.n, .slice u.ra u.h.rs.length u.rc, .slice u.wa u.h.ws.length u.wc], .bool true]) (by simp [results, Tryz.results107, go_sem, t0, t1, t2, t3, t4, t5, t6, t7]) rfl ⟨⟨u, by rw [HF.out]⟩, hb8⟩
  ·have hi9 : i = m := by omega
   subst hi9; have HF := hid (anyH_no (U := U) (t := t) fun j hj => HA.out j (by rw [HM.out]; exact hj)); have hz3 : wr.heap[w.heap.size + 1]? = some (.cells #[.int .u32 0, .int .u32 0, .int .u32 0, .int .u64 0, .int .u32 0, .int .u32 0, .slice none 0 0, .slice none 0 0] 100 (0, 0)) := (HB.out.block _ HSX.out).trans K1.out; have z0 : wr.cell? ⟨w.heap.size + 1, 0, none⟩ = some (.int .u32 0) := Vs.cob (o := 0) hz3 rfl; have z1 : wr.cell? ⟨w.heap.size + 1, 1, none⟩ = some (.int .u32 0) := Vs.cob (o := 1) hz3 rfl; have z2 : wr.cell? ⟨w.heap.size + 1, 2, none⟩ = some (.int .u32 0) := Vs.cob (o := 2) hz3 rfl; have z3 : wr.cell? ⟨w.heap.size + 1, 3, none⟩ = some (.int .u64 0) := Vs.cob (o := 3) hz3 rfl; have z4 : wr.cell? ⟨w.heap.size + 1, 4, none⟩ = some (.int .u32 0) := Vs.cob (o := 4) hz3 rfl
   have z5 : wr.cell? ⟨w.heap.size + 1, 5, none⟩ = some (.int .u32 0) := Vs.cob (o := 5) hz3 rfl; have z6 : wr.cell? ⟨w.heap.size + 1, 6, none⟩ = some (.slice none 0 0) := Vs.cob (o := 6) hz3 rfl; have z7 : wr.cell? ⟨w.heap.size + 1, 7, none⟩ = some (.slice none 0 0) := Vs.cob (o := 7) hz3 rfl; have f4 : ∀ o, wr.frozen? ⟨w.heap.size + 1, o, none⟩ = false := fun o => by simp [World.frozen?, hz3]
   have HH := hid hz3; clear hz3; go_wp2_with fail
   obtain ⟨w8, hw8⟩ : ∃ w8, w8 = ((((((((wr.setCell ⟨w.heap.size + 1, 0, none⟩ (.int .u32 0)).setCell ⟨w.heap.size + 1, 1, none⟩ (.int .u32 0)).setCell ⟨w.heap.size + 1, 2, none⟩ (.int .u32 0)).setCell ⟨w.heap.size + 1, 3, none⟩ (.int .u64 0)).setCell ⟨w.heap.size + 1, 4, none⟩ (.int .u32 0)).setCell ⟨w.heap.size + 1, 5, none⟩ (.int .u32 0)).setCell ⟨w.heap.size + 1, 6, none⟩ (.slice none 0 0)).setCell ⟨w.heap.size + 1, 7, none⟩ (.slice none 0 0)) := ⟨_, rfl⟩; have hb8 : Below w.heap.size w w8 := by
    rw [hw8]; repeat refine Below.setCell ?_ (by exact Nat.le_succ _) _
    exact HBB.out
   have hblk8 : w8.heap[w.heap.size + 1]? = some (.cells #[.int .u32 0, .int .u32 0, .int .u32 0, .int .u64 0, .int .u32 0, .int .u32 0, .slice none 0 0, .slice none 0 0] 100) := by
    rw [hw8]; exact (heap_setCell_same _ _ _ _ _ _ (heap_setCell_same _ _ _ _ _ _ (heap_setCell_same _ _ _ _ _ _ (heap_setCell_same _ _ _ _ _ _ (heap_setCell_same _ _ _ _ _ _ (heap_setCell_same _ _ _ _ _ _ (heap_setCell_same _ _ _ _ _ _ (heap_setCell_same _ _ _ _ _ _ HH.out))))))))
   rw [← hw8]; have t0 : w8.cell? ⟨w.heap.size + 1, 0, none⟩ = some (.int .u32 0) := Vs.cob (o := 0) hblk8 rfl; have t1 : w8.cell? ⟨w.heap.size + 1, 1, none⟩ = some (.int .u32 0) := Vs.cob (o := 1) hblk8 rfl; have t2 : w8.cell? ⟨w.heap.size + 1, 2, none⟩ = some (.int .u32 0) := Vs.cob (o := 2) hblk8 rfl; have t3 : w8.cell? ⟨w.heap.size + 1, 3, none⟩ = some (.int .u64 0) := Vs.cob (o := 3) hblk8 rfl; have t4 : w8.cell? ⟨w.heap.size + 1, 4, none⟩ = some (.int .u32 0) := Vs.cob (o := 4) hblk8 rfl; have t5 : w8.cell? ⟨w.heap.size + 1, 5, none⟩ = some (.int .u32 0) := Vs.cob (o := 5) hblk8 rfl; have t6 : w8.cell? ⟨w.heap.size + 1, 6, none⟩ = some (.slice none 0 0) := Vs.cob (o := 6) hblk8 rfl; have t7 : w8.cell? ⟨w.heap.size + 1, 7, none⟩ = some (.slice none 0 0) := Vs.cob (o := 7) hblk8 rfl
   clear hw8 hblk8 z0 z1 z2 z3 z4 z5 z6 z7; exact bodyPost_ret (v := .tuple #[.agg #[.int .u32 0, .int .u32 0, .int .u32 0, .int .u64 0, .int .u32 0, .int .u32 0, .slice none 0 0, .slice none 0 0], .bool false]) (by simp [results, Tryz.results107, go_sem, t0, t1, t2, t3, t4, t5, t6, t7]) rfl ⟨⟨⟨⟨(0, 0), 0, 0, 0, 0, [], []⟩, none, 0, none, 0⟩, by rw [HF.out]; rfl⟩, hb8⟩
end Ig
end Go.Proofs.YtofpaldolcnmiaaGreat
