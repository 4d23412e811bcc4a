import Derived.Test.YtgplnbdankfobaaGreatDoorQAllT
import Derived.Deep.AppendLies
import Derived.Deep.RegionLaw
/- The document's Copied. -/
namespace Go.Proofs.YtgplnbdankfobaaGreatDoor.Lk
open Go.RowKit Go.Sort
set_option linter.unusedVariables false


set_option maxRecDepth 8000 in
set_option maxHeartbeats 4000000 in
theorem rcopied_is {w : World} {v : Hv} (h : v.ok w) :
    Calls Tryz.prog 25 #[.agg #[.int .u32 v.h.id.1, .int .u32 v.h.id.2, .int .u32 v.h.home, .int .u64 v.h.w, .int .u32 v.h.l, .int .u32 v.h.n, .slice v.ra v.h.rs.length v.rc, .slice v.wa v.h.ws.length v.wc]] w fun e w' => ∃ u : Hv, e = .returned (.agg #[.int .u32 u.h.id.1, .int .u32 u.h.id.2, .int .u32 u.h.home, .int .u64 u.h.w, .int .u32 u.h.l, .int .u32 u.h.n, .slice u.ra u.h.rs.length u.rc, .slice u.wa u.h.ws.length u.wc]) ∧ Hid (u.h = v.h) ∧ Hid (u.fresh w.heap.size w') ∧ Hid (u.ok w') ∧ Hid (Below w.heap.size w w') := by
  obtain ⟨wx, hwx⟩ : ∃ wx, wx = ((w.alloc (.cells #[.int .u32 v.h.id.1, .int .u32 v.h.id.2, .int .u32 v.h.home, .int .u64 v.h.w, .int .u32 v.h.l, .int .u32 v.h.n, .slice v.ra v.h.rs.length v.rc, .slice v.wa v.h.ws.length v.wc] 32)).alloc (.cells #[.int .u32 0, .int .u32 0, .int .u32 0, .int .u64 0, .int .u32 0, .int .u32 0, .slice none 0 0, .slice none 0 0] 32)).alloc (.cells #[.int .u32 v.h.id.1, .int .u32 v.h.id.2, .int .u32 v.h.home, .int .u64 v.h.w, .int .u32 v.h.l, .int .u32 v.h.n, .slice none 0 0, .slice none 0 0] 32) := ⟨_, rfl⟩
  have hbx : Below w.heap.size w wx := by rw [hwx]; exact Below.al (Below.al (Below.al (Below.refl _ _) _) _) _
  have HSX : Hid (w.heap.size + 2 < wx.heap.size) := by rw [hwx]; exact hid (by simp)
  have BX6 : Hid (wx.cell? ⟨w.heap.size, 6, none⟩ = some (.slice v.ra v.h.rs.length v.rc)) := by rw [hwx]; exact hid (by simp [go_sem])
  have BX7 : Hid (wx.cell? ⟨w.heap.size, 7, none⟩ = some (.slice v.wa v.h.ws.length v.wc)) := by rw [hwx]; exact hid (by simp [go_sem])
  have HBK : Hid (wx.heap[w.heap.size + 2]? = some (.cells #[.int .u32 v.h.id.1, .int .u32 v.h.id.2, .int .u32 v.h.home, .int .u64 v.h.w, .int .u32 v.h.l, .int .u32 v.h.n, .slice none 0 0, .slice none 0 0] 32)) := by
    show _ = _
    rw [hwx, show w.heap.size + 2 = ((w.alloc (.cells #[.int .u32 v.h.id.1, .int .u32 v.h.id.2, .int .u32 v.h.home, .int .u64 v.h.w, .int .u32 v.h.l, .int .u32 v.h.n, .slice v.ra v.h.rs.length v.rc, .slice v.wa v.h.ws.length v.wc] 32)).alloc (.cells #[.int .u32 0, .int .u32 0, .int .u32 0, .int .u64 0, .int .u32 0, .int .u32 0, .slice none 0 0, .slice none 0 0] 32)).heap.size by simp]
    exact (MapKept.heap_alloc _ _).1
  have HZB : Hid (wx.heap[w.heap.size + 1]? = some (.cells #[.int .u32 0, .int .u32 0, .int .u32 0, .int .u64 0, .int .u32 0, .int .u32 0, .slice none 0 0, .slice none 0 0] 32)) := by
    show _ = _
    rw [hwx, (MapKept.heap_alloc _ _).2 _ (by simp), show w.heap.size + 1 = (w.alloc (.cells #[.int .u32 v.h.id.1, .int .u32 v.h.id.2, .int .u32 v.h.home, .int .u64 v.h.w, .int .u32 v.h.l, .int .u32 v.h.n, .slice v.ra v.h.rs.length v.rc, .slice v.wa v.h.ws.length v.wc] 32)).heap.size by simp]
    exact (MapKept.heap_alloc _ _).1
  have BARE : Hid (Bare wx (w.heap.size + 2)) := by
    intro o s hc
    simp only [World.cell?, HBK.out] at hc
    match o, hc with
    | 0, hc => simp at hc
    | 1, hc => simp at hc
    | 2, hc => simp at hc
    | 3, hc => simp at hc
    | 4, hc => simp at hc
    | 5, hc => simp at hc
    | 6, hc => simp at hc
    | 7, hc => simp at hc
    | o + 8, hc => simp at hc
  obtain ⟨i0, hi0, hz0, hs0, hb0⟩ := info_of infoSp
  obtain ⟨i1, hi1, hz1, hs1, hb1⟩ := info_of infoWr
  have R1 := hid (h.r.later hbx)
  have R2 := hid (h.w.later hbx)
  have hrl := h.rl
  have hwl := h.wl
  have HBX := hid hbx
  clear h hbx
  go_enter Tryz.func25, Tryz.ntmps25
  go_wp2_with fail
  rw [← hwx]
  clear hwx
  go_loopg [4] v.h.rs.length (fun g s4 wr => ∃ (k : Nat) (a : Option Addr) (c : Nat), k ≤ v.h.rs.length ∧ g = v.h.rs.length - k ∧ s4 = .int .i64 k ∧ Hid (wr.heap[w.heap.size + 2]? = some (.cells #[.int .u32 v.h.id.1, .int .u32 v.h.id.2, .int .u32 v.h.home, .int .u64 v.h.w, .int .u32 v.h.l, .int .u32 v.h.n, .slice a k c, .slice none 0 0] 32) ∧ wr.ownsRow wx.heap.size 34 2 (.slice a k c) k (flat2 (v.h.rs.take k)) ∧ Onl (fun b => b = w.heap.size + 2) wx wr))
  case atStart => exact ⟨0, none, 0, by omega, by omega, rfl, ⟨HBK.out, ⟨by simp [flat2], .inl ⟨rfl, rfl⟩⟩, Onl.refl _ _⟩⟩
  case round =>
    obtain ⟨k, a, c, hk, rfl, rfl, HI⟩ := hrel
    have hbk := HI.out.1
    have f6 : wr.cell? ⟨w.heap.size + 2, 6, none⟩ = some (.slice a k c) := cell_of_obj hbk rfl
    have h6 : wr.cell? ⟨w.heap.size, 6, none⟩ = some (.slice v.ra v.h.rs.length v.rc) := HI.out.2.2.cell (by omega) BX6.out
    by_cases hlt : k < v.h.rs.length
    · have hrow := (row2_onl R1.out HI.out.2.2 (fun b e => by rw [e]; exact BARE.out)) k hlt
      obtain ⟨b, off, eb, c0, c1⟩ := hrow
      rw [eb] at h6
      clear eb
      obtain ⟨x, hx⟩ : ∃ x, x = nth2 v.h.rs k := ⟨_, rfl⟩
      rw [← hx] at c0 c1
      have HT : Hid (flat2 (v.h.rs.take (k + 1)) = flat2 (v.h.rs.take k) ++ encS x) := by show _ = _; rw [nth2_take hlt, ← hx]; simp [flat2, List.flatMap_append]
      have hk1 : (k : Int) < (v.h.rs.length : Int) := by omega
      obtain ⟨wa, hwa⟩ : ∃ wa, wa = (wr.alloc (.cells #[.string x.1, .string x.2] 34)).drew := ⟨_, rfl⟩
      have hba : Below wr.heap.size wr wa := by rw [hwa]; (repeat (first | exact Below.refl _ _ | assumption | refine Below.drew ?_ | refine Below.al ?_ _ | refine Below.setCell ?_ (by first | exact Nat.le_refl _ | (simp; omega) | (simp; done)) _ | refine Below.on ?_ (by assumption)))
      have Hown : Hid (wa.ownsRow wx.heap.size 34 2 (.slice a k c) k (flat2 (v.h.rs.take k))) := owns_keep HI.out.2.1 fun g hg => hba.block g (HI.out.2.1.lt g hg).2
      have n1 : Hid (∀ j u, (encS x)[j]? = some u → wa.cell? (Addr.add ⟨wr.heap.size, 0, none⟩ j) = some u) := by
        show ∀ j u, _
        intro j u hj
        rw [hwa]
        match j, hj with
        | 0, hj => simp [encS] at hj; subst hj; simp [go_sem, Addr.add]
        | 1, hj => simp [encS] at hj; subst hj; simp [go_sem, Addr.add]
      have n2 : Hid (∀ u ∈ encS x, u.oneCell' = true) := fun u hu => by simp [encS] at hu; rcases hu with rfl | rfl <;> rfl
      have n3 : Hid (k + 1 ≤ maxLen) := by show _ ≤ _; unfold maxLen; omega
      have n4 : Hid ((k + 1) * 32 ≤ 140737488355328) := by show _ ≤ _; omega
      have hsx : wx.heap.size ≤ wr.heap.size := HI.out.2.2.size
      have n5 : Hid (wx.heap.size ≤ wa.heap.size) := Nat.le_trans hsx hba.size
      have hlw : w.heap.size + 2 < wr.heap.size := Nat.lt_of_lt_of_le HSX.out hsx
      have HBA := hid hba
      have HWA := hid hwa
      have ba3 : wa.heap[w.heap.size + 2]? = some (.cells #[.int .u32 v.h.id.1, .int .u32 v.h.id.2, .int .u32 v.h.home, .int .u64 v.h.w, .int .u32 v.h.l, .int .u32 v.h.n, .slice a k c, .slice none 0 0] 32) := (hba.block _ hlw).trans hbk
      have HA3 := hid ba3
      have HNE : Hid (∀ g, (Value.slice a k c).ownBlock = some g → wx.heap.size ≤ g) := fun g hg => (HI.out.2.1.lt g hg).1
      clear hx hwa hba hbk ba3
      go_wp2_with fail
      go_region_law ((rw [← HWA.out]; refine step_append_lies _ (by rfl) _ _ 29 (by rfl) wx.heap.size 34 i0 (.agg #[.string ⟨#[]⟩, .string ⟨#[]⟩]) 2 32 Tryz.underlying29 hi0 hz0 hs0 hb0 rfl (by decide) (.slice a k c) k (flat2 (v.h.rs.take k)) (by simp [Act.eval]) Hown.out ⟨wr.heap.size, 0, none⟩ 1 1 (encS x) (by simp [Act.eval]) rfl n1.out n2.out (by decide) n3.out n4.out n5.out wa.heap.size rfl ?_; intro g cap w3 hown hgrow hat hlt3; have b3 : w3.heap[w.heap.size + 2]? = some (.cells #[.int .u32 v.h.id.1, .int .u32 v.h.id.2, .int .u32 v.h.home, .int .u64 v.h.w, .int .u32 v.h.l, .int .u32 v.h.n, .slice a k c, .slice none 0 0] 32) := (hgrow.block _ (by have := HBA.out.size; omega) (fun e => by have := HNE.out _ e.symm; have := HSX.out; omega)).trans HA3.out; have f3 : w3.cell? ⟨w.heap.size + 2, 6, none⟩ = some (.slice a k c) := cell_of_obj b3 rfl; have z3 : ∀ o, w3.frozen? ⟨w.heap.size + 2, o, none⟩ = false := (fun o => by simp [World.frozen?, b3]); have HB3 := hid b3; have HG := hid hgrow; have HOW := hid hown; clear hown hgrow hat b3))
      all_goals (try go_wp2_with fail)
      all_goals
        have HE : Hid ((w3.setCell ⟨w.heap.size + 2, 6, none⟩ (.slice (some ⟨g, 0, none⟩) (k + 1) cap)).heap[w.heap.size + 2]? = some (.cells #[.int .u32 v.h.id.1, .int .u32 v.h.id.2, .int .u32 v.h.home, .int .u64 v.h.w, .int .u32 v.h.l, .int .u32 v.h.n, .slice (some ⟨g, 0, none⟩) (k + 1) cap, .slice none 0 0] 32) ∧ (w3.setCell ⟨w.heap.size + 2, 6, none⟩ (.slice (some ⟨g, 0, none⟩) (k + 1) cap)).ownsRow wx.heap.size 34 2 (.slice (some ⟨g, 0, none⟩) (k + 1) cap) (k + 1) (flat2 (v.h.rs.take (k + 1))) ∧ Onl (fun b => b = w.heap.size + 2) wx (w3.setCell ⟨w.heap.size + 2, 6, none⟩ (.slice (some ⟨g, 0, none⟩) (k + 1) cap))) := by
          have e1 : (w3.setCell ⟨w.heap.size + 2, 6, none⟩ (.slice (some ⟨g, 0, none⟩) (k + 1) cap)).heap[w.heap.size + 2]? = some (.cells #[.int .u32 v.h.id.1, .int .u32 v.h.id.2, .int .u32 v.h.home, .int .u64 v.h.w, .int .u32 v.h.l, .int .u32 v.h.n, .slice (some ⟨g, 0, none⟩) (k + 1) cap, .slice none 0 0] 32) := heap_setCell_same _ _ _ _ _ _ HB3.out
          have o3 : Onl (fun b => b = w.heap.size + 2) wx w3 := (HI.out.2.2.on HBA.out).fresh (grown_onl HG.out) (fun i hi => .inr (HNE.out i hi))
          refine ⟨e1, ?_, o3.set rfl _ _⟩
          · rw [HT.out]
            exact owns_keep HOW.out fun g' hg' => Below.heap_setCell _ _ _ _ (by have := (HOW.out.lt g' hg').1; have := HSX.out; show g' ≠ w.heap.size + 2; omega)
        go_roundg (v.h.rs.length - (k + 1))
        case measure => omega
        case rel => exact ⟨k + 1, some ⟨g, 0, none⟩, cap, by omega, rfl, by go_num, HE⟩
    · obtain rfl : k = v.h.rs.length := by omega
      have HB1 : Hid (wr.heap[w.heap.size + 2]? = some (.cells #[.int .u32 v.h.id.1, .int .u32 v.h.id.2, .int .u32 v.h.home, .int .u64 v.h.w, .int .u32 v.h.l, .int .u32 v.h.n, .slice a v.h.rs.length c, .slice none 0 0] 32)) := HI.out.1
      have HF1 : Hid (Fr2 wx.heap.size wr a c v.h.rs) := by have := HI.out.2.1; rwa [List.take_length] at this
      have HO1 := hid HI.out.2.2
      obtain ⟨ar, har⟩ : ∃ ar, ar = a := ⟨_, rfl⟩
      obtain ⟨cr, hcr⟩ : ∃ cr, cr = c := ⟨_, rfl⟩
      rw [← har, ← hcr] at HB1 HF1
      clear har hcr hbk HI hlt hk
      go_wp2_with fail
      clear f6 h6
      go_loopg [5] v.h.ws.length (fun g s5 wr => ∃ (k : Nat) (a : Option Addr) (c : Nat), k ≤ v.h.ws.length ∧ g = v.h.ws.length - k ∧ s5 = .int .i64 k ∧ Hid (wr.heap[w.heap.size + 2]? = some (.cells #[.int .u32 v.h.id.1, .int .u32 v.h.id.2, .int .u32 v.h.home, .int .u64 v.h.w, .int .u32 v.h.l, .int .u32 v.h.n, .slice ar v.h.rs.length cr, .slice a k c] 32) ∧ wr.ownsRow wx.heap.size 64 3 (.slice a k c) k (flatW (v.h.ws.take k)) ∧ Onl (fun b => b = w.heap.size + 2) wx wr ∧ Fr2 wx.heap.size wr ar cr v.h.rs))
      case atStart => exact ⟨0, none, 0, by omega, by omega, rfl, ⟨HB1.out, ⟨by simp [flatW], .inl ⟨rfl, rfl⟩⟩, HO1.out, HF1.out⟩⟩
      case round =>
        obtain ⟨k, a, c, hk, rfl, rfl, HI⟩ := hrel
        have hbk := HI.out.1
        have f7 : wr.cell? ⟨w.heap.size + 2, 7, none⟩ = some (.slice a k c) := cell_of_obj hbk rfl
        have h7 : wr.cell? ⟨w.heap.size, 7, none⟩ = some (.slice v.wa v.h.ws.length v.wc) := HI.out.2.2.1.cell (by omega) BX7.out
        by_cases hlt : k < v.h.ws.length
        · have hrow := (rowW_onl R2.out HI.out.2.2.1 (fun b e => by rw [e]; exact BARE.out)) k hlt
          obtain ⟨b, off, eb, c0, c1, c2⟩ := hrow
          rw [eb] at h7
          clear eb
          obtain ⟨x, hx⟩ : ∃ x, x = nthW v.h.ws k := ⟨_, rfl⟩
          rw [← hx] at c0 c1 c2
          have HT : Hid (flatW (v.h.ws.take (k + 1)) = flatW (v.h.ws.take k) ++ encW x) := by show _ = _; rw [nthW_take hlt, ← hx]; simp [flatW, List.flatMap_append]
          have hk1 : (k : Int) < (v.h.ws.length : Int) := by omega
          obtain ⟨wa, hwa⟩ : ∃ wa, wa = (wr.alloc (.cells #[.string x.key, .bool x.del, .string x.val] 64)).drew := ⟨_, rfl⟩
          have hba : Below wr.heap.size wr wa := by rw [hwa]; (repeat (first | exact Below.refl _ _ | assumption | refine Below.drew ?_ | refine Below.al ?_ _ | refine Below.setCell ?_ (by first | exact Nat.le_refl _ | (simp; omega) | (simp; done)) _ | refine Below.on ?_ (by assumption)))
          have Hown : Hid (wa.ownsRow wx.heap.size 64 3 (.slice a k c) k (flatW (v.h.ws.take k))) := owns_keep HI.out.2.1 fun g hg => hba.block g (HI.out.2.1.lt g hg).2
          have n1 : Hid (∀ j u, (encW x)[j]? = some u → wa.cell? (Addr.add ⟨wr.heap.size, 0, none⟩ j) = some u) := by
            show ∀ j u, _
            intro j u hj
            rw [hwa]
            match j, hj with
            | 0, hj => simp [encW] at hj; subst hj; simp [go_sem, Addr.add]
            | 1, hj => simp [encW] at hj; subst hj; simp [go_sem, Addr.add]
            | 2, hj => simp [encW] at hj; subst hj; simp [go_sem, Addr.add]
          have n2 : Hid (∀ u ∈ encW x, u.oneCell' = true) := fun u hu => by simp [encW] at hu; rcases hu with rfl | rfl | rfl <;> rfl
          have n3 : Hid (k + 1 ≤ maxLen) := by show _ ≤ _; unfold maxLen; omega
          have n4 : Hid ((k + 1) * 40 ≤ 140737488355328) := by show _ ≤ _; omega
          have hsx : wx.heap.size ≤ wr.heap.size := HI.out.2.2.1.size
          have n5 : Hid (wx.heap.size ≤ wa.heap.size) := Nat.le_trans hsx hba.size
          have hlw : w.heap.size + 2 < wr.heap.size := Nat.lt_of_lt_of_le HSX.out hsx
          have HBA := hid hba
          have HWA := hid hwa
          have ba3 : wa.heap[w.heap.size + 2]? = some (.cells #[.int .u32 v.h.id.1, .int .u32 v.h.id.2, .int .u32 v.h.home, .int .u64 v.h.w, .int .u32 v.h.l, .int .u32 v.h.n, .slice ar v.h.rs.length cr, .slice a k c] 32) := (hba.block _ hlw).trans hbk
          have HA3 := hid ba3
          have HNE : Hid (∀ g, (Value.slice a k c).ownBlock = some g → wx.heap.size ≤ g) := fun g hg => (HI.out.2.1.lt g hg).1
          clear hx hwa hba hbk ba3
          go_wp2_with fail
          go_region_law ((rw [← HWA.out]; refine step_append_lies _ (by rfl) _ _ 30 (by rfl) wx.heap.size 64 i1 (.agg #[.string ⟨#[]⟩, .bool false, .string ⟨#[]⟩]) 3 40 Tryz.underlying30 hi1 hz1 hs1 hb1 rfl (by decide) (.slice a k c) k (flatW (v.h.ws.take k)) (by simp [Act.eval]) Hown.out ⟨wr.heap.size, 0, none⟩ 1 1 (encW x) (by simp [Act.eval]) rfl n1.out n2.out (by decide) n3.out n4.out n5.out wa.heap.size rfl ?_; intro g cap w3 hown hgrow hat hlt3; have b3 : w3.heap[w.heap.size + 2]? = some (.cells #[.int .u32 v.h.id.1, .int .u32 v.h.id.2, .int .u32 v.h.home, .int .u64 v.h.w, .int .u32 v.h.l, .int .u32 v.h.n, .slice ar v.h.rs.length cr, .slice a k c] 32) := (hgrow.block _ (by have := HBA.out.size; omega) (fun e => by have := HNE.out _ e.symm; have := HSX.out; omega)).trans HA3.out; have f3 : w3.cell? ⟨w.heap.size + 2, 7, none⟩ = some (.slice a k c) := cell_of_obj b3 rfl; have z3 : ∀ o, w3.frozen? ⟨w.heap.size + 2, o, none⟩ = false := (fun o => by simp [World.frozen?, b3]); have HB3 := hid b3; have HG := hid hgrow; have HOW := hid hown; clear hown hgrow hat b3))
          all_goals (try go_wp2_with fail)
          all_goals
            have HE : Hid ((w3.setCell ⟨w.heap.size + 2, 7, none⟩ (.slice (some ⟨g, 0, none⟩) (k + 1) cap)).heap[w.heap.size + 2]? = some (.cells #[.int .u32 v.h.id.1, .int .u32 v.h.id.2, .int .u32 v.h.home, .int .u64 v.h.w, .int .u32 v.h.l, .int .u32 v.h.n, .slice ar v.h.rs.length cr, .slice (some ⟨g, 0, none⟩) (k + 1) cap] 32) ∧ (w3.setCell ⟨w.heap.size + 2, 7, none⟩ (.slice (some ⟨g, 0, none⟩) (k + 1) cap)).ownsRow wx.heap.size 64 3 (.slice (some ⟨g, 0, none⟩) (k + 1) cap) (k + 1) (flatW (v.h.ws.take (k + 1))) ∧ Onl (fun b => b = w.heap.size + 2) wx (w3.setCell ⟨w.heap.size + 2, 7, none⟩ (.slice (some ⟨g, 0, none⟩) (k + 1) cap)) ∧ Fr2 wx.heap.size (w3.setCell ⟨w.heap.size + 2, 7, none⟩ (.slice (some ⟨g, 0, none⟩) (k + 1) cap)) ar cr v.h.rs) := by
              have e1 : (w3.setCell ⟨w.heap.size + 2, 7, none⟩ (.slice (some ⟨g, 0, none⟩) (k + 1) cap)).heap[w.heap.size + 2]? = some (.cells #[.int .u32 v.h.id.1, .int .u32 v.h.id.2, .int .u32 v.h.home, .int .u64 v.h.w, .int .u32 v.h.l, .int .u32 v.h.n, .slice ar v.h.rs.length cr, .slice (some ⟨g, 0, none⟩) (k + 1) cap] 32) := heap_setCell_same _ _ _ _ _ _ HB3.out
              have o3 : Onl (fun b => b = w.heap.size + 2) wx w3 := (HI.out.2.2.1.on HBA.out).fresh (grown_onl HG.out) (fun i hi => .inr (HNE.out i hi))
              refine ⟨e1, ?_, o3.set rfl _ _, ?_⟩
              · rw [HT.out]
                exact owns_keep HOW.out fun g' hg' => Below.heap_setCell _ _ _ _ (by have := (HOW.out.lt g' hg').1; have := HSX.out; show g' ≠ w.heap.size + 2; omega)
              · refine owns_keep (owns_keep (owns_keep HI.out.2.2.2 fun g' hg' => HBA.out.block g' (HI.out.2.2.2.lt g' hg').2) fun g' hg' => HG.out.block g' (Nat.lt_of_lt_of_le (HI.out.2.2.2.lt g' hg').2 HBA.out.size) (fun e => own_apart HI.out.2.2.2 HI.out.2.1 (by decide) hg' e.symm)) fun g' hg' => Below.heap_setCell _ _ _ _ (by have := (HI.out.2.2.2.lt g' hg').1; have := HSX.out; show g' ≠ w.heap.size + 2; omega)
            go_roundg (v.h.ws.length - (k + 1))
            case measure => omega
            case rel => exact ⟨k + 1, some ⟨g, 0, none⟩, cap, by omega, rfl, by go_num, HE⟩
        · obtain rfl : k = v.h.ws.length := by omega
          have HF1 := hid HI.out.2.2.2
          have HF2 : Hid (FrW wx.heap.size wr a c v.h.ws) := by have := HI.out.2.1; rwa [List.take_length] at this
          have hO := HI.out.2.2.1
          have g0 := cell_of_obj (o := 0) hbk rfl
          have g1 := cell_of_obj (o := 1) hbk rfl
          have g2 := cell_of_obj (o := 2) hbk rfl
          have g3 := cell_of_obj (o := 3) hbk rfl
          have g4 := cell_of_obj (o := 4) hbk rfl
          have g5 := cell_of_obj (o := 5) hbk rfl
          have g6 := cell_of_obj (o := 6) hbk rfl
          have g7 := cell_of_obj (o := 7) hbk rfl
          have hz : wr.heap[w.heap.size + 1]? = some (.cells #[.int .u32 0, .int .u32 0, .int .u32 0, .int .u64 0, .int .u32 0, .int .u32 0, .slice none 0 0, .slice none 0 0] 32) := (hO.block _ (by have := HSX.out; omega) (by omega)).trans HZB.out
          have r0 := cell_of_obj (o := 0) hz rfl
          have r1 := cell_of_obj (o := 1) hz rfl
          have r2 := cell_of_obj (o := 2) hz rfl
          have r3 := cell_of_obj (o := 3) hz rfl
          have r4 := cell_of_obj (o := 4) hz rfl
          have r5 := cell_of_obj (o := 5) hz rfl
          have r6 := cell_of_obj (o := 6) hz rfl
          have r7 := cell_of_obj (o := 7) hz rfl
          have f4 : ∀ o, wr.frozen? ⟨w.heap.size + 1, o, none⟩ = false := fun o => by simp [World.frozen?, hz]
          have HH := hid hz
          have HB9 : Hid (Below w.heap.size w wr) := HBX.out.trans (hO.below (B := w.heap.size) (fun b e => by omega) HBX.out.size)
          clear hz hbk hO HI f7
          go_wp2_with fail
          obtain ⟨w8, hw8⟩ : ∃ w8, w8 = (((((((wr.setCell ⟨w.heap.size + 1, 0, none⟩ (.int .u32 v.h.id.1)).setCell ⟨w.heap.size + 1, 1, none⟩ (.int .u32 v.h.id.2)).setCell ⟨w.heap.size + 1, 2, none⟩ (.int .u32 v.h.home)).setCell ⟨w.heap.size + 1, 3, none⟩ (.int .u64 v.h.w)).setCell ⟨w.heap.size + 1, 4, none⟩ (.int .u32 v.h.l)).setCell ⟨w.heap.size + 1, 5, none⟩ (.int .u32 v.h.n)).setCell ⟨w.heap.size + 1, 6, none⟩ (.slice ar v.h.rs.length cr)).setCell ⟨w.heap.size + 1, 7, none⟩ (.slice a v.h.ws.length c) := ⟨_, rfl⟩
          have hO8 : Onl (fun b => b = w.heap.size + 1) wr w8 := by
            rw [hw8]
            repeat refine Onl.set ?_ (by rfl) _ _
            exact Onl.refl _ _
          have hb8 : Below w.heap.size w w8 := by
            rw [hw8]
            repeat refine Below.setCell ?_ (by exact Nat.le_succ _) _
            exact HB9.out
          have hblk8 : w8.heap[w.heap.size + 1]? = some (.cells #[.int .u32 v.h.id.1, .int .u32 v.h.id.2, .int .u32 v.h.home, .int .u64 v.h.w, .int .u32 v.h.l, .int .u32 v.h.n, .slice ar v.h.rs.length cr, .slice a v.h.ws.length c] 32) := by
            rw [hw8]
            exact heap_setCell_same _ _ _ _ _ _ (heap_setCell_same _ _ _ _ _ _ (heap_setCell_same _ _ _ _ _ _ (heap_setCell_same _ _ _ _ _ _ (heap_setCell_same _ _ _ _ _ _ (heap_setCell_same _ _ _ _ _ _ (heap_setCell_same _ _ _ _ _ _ (heap_setCell_same _ _ _ _ _ _ HH.out)))))))
          rw [← hw8]
          have t0 : w8.cell? ⟨w.heap.size + 1, 0, none⟩ = some (.int .u32 v.h.id.1) := cell_of_obj hblk8 rfl
          have t1 : w8.cell? ⟨w.heap.size + 1, 1, none⟩ = some (.int .u32 v.h.id.2) := cell_of_obj hblk8 rfl
          have t2 : w8.cell? ⟨w.heap.size + 1, 2, none⟩ = some (.int .u32 v.h.home) := cell_of_obj hblk8 rfl
          have t3 : w8.cell? ⟨w.heap.size + 1, 3, none⟩ = some (.int .u64 v.h.w) := cell_of_obj hblk8 rfl
          have t4 : w8.cell? ⟨w.heap.size + 1, 4, none⟩ = some (.int .u32 v.h.l) := cell_of_obj hblk8 rfl
          have t5 : w8.cell? ⟨w.heap.size + 1, 5, none⟩ = some (.int .u32 v.h.n) := cell_of_obj hblk8 rfl
          have t6 : w8.cell? ⟨w.heap.size + 1, 6, none⟩ = some (.slice ar v.h.rs.length cr) := cell_of_obj hblk8 rfl
          have t7 : w8.cell? ⟨w.heap.size + 1, 7, none⟩ = some (.slice a v.h.ws.length c) := cell_of_obj hblk8 rfl
          clear hw8 hblk8
          have hfr : (⟨v.h, ar, cr, a, c⟩ : Hv).fresh w.heap.size w8 := by
            refine ⟨owns_base (owns_keep HF1.out fun g e => hO8.block g (HF1.out.lt g e).2 (fun k => ?_)) (by have := HSX.out; omega), owns_base (owns_keep HF2.out fun g e => hO8.block g (HF2.out.lt g e).2 (fun k => ?_)) (by have := HSX.out; omega)⟩
            · have := (HF1.out.lt g e).1; have := HSX.out; omega
            · have := (HF2.out.lt g e).1; have := HSX.out; omega
          refine bodyPost_ret (v := .agg #[.int .u32 v.h.id.1, .int .u32 v.h.id.2, .int .u32 v.h.home, .int .u64 v.h.w, .int .u32 v.h.l, .int .u32 v.h.n, .slice ar v.h.rs.length cr, .slice a v.h.ws.length c]) (by simp [results, Tryz.results25, go_sem, t0, t1, t2, t3, t4, t5, t6, t7]) rfl ⟨⟨v.h, ar, cr, a, c⟩, rfl, rfl, hfr, hfr.ok hrl hwl, hb8⟩
end Go.Proofs.YtgplnbdankfobaaGreatDoor.Lk
