import Derived.Test.YtmhpakbkmddfeaaIFrozen
import Derived.Test.YtmhpakbkmddfeaaIBuilt
import Derived.SizedLaws
namespace Go.Proofs.Ytmhpakbkmddfeaa
open Go.RowKit Go.Sort Go.WideShapes Go.ChangeAt
set_option linter.unusedVariables false

theorem chs_key {l : List Ao} {c : Ch} (h : c ∈ chs l) : ∃ o ∈ l, c.key = o.key := by
  obtain ⟨o, ho, hc⟩ := List.mem_flatMap.1 h
  refine ⟨o, ho, ?_⟩
  unfold chO at hc
  split at hc
  · rw [List.mem_singleton.1 hc]
  · split at hc
    · rw [List.mem_singleton.1 hc]
    · cases hc
theorem bix_key {l : List Ao} {key : ByteArray} {S : Nat} (hl : ∀ o ∈ l, o.key.size ≤ S) (hk : key.size ≤ S) : ∀ e ∈ bix l key, e.1.size ≤ S := fun e he => by
  rcases (setX_mem (ixL_rising (chs l)) key 1 e).1 he with rfl | ⟨h1, _⟩
  · exact hk
  · obtain ⟨c, hc, e'⟩ := getL_key ((ixL_mem (chs l) e.1 e.2).1 h1)
    obtain ⟨o, ho, e2⟩ := chs_key hc
    rw [← e', e2]; exact hl o ho
theorem U_size {l E : List En} {ops : List Ao} {S : Nat} (h1 : ∀ e ∈ l, e.1.size ≤ S) (h2 : ∀ o ∈ ops, o.key.size ≤ S) (h3 : ∀ e ∈ E, e.1.size ≤ S) : ∀ k ∈ Uof l ops E, k.size ≤ S + 1 := fun k hk => by
  rcases List.mem_append.1 hk with hk | hk
  · rcases List.mem_append.1 hk with hk | hk
    · obtain ⟨e, he, rfl⟩ := List.mem_map.1 hk
      exact Nat.le_succ_of_le (h1 e he)
    · obtain ⟨o, ho, rfl⟩ := List.mem_map.1 hk
      exact Nat.le_succ_of_le (h2 o ho)
  · obtain ⟨k', hk', rfl⟩ := List.mem_map.1 hk
    obtain ⟨e, he, rfl⟩ := List.mem_map.1 hk'
    have hz : (zb e.1).size = e.1.size + 1 := by unfold zb; exact ByteArray.size_append
    rw [hz]; exact Nat.succ_le_succ (h3 e he)

set_option maxRecDepth 100000 in
set_option maxHeartbeats 2000000 in
theorem frozen_law {W : World} {a : Option Addr} {c : Nat} {l : List Ao} {lo hi key : ByteArray} (h : RowO W a l) (hl : (l.length + 2) * 64 ≤ 140737488355328) (hc : l.length ≤ c) (hks : ∀ o ∈ l, o.key.size ≤ reachBytes) (hk : key.size ≤ reachBytes) :
    Calls Try.prog 4 #[viewV a l.length c lo hi key] W fun e w' => e = .returned (.bool true) ∧ Below W.heap.size W w' := by
  obtain ⟨W0, hW0⟩ : ∃ W0, W0 = W.alloc (.cells #[.slice a l.length c, .string lo, .string hi, .string key] 40) := ⟨_, rfl⟩
  have b0 : Below W.heap.size W W0 := by rw [hW0]; exact Below.al (Below.refl _ _) _
  have vb : W0.heap[W.heap.size]? = some (.cells #[.slice a l.length c, .string lo, .string hi, .string key] 40 (0, 0)) := by rw [hW0]; exact World.alloc_heap_new W _
  obtain ⟨B, hB⟩ : ∃ B, B = W.heap.size := ⟨_, rfl⟩
  rw [← hB] at vb
  have v0 : W0.cell? ⟨B, 0, none⟩ = some (.slice a l.length c) := cell_of_obj vb rfl
  have v1 : W0.cell? ⟨B, 1, none⟩ = some (.string lo) := cell_of_obj vb rfl
  have v2 : W0.cell? ⟨B, 2, none⟩ = some (.string hi) := cell_of_obj vb rfl
  have v3 : W0.cell? ⟨B, 3, none⟩ = some (.string key) := cell_of_obj vb rfl
  have hbl := bix_len l key
  have hS1 := bix_key hks hk
  have hl1 : ((bix l key).length + 1) * 16 ≤ 140737488355328 := Nat.le_trans (Nat.mul_le_mul (show (bix l key).length + 1 ≤ l.length + 2 by omega) (by decide : 16 ≤ 64)) hl
  have hR0 := h.later b0
  have BU : Hid (Calls Try.prog 17 #[viewV a l.length c lo hi key] W0 fun e w' => ∃ p, e = .returned (pt p) ∧ Hid (W0.heap.size ≤ p) ∧ Hid (Xi w' p (bix l key)) ∧ Hid (Below W0.heap.size W0 w')) :=
    (built_is (c := c) (lo := lo) (hi := hi) (key := key) hR0 hl).mono fun e w' ⟨p, he, h1, h2, h3⟩ => ⟨p, he, h1, h2, h3⟩
  obtain ⟨E1, hE1⟩ : ∃ E1, rangeX (bix l key) lo hi = E1 := ⟨_, rfl⟩
  have hE1s : ∀ e ∈ E1, e.1.size ≤ reachBytes := fun e he => hS1 e (by rw [← hE1] at he; exact (List.mem_filter.1 he).1)
  have hE1l : E1.length ≤ (bix l key).length := by rw [← hE1]; exact List.length_filter_le _ _
  have HUS := hid (U_size (l := bix l key) (ops := l) (E := E1) hS1 hks hE1s)
  have HUL := hid (U_len (l := bix l key) (ops := l) (E := E1) hE1l)
  have FZ1 : Hid (∀ w p, W0.heap.size ≤ p → Xi w p (bix l key) → Below W0.heap.size W0 w → Calls Try.prog 18 #[pt p, .agg #[.string lo, .string hi], .slice a l.length c] w fun e w' => e = .returned (.bool true) ∧ (∃ l', Hid (Xi w' p l') ∧ Hid (InU (Uof (bix l key) l E1) l')) ∧ Hid (Onl (fun b => b = p) w w')) := fun w p hp hx hb =>
    (frozen_is hx hR0 hc hb hp lo hi hl1 hl (by rw [hE1]; intro e he; have := hE1s e he; unfold reachBytes at this; omega)).mono fun e w' ⟨he, l', h1, h2, h3⟩ => ⟨he, ⟨l', h1, by rw [hE1] at h2; exact h2⟩, h3⟩
  have HB0 := hid b0
  have HR0 := hid hR0
  have HC := hid hc
  have HL := hid hl
  have HBL := hid hbl
  have HK := hid hk
  clear h hks hk b0 vb hbl hS1 hl1 hR0 hE1 hE1s hE1l hc
  go_enter Try.func4, Try.ntmps4
  go_wp2_with fail
  rw [← hW0, ← hB]
  have HBs : Hid (B < W0.heap.size) := by show _ < _; rw [hB, hW0]; simp
  have HBB : Hid (W.heap.size = B) := hB.symm
  clear hW0 hB
  go_wp2_with (first
    | (go_at_call 17; refine BU.out.mono ?_; clear BU; rintro e w1 ⟨p, rfl, hp, hx1, hb1⟩; have z0 := cell_later hb1.out v0; have z1 := cell_later hb1.out v1; have z2 := cell_later hb1.out v2; have z3 := cell_later hb1.out v3)
    | (go_at_call 18; refine (FZ1.out _ _ hp.out hx1.out hb1.out).mono ?_; rintro e w2 ⟨rfl, ⟨l', hx2, hu2⟩, ho2⟩; have hNB : Hid (¬ B = p) := Nat.ne_of_lt (Nat.lt_of_lt_of_le HBs.out hp.out); have m0 := ho2.out.cell hNB.out z0; have m3 := ho2.out.cell hNB.out z3))
  obtain ⟨l2, hl2e⟩ : ∃ l2, setX l' key 2 = l2 := ⟨_, rfl⟩
  have hr2 := hx2.out.rising
  have hr3 : Rising l2 := by rw [← hl2e]; exact setX_rising hr2 _ _
  have hlen2 : l2.length ≤ 3 * l.length + 3 := by
    have h1 := hu2.out.len hr2
    have h2 := HUL.out
    have h3 := HBL.out
    have h4 := setX_len l' key 2
    rw [hl2e] at h4
    omega
  have hmem : (key, (2 : Int)) ∈ l2 := by rw [← hl2e]; exact (setX_mem hr2 key 2 _).2 (.inl rfl)
  have hsz2 : ∀ e ∈ l2, e.1.size ≤ reachBytes + 1 := fun e he => by
    rw [← hl2e] at he
    rcases (setX_mem hr2 key 2 e).1 he with rfl | ⟨h1, _⟩
    · exact Nat.le_succ_of_le HK.out
    · exact HUS.out _ (hu2.out e h1)
  obtain ⟨LA, LB, hsplit, hA, hBB⟩ := parted hr3 hmem
  have hKF : rangeX l2 key ⟨#[]⟩ = (key, 2) :: LB := by rw [hsplit, mid_from hA hBB]
  have hl16 : (l2.length + 1) * 16 ≤ 140737488355328 := by have := HL.out; omega
  have hl60 : l'.length + 1 ≤ 1152921504606846976 := by have h1 := hu2.out.len hr2; have h2 := HUL.out; have h3 := HBL.out; have h4 := HL.out; omega
  have SE : Hid (Calls Try.prog 10 #[pt p, .string key, .int .i64 2] w2 fun e w' => ∃ u : Bool, e = .returned (.bool u) ∧ Hid (Xi w' p l2) ∧ Hid (Onl (fun b => b = p) w2 w') ∧ w'.cell? ⟨B, 3, none⟩ = some (.string key) ∧ w'.cell? ⟨B, 0, none⟩ = some (.slice a l.length c)) :=
    (set_is hx2.out key 2 hl60).mono fun e w' ⟨he, hx, ho⟩ => ⟨_, he, by rw [hl2e] at hx; exact hx, ho, ho.cell hNB.out m3, ho.cell hNB.out m0⟩
  obtain ⟨N, hN⟩ : ∃ N, LB.length = N := ⟨_, rfl⟩
  have KY : Hid (∀ w3, Xi w3 p l2 → Calls Try.prog 12 #[pt p, .agg #[.string key, .string ⟨#[]⟩]] w3 fun e w' => ∃ kb kc, e = .returned (.slice (some ⟨kb, 0, none⟩) (N + 1) kc) ∧ w'.cell? ⟨kb, 0, none⟩ = some (.string key) ∧ Hid (w3.heap.size ≤ kb) ∧ Hid (Below w3.heap.size w3 w')) := fun w3 hx =>
    (keys_wide hx key ⟨#[]⟩ hl16).mono fun e w' ⟨v, he, ho, hb⟩ => by
      rw [hKF] at ho
      have ho' : w'.ownsRow w3.heap.size 9 1 v (N + 1) (txs ((key, 2) :: LB)) := by have := ho; rw [List.length_cons, hN] at this; exact this
      obtain ⟨kb, kc, rfl⟩ := ownsRow_succ ho'
      refine ⟨kb, kc, he, ?_, (World.ownsRow.lt ho' kb rfl).1, hb⟩
      have := ho'.cellAt 0 (by omega)
      rw [this]; rfl
  have FZ2 : Hid (∀ w, Xi w p l2 → Below W0.heap.size W0 w → Calls Try.prog 18 #[pt p, .agg #[.string key, .string ⟨#[]⟩], .slice a l.length c] w fun e w' => e = .returned (.bool true) ∧ Onl (fun b => b = p) w w') := fun w hx hb =>
    (frozen_is hx HR0.out HC.out hb hp.out key ⟨#[]⟩ hl16 HL.out (fun e he => by have := hsz2 e (List.mem_filter.1 he).1; unfold reachBytes at this; omega)).mono fun e w' ⟨he, _, _, _, h3⟩ => ⟨he, h3⟩
  have HB2 : Hid (Below W0.heap.size W0 w2) := hb1.out.trans (ho2.out.below (fun k e => e ▸ hp.out) hb1.out.size)
  have hNl : N ≤ 140737488355328 := by have h1 : LB.length ≤ l2.length := by rw [hsplit]; simp; omega
                                       have := HL.out; omega
  clear FZ1 hl2e hr2 hr3 hlen2 hmem hsz2 hsplit hA hBB hKF hl16 hl60 hN HUL HUS HBL z0 z1 z2 z3 m0 m3
  go_wp2_with (first
    | (go_at_call 10; refine SE.out.mono ?_; rintro e w3 ⟨u3, rfl, hx3, ho3, n3, n0⟩)
    | (go_at_call 12; refine (KY.out _ hx3.out).mono ?_; rintro e w4 ⟨kb, kc, rfl, k0, hkb, hb4⟩))
  have n34 := cell_later hb4.out n3
  have n04 := cell_later hb4.out n0
  have HX4 : Hid (Xi w4 p l2) := hx3.out.later hb4.out
  have HB3 : Hid (Below W0.heap.size W0 w3) := HB2.out.trans (ho3.out.below (fun k e => e ▸ hp.out) HB2.out.size)
  have HB4 : Hid (Below W0.heap.size W0 w4) := Below.on HB3.out hb4.out
  have HNK : Hid (¬ kb = p) := Nat.ne_of_gt (Nat.lt_of_lt_of_le hx3.out.lt hkb.out)
  have hN0 : decide ((0 : Int) < (N : Int) + 1) = true := decide_eq_true (by omega)
  have q1 := toList_beq' (decide_eq_true (rfl : key = key))
  clear SE KY n3 n0 HB2 HB3 hx3 ho3 hb4 hkb
  go_region_held3 (fun w' => w'.cell? ⟨B, 3, none⟩ = some (.string key) ∧ w'.cell? ⟨B, 0, none⟩ = some (.slice a l.length c) ∧ w'.cell? ⟨kb, 0, none⟩ = some (.string key) ∧ Onl (fun b => b = p) w4 w')
    ((refine (fun (hO : Onl (fun b => b = p) w4 _) => ⟨hO.cell hNB.out n34, hO.cell hNB.out n04, hO.cell HNK.out k0, hO⟩) ?_; (repeat (first | assumption | exact Onl.refl _ _ | refine Onl.drew ?_))))
    (first
      | (go_at_call 18; refine (FZ2.out _ (HX4.out.later ?_) (Below.on HB4.out ?_)).mono ?_; ((repeat (first | exact Below.refl _ _ | assumption | refine Below.drew ?_ | refine Below.al ?_ _ | refine Below.setCell ?_ (by first | exact Nat.le_refl _ | (simp; omega) | (simp; done)) _ | refine Below.on ?_ (by assumption)))); ((repeat (first | exact Below.refl _ _ | assumption | refine Below.drew ?_ | refine Below.al ?_ _ | refine Below.setCell ?_ (by first | exact Nat.le_refl _ | (simp; omega) | (simp; done)) _ | refine Below.on ?_ (by assumption)))); rintro e w5 ⟨rfl, ho5⟩; have ho5 : Onl (fun b => b = p) w4 w5 := (Onl.of_below (by (repeat (first | exact Below.refl _ _ | assumption | refine Below.drew ?_ | refine Below.al ?_ _ | refine Below.setCell ?_ (by first | exact Nat.le_refl _ | (simp; omega) | (simp; done)) _ | refine Below.on ?_ (by assumption))))).trans ho5))
  go_wp2_with fail
  go_ret
  have hB5 : Below W0.heap.size W0 w5 := HB4.out.trans (ho5.below (fun k e => e ▸ hp.out) HB4.out.size)
  exact ⟨retB' (by simp), Below.on HB0.out hB5⟩

end Go.Proofs.Ytmhpakbkmddfeaa
