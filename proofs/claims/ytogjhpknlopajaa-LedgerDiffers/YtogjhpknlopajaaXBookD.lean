import Derived.Test.YtogjhpknlopajaaXBookZ
/- The book's differ, its first half: the lists. -/
namespace Go.Proofs.Ytogjhpknlopajaa.Lg
open Go.RowKit Go.Sort Go.Shelf Go.Lib Lk
set_option linter.unusedVariables false

theorem lit1 (w : World) (v : Value) (T : TypeId) : ∀ j y, ([v] : List Value)[j]? = some y → (w.alloc (.cells #[v] T)).cell? ((⟨w.heap.size, 0, none⟩ : Addr).add j) = some y := fun j y hj => by
  rw [Addr.add_lit, Nat.zero_add]
  match j, hj with
  | 0, hj =>
    refine cell_of_obj (MapKept.heap_alloc _ _).1 ?_
    simp at hj
    subst hj
    rfl
  | j + 1, hj => simp at hj
theorem lit2 (w : World) (v u : Value) (T : TypeId) : ∀ j y, ([v, u] : List Value)[j]? = some y → (w.alloc (.cells #[v, u] T)).cell? ((⟨w.heap.size, 0, none⟩ : Addr).add j) = some y := fun j y hj => by
  rw [Addr.add_lit, Nat.zero_add]
  match j, hj with
  | 0, hj => refine cell_of_obj (MapKept.heap_alloc _ _).1 ?_; simp at hj; subst hj; rfl
  | 1, hj => refine cell_of_obj (MapKept.heap_alloc _ _).1 ?_; simp at hj; subst hj; rfl
  | j + 2, hj => simp at hj
abbrev RowI (w : World) (a : Option Addr) (ns : List Int) : Prop := RowC 0 (fun i => [.int .i64 i]) 1 w a ns
def nthI (ns : List Int) (i : Nat) : Int := (ns[i]?).getD 0
theorem nthI_take {ns : List Int} {k : Nat} (h : k < ns.length) : ns.take (k + 1) = ns.take k ++ [nthI ns k] := by
  rw [List.take_succ_eq_append_getElem h]; simp [nthI, h]
/-- what the rest of differ is asked for -/
def DiffRest (w : World) (bk : Nat) (v0 v1 : Value) (P : Nat → Ld) (R : Nat → Rd) (Z : List (Option Pr)) (n : Nat) (al ad : Option Addr) (cl cd : Nat) (w1 : World) : Prop :=
  Hid (OwnP w.heap.size w1 (.slice al n cl) n (lds Z)) ∧ Hid (OwnQ w.heap.size w1 (.slice ad n cd) n (rds Z)) ∧ Hid (Below w.heap.size w w1)
set_option maxRecDepth 100000 in
set_option maxHeartbeats 8000000 in
theorem bookdiffer_is {w : World} {bk : Nat} {P : Nat → Ld} {R : Nat → Rd} {ap : Option Addr} {n c : Nat} {ns : List Int} (S : St w bk P R) (hrow : RowI w ap ns) (hn : ns.length = n) (hl : n + 1 ≤ 17592186044416) (hlen : (P 0).M.length + (P 1).M.length + (P 2).M.length ≤ 3518437208882) :
    Calls Try.prog 58 #[.pointer (some ⟨bk, 0, none⟩), .slice ap n c] w fun r w' => r = .returned (.bool true) ∧ Below w.heap.size w w' := by
  have HS := hid S
  have HR := hid hrow
  have HLN := hid hn
  have HLEN := hid hlen
  obtain ⟨ip, hip, hip0, hip1, hip2⟩ := info_of infoP
  obtain ⟨iq, hiq, hiq0, hiq1, hiq2⟩ := info_of infoQ
  obtain ⟨Z, hZ⟩ : ∃ Z, Z = ns.map (zOf P R) := ⟨_, rfl⟩
  have HZ := hid hZ
  have HZL : Hid (Z.length = n) := by show _ = _; rw [hZ, List.length_map, hn]
  clear S hrow hn hlen hZ
  go_enter Try.func58, Try.ntmps58
  go_wp2_with fail
  go_loopg [5, 6, 19] n (fun g s5 s6 s19 wr => ∃ (k : Nat) (al : Option Addr) (cl : Nat) (ad : Option Addr) (cd : Nat), k ≤ n ∧ g = n - k ∧ s19 = .int .i64 k ∧ s5 = .slice al k cl ∧ s6 = .slice ad k cd ∧ Hid (OwnP w.heap.size wr (.slice al k cl) k (lds (Z.take k))) ∧ Hid (OwnQ w.heap.size wr (.slice ad k cd) k (rds (Z.take k))) ∧ Hid (Below w.heap.size w wr))
  case atStart => exact ⟨0, none, 0, none, 0, by omega, by omega, rfl, rfl, rfl, ⟨rfl, .inl ⟨rfl, rfl⟩⟩, ⟨rfl, .inl ⟨rfl, rfl⟩⟩, Below.refl _ _⟩
  case round =>
    obtain ⟨k, al, cl, ad, cd, hk, rfl, rfl, rfl, rfl, HP, HQ, HB⟩ := hrel
    by_cases hlt : k < n
    · obtain ⟨b, off, eb, hc⟩ := RowC.later HR.out HB.out k (by rw [HLN.out]; exact hlt)
      have hk1 : (k : Int) < (n : Int) := by omega
      obtain ⟨i, hie⟩ : ∃ i, i = nthI ns k := ⟨_, rfl⟩
      have hie' : (ns[k]?).getD 0 = i := hie.symm
      rw [hie'] at hc
      have g0 : wr.cell? ⟨b, off + k, none⟩ = some (.int .i64 i) := by have := hc 0 _ rfl; simpa using this
      subst eb
      have hzk : Z.take (k + 1) = Z.take k ++ [zOf P R i] := by
        rw [HZ.out, ← List.map_take, nthI_take (by rw [HLN.out]; exact hlt), List.map_append, ← hie, List.map_take]; rfl
      have hE1 : lds (Z.take (k + 1)) = lds (Z.take k) ++ [(zOf P R i).map (·.1)] := by rw [hzk]; simp
      have hE2 : rds (Z.take (k + 1)) = rds (Z.take k) ++ [(zOf P R i).map (·.2)] := by rw [hzk]; simp
      have E1 := hid hE1
      have E2 := hid hE2
      obtain ⟨DP, hDP⟩ : ∃ DP, DP = lds (Z.take k) := ⟨_, rfl⟩
      obtain ⟨DQ, hDQ⟩ : ∃ DQ, DQ = rds (Z.take k) := ⟨_, rfl⟩
      rw [← hDP] at HP E1
      rw [← hDQ] at HQ E2
      clear hc hie hie' hzk hE1 hE2 hDP hDQ
      by_cases hin : 0 ≤ i ∧ i ≤ 2
      · obtain ⟨j, rfl⟩ : ∃ j : Nat, i = (j : Int) := ⟨i.toNat, by omega⟩
        have hj : j < 3 := by omega
        have hz : zOf P R (j : Int) = some (P j, R j) := by rw [zOf, if_pos hin]; simp
        rw [hz] at E1 E2
        have d1 : decide ((j : Int) < 0) = false := decide_eq_false (by omega)
        have d2 : decide ((2 : Int) < (j : Int)) = false := decide_eq_false (by omega)
        have hj1 : (j : Int) < 3 := by omega
        have hj0 : (0 : Int) ≤ (j : Int) := by omega
        have c1 := (HS.out.later HB.out).c1 hj
        have HCJ : Hid (∀ W, Below w.heap.size w W → W.cell? ⟨bk, 3 + j, none⟩ = some (.pointer (some ⟨(R j).q, 0, none⟩))) := fun W hb => (HS.out.later hb).c2 hj
        clear hin hz
        obtain ⟨w5, hw5⟩ : ∃ w5, w5 = (wr).alloc (.cells #[.pointer (some ⟨(P j).p, 0, none⟩)] 23) := ⟨_, rfl⟩
        have hbw5 : Below (wr).heap.size (wr) w5 := by rw [hw5]; exact Below.al (Below.refl _ _) _
        have HOw5 : Hid (OwnP w.heap.size w5 (.slice al (k) cl) (k) (DP)) := owns_keep HP.out fun g hg => hbw5.block g (HP.out.lt g hg).2
        have HCw5 : Hid (∀ i7 y7, ([.pointer (some ⟨(P j).p, 0, none⟩)] : List Value)[i7]? = some y7 → w5.cell? ((⟨(wr).heap.size, 0, none⟩ : Addr).add i7) = some y7) := by rw [hw5]; exact lit1 _ _ _
        have hsw5 : w.heap.size ≤ w5.heap.size := Nat.le_trans HB.out.size hbw5.size
        have HBw5 : Hid (Below w.heap.size w w5) := Below.on HB.out hbw5
        have HXw5 : Hid (OwnQ w.heap.size w5 (.slice ad k cd) (k) (DQ)) := owns_keep HQ.out fun g hg => hbw5.block g (HQ.out.lt g hg).2
        clear hbw5
        go_wp2_with (at_builtin; refine wpList_append_own _ rfl _ _ 70 rfl w.heap.size 23 ip (.pointer none) 1 8 Try.underlying70 hip hip0 hip1 hip2 rfl (by decide) (.slice al (k) cl) (k) ((DP).map ptv) rfl (by rw [← hw5]; exact HOw5.out) ⟨(wr).heap.size, 0, none⟩ 1 1 [.pointer (some ⟨(P j).p, 0, none⟩)] rfl rfl (by rw [← hw5]; exact HCw5.out) (by simp [Value.oneCell']) (by unfold maxLen; omega) (by omega) (by rw [← hw5]; exact hsw5) ?_)
        intro v2 w6 hown hgrow hnil
        rw [← hw5] at hgrow
        obtain ⟨al2, cl2, rfl⟩ := owns_slice hown
        have HBw6 : Hid (Below w.heap.size w w6) := Below.grown HBw5.out hgrow (by exact hsw5) (fun k hk => (HOw5.out.lt k hk).1)
        have HWw6 : Hid (OwnP w.heap.size w6 (.slice al2 (k + 1) cl2) (k + 1) (DP ++ [some (P j)])) := by
          refine hid ?_
          unfold OwnP
          rw [List.map_append]
          exact hown
        have HQw6 : Hid (OwnQ w.heap.size w6 (.slice ad k cd) (k) (DQ)) := owns_keep HXw5.out fun g hg => hgrow.block g (HXw5.out.lt g hg).2 (fun e => own_apart HXw5.out HOw5.out (by decide) hg e.symm)
        clear hown hgrow hnil hw5 HOw5 HCw5 hsw5 HXw5
        have c2 := HCJ.out _ HBw6.out
        clear c1
        obtain ⟨w7, hw7⟩ : ∃ w7, w7 = (w6).alloc (.cells #[.pointer (some ⟨(R j).q, 0, none⟩)] 109) := ⟨_, rfl⟩
        have hbw7 : Below (w6).heap.size (w6) w7 := by rw [hw7]; exact Below.al (Below.refl _ _) _
        have HOw7 : Hid (OwnQ w.heap.size w7 (.slice ad (k) cd) (k) (DQ)) := owns_keep HQw6.out fun g hg => hbw7.block g (HQw6.out.lt g hg).2
        have HCw7 : Hid (∀ i7 y7, ([.pointer (some ⟨(R j).q, 0, none⟩)] : List Value)[i7]? = some y7 → w7.cell? ((⟨(w6).heap.size, 0, none⟩ : Addr).add i7) = some y7) := by rw [hw7]; exact lit1 _ _ _
        have hsw7 : w.heap.size ≤ w7.heap.size := Nat.le_trans HBw6.out.size hbw7.size
        have HBw7 : Hid (Below w.heap.size w w7) := Below.on HBw6.out hbw7
        have HXw7 : Hid (OwnP w.heap.size w7 (.slice al2 (k + 1) cl2) (k + 1) (DP ++ [some (P j)])) := owns_keep HWw6.out fun g hg => hbw7.block g (HWw6.out.lt g hg).2
        clear hbw7
        go_wp2_with (at_builtin; refine wpList_append_own _ rfl _ _ 134 rfl w.heap.size 109 iq (.pointer none) 1 8 Try.underlying134 hiq hiq0 hiq1 hiq2 rfl (by decide) (.slice ad (k) cd) (k) ((DQ).map ptr) rfl (by rw [← hw7]; exact HOw7.out) ⟨(w6).heap.size, 0, none⟩ 1 1 [.pointer (some ⟨(R j).q, 0, none⟩)] rfl rfl (by rw [← hw7]; exact HCw7.out) (by simp [Value.oneCell']) (by unfold maxLen; omega) (by omega) (by rw [← hw7]; exact hsw7) ?_)
        intro v2 w8 hown hgrow hnil
        rw [← hw7] at hgrow
        obtain ⟨ad2, cd2, rfl⟩ := owns_slice hown
        have HBw8 : Hid (Below w.heap.size w w8) := Below.grown HBw7.out hgrow (by exact hsw7) (fun k hk => (HOw7.out.lt k hk).1)
        have HWw8 : Hid (OwnQ w.heap.size w8 (.slice ad2 (k + 1) cd2) (k + 1) (DQ ++ [some (R j)])) := by
          refine hid ?_
          unfold OwnQ
          rw [List.map_append]
          exact hown
        have HPw8 : Hid (OwnP w.heap.size w8 (.slice al2 (k + 1) cl2) (k + 1) (DP ++ [some (P j)])) := owns_keep HXw7.out fun g hg => hgrow.block g (HXw7.out.lt g hg).2 (fun e => own_apart HXw7.out HOw7.out (by decide) hg e.symm)
        clear hown hgrow hnil hw7 HOw7 HCw7 hsw7 HXw7
        have HP8 : Hid (OwnP w.heap.size w8 (.slice al2 (k + 1) cl2) (k + 1) (lds (Z.take (k + 1)))) := by rw [E1.out]; exact HPw8
        have HQ8 : Hid (OwnQ w.heap.size w8 (.slice ad2 (k + 1) cd2) (k + 1) (rds (Z.take (k + 1)))) := by rw [E2.out]; exact HWw8
        clear c2 d1 d2 g0
        go_wp2_with fail
        go_roundg (n - (k + 1))
        case measure => omega
        case rel => exact ⟨k + 1, al2, cl2, ad2, cd2, by omega, rfl, by go_num, rfl, rfl, HP8, HQ8, HBw8⟩
      · have hz : zOf P R i = none := by rw [zOf, if_neg hin]
        rw [hz] at E1 E2
        have STEP : Hid (∀ (Q : Prop), (decide (i < 0) = true → Q) → (decide (i < 0) = false → decide (2 < i) = true → Q) → Q) := fun Q h1 h2 => by
          by_cases hneg : i < 0
          · exact h1 (decide_eq_true hneg)
          · exact h2 (decide_eq_false hneg) (decide_eq_true (by omega))
        clear hin hz
        refine STEP.out _ (fun d1 => ?_) (fun d1 d2 => ?_)
        · clear STEP
          obtain ⟨w5, hw5⟩ : ∃ w5, w5 = (wr).alloc (.cells #[.pointer none] 23) := ⟨_, rfl⟩
          have hbw5 : Below (wr).heap.size (wr) w5 := by rw [hw5]; exact Below.al (Below.refl _ _) _
          have HOw5 : Hid (OwnP w.heap.size w5 (.slice al (k) cl) (k) (DP)) := owns_keep HP.out fun g hg => hbw5.block g (HP.out.lt g hg).2
          have HCw5 : Hid (∀ i7 y7, ([.pointer none] : List Value)[i7]? = some y7 → w5.cell? ((⟨(wr).heap.size, 0, none⟩ : Addr).add i7) = some y7) := by rw [hw5]; exact lit1 _ _ _
          have hsw5 : w.heap.size ≤ w5.heap.size := Nat.le_trans HB.out.size hbw5.size
          have HBw5 : Hid (Below w.heap.size w w5) := Below.on HB.out hbw5
          have HXw5 : Hid (OwnQ w.heap.size w5 (.slice ad k cd) (k) (DQ)) := owns_keep HQ.out fun g hg => hbw5.block g (HQ.out.lt g hg).2
          clear hbw5
          go_wp2_with (at_builtin; refine wpList_append_own _ rfl _ _ 70 rfl w.heap.size 23 ip (.pointer none) 1 8 Try.underlying70 hip hip0 hip1 hip2 rfl (by decide) (.slice al (k) cl) (k) ((DP).map ptv) rfl (by rw [← hw5]; exact HOw5.out) ⟨(wr).heap.size, 0, none⟩ 1 1 [.pointer none] rfl rfl (by rw [← hw5]; exact HCw5.out) (by simp [Value.oneCell']) (by unfold maxLen; omega) (by omega) (by rw [← hw5]; exact hsw5) ?_)
          intro v2 w6 hown hgrow hnil
          rw [← hw5] at hgrow
          obtain ⟨al2, cl2, rfl⟩ := owns_slice hown
          have HBw6 : Hid (Below w.heap.size w w6) := Below.grown HBw5.out hgrow (by exact hsw5) (fun k hk => (HOw5.out.lt k hk).1)
          have HWw6 : Hid (OwnP w.heap.size w6 (.slice al2 (k + 1) cl2) (k + 1) (DP ++ [none])) := by
            refine hid ?_
            unfold OwnP
            rw [List.map_append]
            exact hown
          have HQw6 : Hid (OwnQ w.heap.size w6 (.slice ad k cd) (k) (DQ)) := owns_keep HXw5.out fun g hg => hgrow.block g (HXw5.out.lt g hg).2 (fun e => own_apart HXw5.out HOw5.out (by decide) hg e.symm)
          clear hown hgrow hnil hw5 HOw5 HCw5 hsw5 HXw5
          obtain ⟨w7, hw7⟩ : ∃ w7, w7 = (w6).alloc (.cells #[.pointer none] 109) := ⟨_, rfl⟩
          have hbw7 : Below (w6).heap.size (w6) w7 := by rw [hw7]; exact Below.al (Below.refl _ _) _
          have HOw7 : Hid (OwnQ w.heap.size w7 (.slice ad (k) cd) (k) (DQ)) := owns_keep HQw6.out fun g hg => hbw7.block g (HQw6.out.lt g hg).2
          have HCw7 : Hid (∀ i7 y7, ([.pointer none] : List Value)[i7]? = some y7 → w7.cell? ((⟨(w6).heap.size, 0, none⟩ : Addr).add i7) = some y7) := by rw [hw7]; exact lit1 _ _ _
          have hsw7 : w.heap.size ≤ w7.heap.size := Nat.le_trans HBw6.out.size hbw7.size
          have HBw7 : Hid (Below w.heap.size w w7) := Below.on HBw6.out hbw7
          have HXw7 : Hid (OwnP w.heap.size w7 (.slice al2 (k + 1) cl2) (k + 1) (DP ++ [none])) := owns_keep HWw6.out fun g hg => hbw7.block g (HWw6.out.lt g hg).2
          clear hbw7
          go_wp2_with (at_builtin; refine wpList_append_own _ rfl _ _ 134 rfl w.heap.size 109 iq (.pointer none) 1 8 Try.underlying134 hiq hiq0 hiq1 hiq2 rfl (by decide) (.slice ad (k) cd) (k) ((DQ).map ptr) rfl (by rw [← hw7]; exact HOw7.out) ⟨(w6).heap.size, 0, none⟩ 1 1 [.pointer none] rfl rfl (by rw [← hw7]; exact HCw7.out) (by simp [Value.oneCell']) (by unfold maxLen; omega) (by omega) (by rw [← hw7]; exact hsw7) ?_)
          intro v2 w8 hown hgrow hnil
          rw [← hw7] at hgrow
          obtain ⟨ad2, cd2, rfl⟩ := owns_slice hown
          have HBw8 : Hid (Below w.heap.size w w8) := Below.grown HBw7.out hgrow (by exact hsw7) (fun k hk => (HOw7.out.lt k hk).1)
          have HWw8 : Hid (OwnQ w.heap.size w8 (.slice ad2 (k + 1) cd2) (k + 1) (DQ ++ [none])) := by
            refine hid ?_
            unfold OwnQ
            rw [List.map_append]
            exact hown
          have HPw8 : Hid (OwnP w.heap.size w8 (.slice al2 (k + 1) cl2) (k + 1) (DP ++ [none])) := owns_keep HXw7.out fun g hg => hgrow.block g (HXw7.out.lt g hg).2 (fun e => own_apart HXw7.out HOw7.out (by decide) hg e.symm)
          clear hown hgrow hnil hw7 HOw7 HCw7 hsw7 HXw7
          have HP8 : Hid (OwnP w.heap.size w8 (.slice al2 (k + 1) cl2) (k + 1) (lds (Z.take (k + 1)))) := by rw [E1.out]; exact HPw8
          have HQ8 : Hid (OwnQ w.heap.size w8 (.slice ad2 (k + 1) cd2) (k + 1) (rds (Z.take (k + 1)))) := by rw [E2.out]; exact HWw8
          clear d1 g0
          go_wp2_with fail
          go_roundg (n - (k + 1))
          case measure => omega
          case rel => exact ⟨k + 1, al2, cl2, ad2, cd2, by omega, rfl, by go_num, rfl, rfl, HP8, HQ8, HBw8⟩
        · skip
          obtain ⟨w5, hw5⟩ : ∃ w5, w5 = (wr).alloc (.cells #[.pointer none] 23) := ⟨_, rfl⟩
          have hbw5 : Below (wr).heap.size (wr) w5 := by rw [hw5]; exact Below.al (Below.refl _ _) _
          have HOw5 : Hid (OwnP w.heap.size w5 (.slice al (k) cl) (k) (DP)) := owns_keep HP.out fun g hg => hbw5.block g (HP.out.lt g hg).2
          have HCw5 : Hid (∀ i7 y7, ([.pointer none] : List Value)[i7]? = some y7 → w5.cell? ((⟨(wr).heap.size, 0, none⟩ : Addr).add i7) = some y7) := by rw [hw5]; exact lit1 _ _ _
          have hsw5 : w.heap.size ≤ w5.heap.size := Nat.le_trans HB.out.size hbw5.size
          have HBw5 : Hid (Below w.heap.size w w5) := Below.on HB.out hbw5
          have HXw5 : Hid (OwnQ w.heap.size w5 (.slice ad k cd) (k) (DQ)) := owns_keep HQ.out fun g hg => hbw5.block g (HQ.out.lt g hg).2
          clear hbw5
          go_wp2_with (at_builtin; refine wpList_append_own _ rfl _ _ 70 rfl w.heap.size 23 ip (.pointer none) 1 8 Try.underlying70 hip hip0 hip1 hip2 rfl (by decide) (.slice al (k) cl) (k) ((DP).map ptv) rfl (by rw [← hw5]; exact HOw5.out) ⟨(wr).heap.size, 0, none⟩ 1 1 [.pointer none] rfl rfl (by rw [← hw5]; exact HCw5.out) (by simp [Value.oneCell']) (by unfold maxLen; omega) (by omega) (by rw [← hw5]; exact hsw5) ?_)
          intro v2 w6 hown hgrow hnil
          rw [← hw5] at hgrow
          obtain ⟨al2, cl2, rfl⟩ := owns_slice hown
          have HBw6 : Hid (Below w.heap.size w w6) := Below.grown HBw5.out hgrow (by exact hsw5) (fun k hk => (HOw5.out.lt k hk).1)
          have HWw6 : Hid (OwnP w.heap.size w6 (.slice al2 (k + 1) cl2) (k + 1) (DP ++ [none])) := by
            refine hid ?_
            unfold OwnP
            rw [List.map_append]
            exact hown
          have HQw6 : Hid (OwnQ w.heap.size w6 (.slice ad k cd) (k) (DQ)) := owns_keep HXw5.out fun g hg => hgrow.block g (HXw5.out.lt g hg).2 (fun e => own_apart HXw5.out HOw5.out (by decide) hg e.symm)
          clear hown hgrow hnil hw5 HOw5 HCw5 hsw5 HXw5
          obtain ⟨w7, hw7⟩ : ∃ w7, w7 = (w6).alloc (.cells #[.pointer none] 109) := ⟨_, rfl⟩
          have hbw7 : Below (w6).heap.size (w6) w7 := by rw [hw7]; exact Below.al (Below.refl _ _) _
          have HOw7 : Hid (OwnQ w.heap.size w7 (.slice ad (k) cd) (k) (DQ)) := owns_keep HQw6.out fun g hg => hbw7.block g (HQw6.out.lt g hg).2
          have HCw7 : Hid (∀ i7 y7, ([.pointer none] : List Value)[i7]? = some y7 → w7.cell? ((⟨(w6).heap.size, 0, none⟩ : Addr).add i7) = some y7) := by rw [hw7]; exact lit1 _ _ _
          have hsw7 : w.heap.size ≤ w7.heap.size := Nat.le_trans HBw6.out.size hbw7.size
          have HBw7 : Hid (Below w.heap.size w w7) := Below.on HBw6.out hbw7
          have HXw7 : Hid (OwnP w.heap.size w7 (.slice al2 (k + 1) cl2) (k + 1) (DP ++ [none])) := owns_keep HWw6.out fun g hg => hbw7.block g (HWw6.out.lt g hg).2
          clear hbw7
          go_wp2_with (at_builtin; refine wpList_append_own _ rfl _ _ 134 rfl w.heap.size 109 iq (.pointer none) 1 8 Try.underlying134 hiq hiq0 hiq1 hiq2 rfl (by decide) (.slice ad (k) cd) (k) ((DQ).map ptr) rfl (by rw [← hw7]; exact HOw7.out) ⟨(w6).heap.size, 0, none⟩ 1 1 [.pointer none] rfl rfl (by rw [← hw7]; exact HCw7.out) (by simp [Value.oneCell']) (by unfold maxLen; omega) (by omega) (by rw [← hw7]; exact hsw7) ?_)
          intro v2 w8 hown hgrow hnil
          rw [← hw7] at hgrow
          obtain ⟨ad2, cd2, rfl⟩ := owns_slice hown
          have HBw8 : Hid (Below w.heap.size w w8) := Below.grown HBw7.out hgrow (by exact hsw7) (fun k hk => (HOw7.out.lt k hk).1)
          have HWw8 : Hid (OwnQ w.heap.size w8 (.slice ad2 (k + 1) cd2) (k + 1) (DQ ++ [none])) := by
            refine hid ?_
            unfold OwnQ
            rw [List.map_append]
            exact hown
          have HPw8 : Hid (OwnP w.heap.size w8 (.slice al2 (k + 1) cl2) (k + 1) (DP ++ [none])) := owns_keep HXw7.out fun g hg => hgrow.block g (HXw7.out.lt g hg).2 (fun e => own_apart HXw7.out HOw7.out (by decide) hg e.symm)
          clear hown hgrow hnil hw7 HOw7 HCw7 hsw7 HXw7
          have HP8 : Hid (OwnP w.heap.size w8 (.slice al2 (k + 1) cl2) (k + 1) (lds (Z.take (k + 1)))) := by rw [E1.out]; exact HPw8
          have HQ8 : Hid (OwnQ w.heap.size w8 (.slice ad2 (k + 1) cd2) (k + 1) (rds (Z.take (k + 1)))) := by rw [E2.out]; exact HWw8
          clear d1 d2 g0
          go_wp2_with fail
          go_roundg (n - (k + 1))
          case measure => omega
          case rel => exact ⟨k + 1, al2, cl2, ad2, cd2, by omega, rfl, by go_num, rfl, rfl, HP8, HQ8, HBw8⟩
    · obtain rfl : k = n := by omega
      have hzt : Z.take k = Z := by rw [← HZL.out]; exact List.take_length
      rw [hzt] at HP HQ
      clear hzt
      obtain ⟨DP, hDP⟩ : ∃ DP, DP = lds Z := ⟨_, rfl⟩
      rw [← hDP] at HP
      have HDP := hid hDP
      have NEW : Hid (Calls Try.prog 9 #[] wr fun e w' => ∃ sp, e = .returned (.pointer (some ⟨sp, 0, none⟩)) ∧ Below wr.heap.size wr w') := (new_is wr).mono fun r w' h => ⟨_, h.1, h.2.2⟩
      have HZK : Hid (Zok P R Z) := by rw [HZ.out]; exact zok_of P R ns
      have hn1 : decide ((k : Int) < (k : Int)) = false := decide_eq_false (by omega)
      clear hDP HR HLN HZ
      go_wp2_with fail
      clear hn1
      refine NEW.out.mono ?_
      rintro r wA ⟨sp, rfl, hbA⟩
      have HBA : Hid (Below w.heap.size w wA) := Below.on HB.out hbA
      have HPA : Hid (OwnP w.heap.size wA (.slice al k cl) k DP) := own_below HP.out hbA
      have HQA : Hid (OwnQ w.heap.size wA (.slice ad k cd) k (rds Z)) := own_below HQ.out hbA
      clear NEW hbA HP HQ HB
      obtain ⟨w5, hw5⟩ : ∃ w5, w5 = (wA).alloc (.cells #[.pointer (some ⟨sp, 0, none⟩)] 23) := ⟨_, rfl⟩
      have hbw5 : Below (wA).heap.size (wA) w5 := by rw [hw5]; exact Below.al (Below.refl _ _) _
      have HOw5 : Hid (OwnP w.heap.size w5 (.slice al (k) cl) (k) (DP)) := owns_keep HPA.out fun g hg => hbw5.block g (HPA.out.lt g hg).2
      have HCw5 : Hid (∀ i7 y7, ([.pointer (some ⟨sp, 0, none⟩)] : List Value)[i7]? = some y7 → w5.cell? ((⟨(wA).heap.size, 0, none⟩ : Addr).add i7) = some y7) := by rw [hw5]; exact lit1 _ _ _
      have hsw5 : w.heap.size ≤ w5.heap.size := Nat.le_trans HBA.out.size hbw5.size
      have HBw5 : Hid (Below w.heap.size w w5) := Below.on HBA.out hbw5
      have HXw5 : Hid (OwnQ w.heap.size w5 (.slice ad k cd) (k) (rds Z)) := owns_keep HQA.out fun g hg => hbw5.block g (HQA.out.lt g hg).2
      clear hbw5
      go_wp2_with (at_builtin; refine wpList_append_own _ rfl _ _ 70 rfl w.heap.size 23 ip (.pointer none) 1 8 Try.underlying70 hip hip0 hip1 hip2 rfl (by decide) (.slice al (k) cl) (k) ((DP).map ptv) rfl (by rw [← hw5]; exact HOw5.out) ⟨(wA).heap.size, 0, none⟩ 1 1 [.pointer (some ⟨sp, 0, none⟩)] rfl rfl (by rw [← hw5]; exact HCw5.out) (by simp [Value.oneCell']) (by unfold maxLen; omega) (by omega) (by rw [← hw5]; exact hsw5) ?_)
      intro v2 w6 hown hgrow hnil
      rw [← hw5] at hgrow
      obtain ⟨al2, cl2, rfl⟩ := owns_slice hown
      have HBw6 : Hid (Below w.heap.size w w6) := Below.grown HBw5.out hgrow (by exact hsw5) (fun k hk => (HOw5.out.lt k hk).1)
      have HWw6 : Hid (OwnP w.heap.size w6 (.slice al2 (k + 1) cl2) (k + 1) (DP ++ [some ⟨sp, none, []⟩])) := by
        refine hid ?_
        unfold OwnP
        rw [List.map_append]
        exact hown
      have HQ6 : Hid (OwnQ w.heap.size w6 (.slice ad k cd) (k) (rds Z)) := owns_keep HXw5.out fun g hg => hgrow.block g (HXw5.out.lt g hg).2 (fun e => own_apart HXw5.out HOw5.out (by decide) hg e.symm)
      clear hown hgrow hnil hw5 HOw5 HCw5 hsw5 HXw5
      obtain ⟨g, rfl, hgb, hcap, hgs, hgc⟩ := own_head HWw6.out (by omega)
      have hcap0 : (k : Int) ≤ (cl2 : Int) := by omega
      have HCP1 : Hid (((k + 1 : Nat) : Int) ≤ (cl2 : Int)) := hid (by omega)
      have HWP : Hid (OwnP w.heap.size w6 (.slice (some ⟨g, 0, none⟩) (k + 1) cl2) (k + 1) (lds Z ++ [some ⟨sp, none, []⟩])) := by rw [← HDP.out]; exact HWw6
      have HGC : Hid (w6.cell? ⟨g, k, none⟩ = some (.pointer (some ⟨sp, 0, none⟩))) := hgc k _ (by rw [HDP.out, List.map_append, List.getElem?_append_right (by simp [HZL.out])]; simp [HZL.out])
      have HRP : Hid (RowC none (fun d => [ptv d]) 1 w6 (some ⟨g, 0, none⟩) (lds Z)) := by
        refine hid (rowP (n' := 0) (xs := [ptv (some ⟨sp, none, []⟩)]) (n := k + 1) (c := cl2) (B := w.heap.size) ?_ (by simp [HZL.out]))
        have h := HWP.out
        unfold OwnP at h
        rw [List.map_append] at h
        exact h
      have HRQ : Hid (RowC none (fun d => [ptr d]) 1 w6 ad (rds Z)) := hid (rowQ HQ6.out (by simp [HZL.out]))
      have HS6 : Hid (St w6 bk P R) := HS.out.later HBw6.out
      have hl6 : k ≤ 9223372036854775807 := by omega
      have WANT := hid (zrdiffer (c := cd) HS6.out HZK.out HRQ.out HZL.out hl6 HLEN.out)
      clear HPA HQA HBA hgc HWw6 hcap HDP hgs
      go_wp2_with fail
      refine WANT.out.mono ?_
      rintro r w7 ⟨aw, nw, cw, X, rfl, HXL, HOW, HAN, HB7⟩
      have HNW : Hid (nw ≤ 3518437208882) := by refine hid ?_; rw [← HXL.out]; exact Nat.le_trans (HAN.out.len HZK.out) HLEN.out
      have ONE := hid (zdiffer_at (c := cl2) (HS6.out.later HB7.out) HZK.out (RowC.later HRP.out HB7.out) HZL.out hl6 HLEN.out HAN.out HXL.out)
      clear WANT hcap0
      go_wp2_with fail
      refine ONE.out.mono ?_
      rintro r w8 ⟨a1, c1, rfl, HO1, HB8⟩
      have HB68 : Hid (Below w6.heap.size w6 w8) := Below.on HB7.out HB8.out
      have TWO := hid (zdiffer_at (c := cl2) (HS6.out.later HB68.out) HZK.out (RowC.later HRP.out HB68.out) HZL.out hl6 HLEN.out HAN.out HXL.out)
      clear ONE
      go_wp2_with fail
      refine TWO.out.mono ?_
      rintro r w9 ⟨a2, c2, rfl, HO2, HB9⟩
      have HB69 : Hid (Below w6.heap.size w6 w9) := Below.on HB68.out HB9.out
      have HXW9 : Hid (OwnX w6.heap.size w9 (.slice aw nw cw) nw X) := own_below (own_below HOW.out HB8.out) HB9.out
      have HX19 : Hid (OwnX w7.heap.size w9 (.slice a1 nw c1) nw X) := own_below HO1.out HB9.out
      have hnw : nw ≤ 9223372036854775807 := own_le HO1.out
      have SAME1 := hid (sameTxns_is (c := c1) (c' := cw) (own_rowX HX19.out HXL.out) (own_rowX HXW9.out HXL.out) HXL.out hnw)
      clear TWO
      go_wp2_with fail
      refine SAME1.out.mono ?_
      rintro r w10 ⟨rfl, hb10⟩
      have HB10 := hid hb10
      have SAME2 := hid (sameTxns_is (c := c2) (c' := cw) (own_rowX (own_below HO2.out hb10) HXL.out) (own_rowX (own_below HXW9.out hb10) HXL.out) HXL.out hnw)
      clear SAME1 hb10
      go_wp2_with fail
      refine SAME2.out.mono ?_
      rintro r w11 ⟨rfl, hb11⟩
      have HB911 : Hid (Below w9.heap.size w9 w11) := Below.on HB10.out hb11
      have HXW : Hid (OwnX w6.heap.size w11 (.slice aw nw cw) nw X) := own_below HXW9.out HB911.out
      have HX1 : Hid (OwnX w7.heap.size w11 (.slice a1 nw c1) nw X) := own_below HX19.out HB911.out
      have HX2 : Hid (OwnX w8.heap.size w11 (.slice a2 nw c2) nw X) := own_below HO2.out HB911.out
      have HB611 : Hid (Below w6.heap.size w6 w11) := Below.on HB69.out HB911.out
      have HAP : Hid (∀ b, (Value.slice a2 nw c2).ownBlock = some b → w8.heap.size ≤ b ∧ (Value.slice a1 nw c1).ownBlock ≠ some b ∧ (Value.slice aw nw cw).ownBlock ≠ some b) := fun b hb => by
        have h2 := (HX2.out.lt b hb).1
        refine ⟨h2, fun h => ?_, fun h => ?_⟩
        · have := (HO1.out.lt b h).2; omega
        · have := (HOW.out.lt b h).2; have := HB8.out.size; omega
      have HB8W : Hid (w8.heap.size ≤ w11.heap.size) := hid (Nat.le_trans HB9.out.size HB911.out.size)
      clear SAME2 hb11 HB10 HXW9 HX19 HO1 HO2 HOW HB7 HB69 HB911
      go_wp2_with fail
      go_loopg [87] nw (fun g s87 wz => ∃ (j : Nat) (xs : List Value), j ≤ nw ∧ g = nw - j ∧ s87 = .int .i64 j ∧ Hid (wz.ownsRow w8.heap.size 27 2 (.slice a2 nw c2) nw xs) ∧ Hid (Onl (fun b => (Value.slice a2 nw c2).ownBlock = some b) w11 wz))
      case atStart => exact ⟨0, X.flatMap tcs, by omega, by omega, rfl, HX2, Onl.refl _ _⟩
      case round =>
        obtain ⟨j, xs, hj, rfl, rfl, HZO, HON⟩ := hrel
        by_cases hjt : j < nw
        · obtain ⟨g2, rfl, hg2b, hg2c, hg2s, hg2⟩ := own_head HZO.out (by omega)
          have hxl : xs.length = nw * 2 := HZO.out.1
          have x0 := hg2 (j * 2) _ (List.getElem?_eq_getElem (by omega))
          have x1 := hg2 (j * 2 + 1) _ (List.getElem?_eq_getElem (by omega))
          have f0 := HZO.out.frozenAt (j * 2)
          have f1 := HZO.out.frozenAt (j * 2 + 1)
          have hj1 : (j : Int) < (nw : Int) := by omega
          have HN1 : Hid (∀ v, ((wr.setCell ⟨g2, j * 2, none⟩ (.int .u32 77)).setCell ⟨g2, j * 2 + 1, none⟩ v).ownsRow w8.heap.size 27 2 (.slice (some ⟨g2, 0, none⟩) nw c2) nw ((xs.set (j * 2) (.int .u32 77)).set (j * 2 + 1) v)) := fun v => ((HZO.out.stored (j * 2) (.int .u32 77)).1.stored (j * 2 + 1) v).1
          have HN2 : Hid (∀ v, Onl (fun b => (Value.slice (some ⟨g2, 0, none⟩) nw c2).ownBlock = some b) w11 ((wr.setCell ⟨g2, j * 2, none⟩ (.int .u32 77)).setCell ⟨g2, j * 2 + 1, none⟩ v)) := fun v => (HON.out.set (p := g2) rfl _ _).set (p := g2) rfl _ _
          clear hg2
          go_wp2_with fail
          go_roundg (nw - (j + 1))
          case measure => omega
          case rel => exact ⟨j + 1, _, by omega, rfl, by go_num, HN1.out _, HN2.out _⟩
        · obtain rfl : j = nw := by omega
          obtain ⟨wz, hwz⟩ : ∃ wz, wz = wr.alloc (.cells #[.int .u32 78, .int .u32 0] 27) := ⟨_, rfl⟩
          have hbz : Below wr.heap.size wr wz := by rw [hwz]; exact Below.al (Below.refl _ _) _
          have HZZ : Hid (wz.ownsRow w8.heap.size 27 2 (.slice a2 j c2) j xs) := own_below HZO.out hbz
          have HON2 : Hid (Onl (fun b => (Value.slice a2 j c2).ownBlock = some b) w11 wz) := HON.out.on hbz
          have HCZ : Hid (∀ i7 y7, ([.int .u32 78, .int .u32 0] : List Value)[i7]? = some y7 → wz.cell? ((⟨wr.heap.size, 0, none⟩ : Addr).add i7) = some y7) := by rw [hwz]; exact lit2 _ _ _ _
          have hnw2 := HNW.out
          have hs8 : w8.heap.size ≤ wz.heap.size := Nat.le_trans (Nat.le_trans HB8W.out HON.out.size) hbz.size
          obtain ⟨ix, hix, hix0, hix1, hix2⟩ := info_of infoTx
          have hn1 : decide ((j : Int) < (j : Int)) = false := decide_eq_false (by omega)
          clear hbz
          go_wp2_with (at_builtin; refine wpList_append_own _ rfl _ _ 45 rfl w8.heap.size 27 ix (ixv (0, 0)) 2 8 Try.underlying45 hix hix0 hix1 hix2 rfl (by decide) (.slice a2 j c2) j xs rfl (by rw [← hwz]; exact HZZ.out) ⟨wr.heap.size, 0, none⟩ 1 1 [.int .u32 78, .int .u32 0] rfl rfl (by rw [← hwz]; exact HCZ.out) (by simp [Value.oneCell']) (by unfold maxLen; omega) (by omega) (by rw [← hwz]; exact hs8) ?_)
          intro v2 w13 hown hgrow hnil
          rw [← hwz] at hgrow
          obtain ⟨a3, c3, rfl⟩ := owns_slice hown
          have HON3 : Hid (Onl (fun b => (Value.slice a2 j c2).ownBlock = some b) w11 w13) := HON2.out.trans (grown_onl hgrow)
          have HB13 : Hid (Below w6.heap.size w6 w13) := HB611.out.trans (HON3.out.below (fun b hb => Nat.le_trans HB68.out.size (HAP.out b hb).1) HB611.out.size)
          have HXW3 : Hid (OwnX w6.heap.size w13 (.slice aw j cw) j X) := owns_onl HXW.out HON3.out (fun g hg h => (HAP.out g h).2.2 hg)
          have HX13 : Hid (OwnX w7.heap.size w13 (.slice a1 j c1) j X) := owns_onl HX1.out HON3.out (fun g hg h => (HAP.out g h).2.1 hg)
          have SAME3 := hid (sameTxns_is (c := c1) (c' := cw) (own_rowX HX13.out HXL.out) (own_rowX HXW3.out HXL.out) HXL.out hnw)
          have hcap1 : (k : Int) + 1 ≤ (cl2 : Int) := by have := HCP1.out; omega
          clear hown hgrow hnil hwz hs8 HCZ HZZ HZO HON HON2 hn1 hl6 hj hnw hix hix0 hix1 hix2 hip hip0 hip1 hip2 hiq hiq0 hiq1 hiq2
          go_wp2_with fail
          refine SAME3.out.mono ?_
          rintro r w14 ⟨rfl, hb14⟩
          have HB14 : Hid (Below w6.heap.size w6 w14) := Below.on HB13.out hb14
          have HXW4 : Hid (OwnX w6.heap.size w14 (.slice aw j cw) j X) := own_below HXW3.out hb14
          have HX14 : Hid (OwnX w7.heap.size w14 (.slice a1 j c1) j X) := own_below HX13.out hb14
          have gk := cell_later HB14.out HGC.out
          have hk7 : (k : Int) < ((k + 1 : Nat) : Int) := by omega
          have hk8 : (k : Int) < (k : Int) + 1 := by omega
          have UNT := hid (untouched_is (c := cl2) (c' := cd) (RowC.later HRP.out HB14.out) (RowC.later HRQ.out HB14.out) HZL.out (by omega) (fun z hz => ⟨HZK.out.ok (HS6.out.later HB14.out) hz, HZK.out.len hz HLEN.out⟩))
          clear hb14 SAME3 HXW3 HX13 HB13 HON3
          go_wp2_with fail
          refine UNT.out.mono ?_
          rintro r w15 ⟨rfl, hb15⟩
          have HB15 : Hid (Below w6.heap.size w6 w15) := Below.on HB14.out hb15
          have HXW5 : Hid (OwnX w6.heap.size w15 (.slice aw j cw) j X) := own_below HXW4.out hb15
          have HX15 : Hid (OwnX w7.heap.size w15 (.slice a1 j c1) j X) := own_below HX14.out hb15
          clear hb15 UNT HB14 HXW4 HX14 gk hk7 hk8
          by_cases hk0 : 0 < k
          · obtain ⟨gd, rfl, hgdb, hgdc, hgds, hgd⟩ := own_head HQ6.out hk0
            have h0k : (0 : Int) < (k : Int) := by omega
            have HP5 : Hid (OwnP w.heap.size w15 (.slice (some ⟨g, 0, none⟩) (k + 1) cl2) (k + 1) (lds Z ++ [some ⟨sp, none, []⟩])) := own_below HWP.out HB15.out
            have HQ5 : Hid (OwnQ w.heap.size w15 (.slice (some ⟨gd, 0, none⟩) k cd) k (rds Z)) := own_below HQ6.out HB15.out
            have hne : gd ≠ g := fun e => own_apart HP5.out HQ5.out (by decide) (g := g) rfl (by rw [e]; rfl)
            obtain ⟨g', eg, _, _, _, hg15⟩ := own_head HP5.out (by omega)
            obtain ⟨d', ed, _, _, _, hd15⟩ := own_head HQ5.out hk0
            injection eg with eg; injection eg with eg; subst eg
            injection ed with ed; injection ed with ed; subst ed
            have x0 := hg15 0 _ (List.getElem?_eq_getElem (by simp))
            have y0 := hd15 0 _ (List.getElem?_eq_getElem (by simp [HZL.out]; exact hk0))
            have f0 := HP5.out.frozenAt 0
            have f1 := HQ5.out.frozenAt 0
            obtain ⟨w16, hw16⟩ : ∃ w16, w16 = (w15.setCell ⟨g, 0, none⟩ (.pointer none)).setCell ⟨gd, 0, none⟩ (.pointer none) := ⟨_, rfl⟩
            have HON6 : Hid (Onl (fun b => b = g ∨ b = gd) w15 w16) := by rw [hw16]; exact ((Onl.refl _ _).set (p := g) (.inl rfl) _ _).set (p := gd) (.inr rfl) _ _
            have HP6 : Hid (w16.ownsRow w.heap.size 23 1 (.slice (some ⟨g, 0, none⟩) (k + 1) cl2) (k + 1) ((lds (headN Z)).map ptv ++ [ptv (some ⟨sp, none, []⟩)])) := by
              have h := (HP5.out.stored 0 (.pointer none)).1
              rw [List.map_append] at h
              have e : ((lds Z).map ptv ++ [some (⟨sp, none, []⟩ : Ld)].map ptv).set 0 (.pointer none) = (lds (headN Z)).map ptv ++ [ptv (some ⟨sp, none, []⟩)] := headN_lds (by rw [HZL.out]; exact hk0) _
              rw [e] at h
              rw [hw16]
              refine hid (owns_keep h fun b hb => Below.heap_setCell _ _ _ _ ?_)
              have hb : g = b := by injection hb
              subst hb
              exact Ne.symm hne
            have HQ7 : Hid (OwnQ w.heap.size w16 (.slice (some ⟨gd, 0, none⟩) k cd) k (rds (headN Z))) := by
              have h : (w15.setCell ⟨g, 0, none⟩ (.pointer none)).ownsRow w.heap.size 109 1 (.slice (some ⟨gd, 0, none⟩) k cd) k ((rds Z).map ptr) := owns_keep HQ5.out fun b hb => Below.heap_setCell _ _ _ _ (by
                have hb : gd = b := by injection hb
                subst hb
                exact hne)
              have h := (h.stored 0 (.pointer none)).1
              rw [headN_rds (by rw [HZL.out]; exact hk0)] at h
              rw [hw16]; exact h
            have HRP6 := hid (rowP (n' := 0) HP6.out (by simp [headN_len, HZL.out]))
            have HRQ6 := hid (rowQ HQ7.out (by simp [headN_len, HZL.out]))
            have HB5 : Hid (Below w.heap.size w w15) := Below.on HBw6.out HB15.out
            have HB16 : Hid (Below w.heap.size w w16) := HB5.out.trans (HON6.out.below (fun b hb => by rcases hb with rfl | rfl <;> assumption) HB5.out.size)
            have HXW6 : Hid (OwnX w6.heap.size w16 (.slice aw j cw) j X) := owns_onl HXW5.out HON6.out (fun b hb h => by
              rcases h with rfl | rfl
              · exact own_apart HXW5.out HP5.out (by decide) hb rfl
              · exact own_apart HXW5.out HQ5.out (by decide) hb rfl)
            have HX16 : Hid (OwnX w7.heap.size w16 (.slice a1 j c1) j X) := owns_onl HX15.out HON6.out (fun b hb h => by
              rcases h with rfl | rfl
              · exact own_apart HX15.out HP5.out (by decide) hb rfl
              · exact own_apart HX15.out HQ5.out (by decide) hb rfl)
            have HS16 := hid (HS.out.later HB16.out)
            have LAST := hid (zdiffer (n := k) (c := cl2) HS16.out (headN_ok HZK.out) HRP6.out (by rw [headN_len]; exact HZL.out) (by omega) HLEN.out)
            have SEC : Hid (∀ (W : World) (Y : List Ix) (n : Nat), Below w16.heap.size w16 W → Ans (headN Z) Y → Y.length = n → Calls Try.prog 85 #[.slice (some ⟨gd, 0, none⟩) k cd] W fun r w' => ∃ (a' : Option Addr) (c' : Nat), r = .returned (.slice a' n c') ∧ Hid (OwnX W.heap.size w' (.slice a' n c') n Y) ∧ Hid (Below W.heap.size W w')) := fun W Y n hb hA hn => zrdiffer_at (c := cd) (HS16.out.later hb) (headN_ok HZK.out) (RowC.later HRQ6.out hb) (by rw [headN_len]; exact HZL.out) (by omega) HLEN.out hA hn
            clear hg15 hd15 hgd HON6
            go_wp2_with fail
            rw [← hw16]
            clear hw16 x0 y0 f0 f1
            refine LAST.out.mono ?_
            rintro r w17 ⟨a4, n4, c4, Y, rfl, HYL, HOY, HYA, HB17⟩
            have SEC1 := hid (SEC.out _ _ _ HB17.out HYA.out HYL.out)
            clear LAST SEC
            go_wp2_with fail
            refine SEC1.out.mono ?_
            rintro r w18 ⟨a5, c5, rfl, HO5, HB18⟩
            have SM1 := hid (sameTxns_is (c := c4) (c' := c5) (own_rowX (own_below HOY.out HB18.out) HYL.out) (own_rowX HO5.out HYL.out) HYL.out (own_le HO5.out))
            have HB168 : Hid (Below w16.heap.size w16 w18) := Below.on HB17.out HB18.out
            clear SEC1
            go_wp2_with fail
            refine SM1.out.mono ?_
            rintro r w19 ⟨rfl, hb19⟩
            have HB169 : Hid (Below w16.heap.size w16 w19) := Below.on HB168.out hb19
            have SM2 := hid (sameTxns_is (c := c1) (c' := cw) (own_rowX (own_below HX16.out HB169.out) HXL.out) (own_rowX (own_below HXW6.out HB169.out) HXL.out) HXL.out (own_le HX16.out))
            clear SM1 hb19
            go_wp2_with fail
            refine SM2.out.mono ?_
            rintro r w20 ⟨rfl, hb20⟩
            have HB20 : Hid (Below w.heap.size w w20) := Below.on HB16.out (Below.on HB169.out hb20)
            clear SM2 hb20
            go_wp2_with fail
            go_ret
            exact ⟨by simp, HB20.out⟩
          · have HB16 : Hid (Below w.heap.size w w15) := Below.on HBw6.out HB15.out
            have HS16 := hid (HS.out.later HB16.out)
            have LAST := hid (zdiffer (c := cl2) HS16.out HZK.out (RowC.later HRP.out HB15.out) HZL.out (by omega) HLEN.out)
            have SEC : Hid (∀ (W : World) (Y : List Ix) (n : Nat), Below w15.heap.size w15 W → Ans Z Y → Y.length = n → Calls Try.prog 85 #[.slice ad k cd] W fun r w' => ∃ (a' : Option Addr) (c' : Nat), r = .returned (.slice a' n c') ∧ Hid (OwnX W.heap.size w' (.slice a' n c') n Y) ∧ Hid (Below W.heap.size W w')) := fun W Y n hb hA hn => zrdiffer_at (c := cd) (HS16.out.later hb) HZK.out (RowC.later HRQ.out (Below.on HB15.out hb)) HZL.out (by omega) HLEN.out hA hn
            have hkn : decide ((0 : Int) < (k : Int)) = false := decide_eq_false (by omega)
            have HXW6 := HXW5
            have HX16 := HX15
            go_wp2_with fail
            clear hkn
            refine LAST.out.mono ?_
            rintro r w17 ⟨a4, n4, c4, Y, rfl, HYL, HOY, HYA, HB17⟩
            have SEC1 := hid (SEC.out _ _ _ HB17.out HYA.out HYL.out)
            clear LAST SEC
            go_wp2_with fail
            refine SEC1.out.mono ?_
            rintro r w18 ⟨a5, c5, rfl, HO5, HB18⟩
            have SM1 := hid (sameTxns_is (c := c4) (c' := c5) (own_rowX (own_below HOY.out HB18.out) HYL.out) (own_rowX HO5.out HYL.out) HYL.out (own_le HO5.out))
            have HB168 : Hid (Below w15.heap.size w15 w18) := Below.on HB17.out HB18.out
            clear SEC1
            go_wp2_with fail
            refine SM1.out.mono ?_
            rintro r w19 ⟨rfl, hb19⟩
            have HB169 : Hid (Below w15.heap.size w15 w19) := Below.on HB168.out hb19
            have SM2 := hid (sameTxns_is (c := c1) (c' := cw) (own_rowX (own_below HX16.out HB169.out) HXL.out) (own_rowX (own_below HXW6.out HB169.out) HXL.out) HXL.out (own_le HX16.out))
            clear SM1 hb19
            go_wp2_with fail
            refine SM2.out.mono ?_
            rintro r w20 ⟨rfl, hb20⟩
            have HB20 : Hid (Below w.heap.size w w20) := Below.on HB16.out (Below.on HB169.out hb20)
            clear SM2 hb20
            go_wp2_with fail
            go_ret
            exact ⟨by simp, HB20.out⟩
end Go.Proofs.Ytogjhpknlopajaa.Lg
