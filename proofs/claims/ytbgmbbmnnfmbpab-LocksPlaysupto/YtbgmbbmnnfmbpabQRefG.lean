import Derived.Test.YtbgmbbmnnfmbpabQRefH
/- The document's Release and Get. -/
namespace Go.Proofs.Ytbgmbbmnnfmbpab.Lk
open Go.RowKit Go.Sort
set_option linter.unusedVariables false

theorem erase_drop : ∀ {M : List Hd} {k : Nat} {i : Ix}, (M.map Hd.id).Nodup → k < M.length → (M[k]?).map Hd.id = some i → M.eraseIdx k = dropM M i
  | [], k, i, _, h, _ => by simp at h
  | x :: M, 0, i, hn, _, e => by
    simp at e
    rw [List.map_cons, List.nodup_cons] at hn
    simp only [List.eraseIdx_zero, List.tail_cons]
    have h1 : dropM (x :: M) i = dropM M i := by simp [dropM, e]
    rw [h1, dropM_not (by rw [← e]; exact hn.1)]
  | x :: M, k + 1, i, hn, hk, e => by
    rw [List.map_cons, List.nodup_cons] at hn
    have hx : x.id ≠ i := fun e' => by
      have hk' : k < M.length := by simpa using hk
      have e2 : (M[k]).id = i := by simpa [hk'] using e
      exact hn.1 (List.mem_map.2 ⟨M[k], List.getElem_mem hk', by rw [e2, e']⟩)
    rw [List.eraseIdx_cons_succ, erase_drop hn.2 (by simpa using hk) (by simpa using e)]
    simp [dropM, hx]
theorem erase_step {V : List Hv} {i k : Nat} (hi : i < V.length) : (V.take (i + 1)).eraseIdx k = (V.take i).eraseIdx k ++ (if i = k then [] else [nthH V i]) := by
  have hl : (V.take i).length = i := by simp; omega
  have e : V.take (i + 1) = V.take i ++ [nthH V i] := by
    rw [List.take_succ_eq_append_getElem hi]; simp [nthH, hi]
  rw [e]
  rcases Nat.lt_trichotomy i k with h | h | h
  · rw [List.eraseIdx_of_length_le (by simp; omega), List.eraseIdx_of_length_le (by omega), if_neg (by omega)]
  · subst h
    have h1 : (V.take i ++ [nthH V i]).eraseIdx i = V.take i ++ [nthH V i].eraseIdx (i - (V.take i).length) := List.eraseIdx_append_of_length_le (by omega) _
    have h2 : (V.take i).eraseIdx i = V.take i := List.eraseIdx_of_length_le (by omega)
    rw [if_pos rfl, h1, h2, hl, Nat.sub_self]
    simp
  · rw [if_neg (by omega), List.eraseIdx_append_of_lt_length (by omega)]
theorem map_erase {V : List Hv} : ∀ {k : Nat}, (V.eraseIdx k).map Hv.h = (V.map Hv.h).eraseIdx k := by
  induction V with
  | nil => intro k; simp
  | cons x V ih =>
    intro k
    cases k with
    | zero => simp
    | succ k => simp [ih]

set_option maxRecDepth 8000 in
set_option maxHeartbeats 4000000 in
theorem rrel_is {B q n c : Nat} {w : World} {a : Option Addr} {V : List Hv} {i : Ix} (T : RT B w q a n c V) (hB : B ≤ w.heap.size) (hn : n ≤ 1759218604441) (hnd : ((V.map Hv.h).map Hd.id).Nodup) :
    Calls Try.prog 15 #[.pointer (some ⟨q, 0, none⟩), .agg #[.int .u32 i.1, .int .u32 i.2]] w fun e w' => e = .returned (.bool (hasB (V.map Hv.h) i)) ∧
      ∃ a' n' c' V', Hid (RT B w' q a' n' c' V' ∧ V'.map Hv.h = dropM (V.map Hv.h) i ∧ Onl (RIt q a n c) w w' ∧ ∀ b, RIt q a' n' c' b → RIt q a n c b ∨ w.heap.size ≤ b) := by
  obtain ⟨wx, hwx⟩ : ∃ wx, wx = w.alloc (.cells #[.int .u32 i.1, .int .u32 i.2] 29) := ⟨_, rfl⟩
  have HBX : Hid (Below w.heap.size w wx) := by rw [hwx]; exact Below.al (Below.refl _ _) _
  have x0 : wx.cell? ⟨w.heap.size, 0, none⟩ = some (.int .u32 i.1) := by rw [hwx]; simp [go_sem]
  have x1 : wx.cell? ⟨w.heap.size, 1, none⟩ = some (.int .u32 i.2) := by rw [hwx]; simp [go_sem]
  have AT := hid (at_is (T.later HBX.out) i)
  obtain ⟨U, hU⟩ : ∃ U, U = hasB (V.map Hv.h) i := ⟨_, rfl⟩
  rw [← hU]
  have HU := hid hU
  have HT := hid T
  have HBB := hid hB
  have HND := hid hnd
  have HLN := hid T.row.len
  obtain ⟨i0, hi, hz0, hz1, hz2⟩ := info_of infoHd
  clear T hB hnd hU
  go_enter Try.func15, Try.ntmps15
  go_upto_region 1 with fail
  rw [← hwx]
  clear hwx
  go_wp2_with fail
  refine AT.out.mono ?_
  rintro e w1 ⟨k, rfl, HPO, HB1⟩
  have HB01 : Hid (Below w.heap.size w w1) := Below.on HBX.out HB1.out
  clear AT x0 x1
  rcases HPO.out with ⟨rfl, hno⟩ | ⟨k, hk, rfl, hid', hyes⟩
  case inl =>
    have hU0 : U = false := HU.out.trans hno
    subst hU0
    have HF : Hid (RT B w1 q a n c V ∧ V.map Hv.h = dropM (V.map Hv.h) i ∧ Onl (RIt q a n c) w w1 ∧ ∀ b, RIt q a n c b → RIt q a n c b ∨ w.heap.size ≤ b) := ⟨HT.out.later HB01.out, (drop_none hno).symm, Onl.of_below HB01.out, fun b hb => .inl hb⟩
    clear hno HPO
    go_wp2_with fail
    go_ret
    exact ⟨rfl, _, _, _, _, HF⟩
  case inr =>
    have hU1 : U = true := HU.out.trans hyes
    subst hU1
    have HDR : Hid ((V.eraseIdx k).map Hv.h = dropM (V.map Hv.h) i) := by
      show _ = _
      rw [map_erase]
      refine erase_drop HND.out (by simpa using hk) ?_
      have : nthH V k = V[k] := by simp [nthH, hk]
      simp [hk, ← this, hid']
    have hkn : k < n := by rw [← HLN.out]; exact hk
    have hlt0 : decide ((k : Int) < 0) = false := decide_eq_false (by omega)
    clear hyes hid' hk HPO
    go_wp2_with fail
    go_loopg [6, 7] n (fun g s6 s7 wr => ∃ (j m : Nat) (a' : Option Addr) (c' : Nat), j ≤ n ∧ g = n - j ∧ s7 = .int .i64 j ∧ s6 = .slice a' m c' ∧ Hid (((V.take j).eraseIdx k).length = m ∧ m ≤ j) ∧ Hid (OwnH w1.heap.size wr (.slice a' m c') m ((V.take j).eraseIdx k)) ∧ Hid (Below w1.heap.size w1 wr))
    case atStart => exact ⟨0, 0, none, 0, by omega, by omega, rfl, rfl, ⟨by simp, by omega⟩, ⟨by simp, .inl ⟨rfl, rfl⟩⟩, Below.refl _ _⟩
    case round =>
      obtain ⟨j, m, a', c', hj, rfl, rfl, rfl, HML, HO, HB⟩ := hrel
      have TR := (HT.out.later HB01.out).later HB.out
      have c0 := TR.c0
      by_cases hlt : j < n
      · have hst := erase_step (V := V) (i := j) (k := k) (by rw [HLN.out]; exact hlt)
        by_cases ejk : j = k
        · rw [if_pos ejk, List.append_nil] at hst
          have HST := hid hst
          have hne : ((j : Int) != (k : Int)) = false := by simp [ejk]
          have HNX : Hid (((V.take (j + 1)).eraseIdx k).length = m ∧ m ≤ j + 1) := ⟨by rw [HST.out]; exact HML.out.1, by have := HML.out.2; omega⟩
          have HOX : Hid (OwnH w1.heap.size wr (.slice a' m c') m ((V.take (j + 1)).eraseIdx k)) := by rw [HST.out]; exact HO.out
          clear ejk hst TR
          go_wp2_with fail
          go_roundg (n - (j + 1))
          case measure => omega
          case rel => exact ⟨j + 1, m, a', c', by omega, rfl, by go_num, rfl, HNX, HOX, HB⟩
        · rw [if_neg ejk] at hst
          have HST := hid hst
          have hne : ((j : Int) != (k : Int)) = true := by simp; omega
          obtain ⟨g, eg, hc⟩ := ownH_at TR.row.own HLN.out hlt
          obtain ⟨x, hxe⟩ : ∃ x, x = nthH V j := ⟨_, rfl⟩
          rw [← hxe] at hc
          rw [← hxe] at HST
          subst eg
          have hj1 : (j : Int) < (n : Int) := by omega
          have s0 : wr.cell? ⟨g, j * 8, none⟩ = some (.int .u32 x.h.id.1) := hc 0 _ rfl
          have s1 := hc 1 _ rfl
          have s2 := hc 2 _ rfl
          have s3 := hc 3 _ rfl
          have s4 := hc 4 _ rfl
          have s5 := hc 5 _ rfl
          have s6 := hc 6 _ rfl
          have s7 := hc 7 _ rfl
          obtain ⟨w5, hw5⟩ : ∃ w5, w5 = wr.alloc (.cells #[.int .u32 x.h.id.1, .int .u32 x.h.id.2, .int .u32 x.h.home, .int .u64 x.h.w, .int .u32 x.h.l, .int .u32 x.h.n, .slice x.ra x.h.rs.length x.rc, .slice x.wa x.h.ws.length x.wc] 36) := ⟨_, rfl⟩
          have hb5 : Below wr.heap.size wr w5 := by rw [hw5]; exact Below.al (Below.refl _ _) _
          have HO5 : Hid (OwnH w1.heap.size w5 (.slice a' m c') m ((V.take j).eraseIdx k)) := owns_keep HO.out fun g hg => hb5.block g (HO.out.lt g hg).2
          have HCL : Hid (∀ j' y, (hcs x)[j']? = some y → w5.cell? ((⟨wr.heap.size, 0, none⟩ : Addr).add j') = some y) := by rw [hw5]; exact lit8 wr x
          have HX5 : Hid (Below w1.heap.size w1 w5) := Below.on HB.out hb5
          have hs5 : w1.heap.size ≤ w5.heap.size := HX5.out.size
          have hmb : m + 1 ≤ 1759218604441 := by have := HML.out.2; omega
          clear hc hxe hb5 TR hst ejk
          go_wp2_with (at_builtin; refine wpList_append_own _ rfl _ _ 43 rfl w1.heap.size 36 i0 (Hv.val Hv.zero) 8 80 Try.underlying43 hi hz0 hz1 hz2 rfl (by decide) (.slice a' m c') m (((V.take j).eraseIdx k).flatMap hcs) rfl (by rw [← hw5]; exact HO5.out) ⟨wr.heap.size, 0, none⟩ 1 1 (hcs x) rfl rfl (by rw [← hw5]; exact HCL.out) (hcs_one x) (by unfold maxLen; omega) (by omega) (by rw [← hw5]; exact hs5) ?_)
          intro v2 w6 hown hgrow hnil
          rw [← hw5] at hgrow
          obtain ⟨a2, c2, rfl⟩ := owns_slice hown
          have HB6 : Hid (Below w1.heap.size w1 w6) := Below.grown HX5.out hgrow (by exact hs5) (fun k hk => (HO5.out.lt k hk).1)
          have HO6 : Hid (OwnH w1.heap.size w6 (.slice a2 (m + 1) c2) (m + 1) ((V.take (j + 1)).eraseIdx k)) := by
            show w6.ownsRow _ _ _ _ _ _
            rw [HST.out, List.flatMap_append]
            simpa using hown
          have HNX : Hid (((V.take (j + 1)).eraseIdx k).length = m + 1 ∧ m + 1 ≤ j + 1) := ⟨by rw [HST.out, List.length_append, HML.out.1]; rfl, by have := HML.out.2; omega⟩
          clear hown hgrow hnil
          go_wp2_with fail
          go_roundg (n - (j + 1))
          case measure => omega
          case rel => exact ⟨j + 1, m + 1, a2, c2, by omega, rfl, by go_num, rfl, HNX, HO6, HB6⟩
      · obtain rfl : j = n := by omega
        have hX : (V.take j).eraseIdx k = V.eraseIdx k := by rw [List.take_of_length_le (by rw [HLN.out]; exact Nat.le_refl _)]
        have HOX : Hid (OwnH w1.heap.size wr (.slice a' m c') m (V.eraseIdx k)) := by rw [← hX]; exact HO.out
        have HMX : Hid ((V.eraseIdx k).length = m) := by rw [← hX]; exact HML.out.1
        have fz := TR.loose
        have HTR := hid TR
        have HF : Hid (RT B (wr.setCell ⟨q, 0, none⟩ (.slice a' m c')) q a' m c' (V.eraseIdx k) ∧ (V.eraseIdx k).map Hv.h = dropM (V.map Hv.h) i ∧ Onl (RIt q a j c) w (wr.setCell ⟨q, 0, none⟩ (.slice a' m c')) ∧ ∀ b, RIt q a' m c' b → RIt q a j c b ∨ w.heap.size ≤ b) := by
          have hbw : Below w.heap.size w wr := Below.on HB01.out HB.out
          have ho : Onl (RIt q a j c) w (wr.setCell ⟨q, 0, none⟩ (.slice a' m c')) := (Onl.of_below hbw).set (.inl rfl) _ _
          have hor : Onl (RIt q a j c) wr (wr.setCell ⟨q, 0, none⟩ (.slice a' m c')) := (Onl.refl _ _).set (.inl rfl) _ _
          have hsub : ∀ v ∈ V.eraseIdx k, v ∈ V := fun v hv => List.mem_of_mem_eraseIdx hv
          have hq1 : q < w1.heap.size := (HT.out.later HB01.out).lt
          refine ⟨⟨heap_setCell_same _ _ _ _ _ _ HTR.out.blk, ⟨?_, HMX.out, fun v hv => (HTR.out.row.ok v (hsub v hv)).typ_onl (HTR.out.typ v (hsub v hv)) hor HTR.out.foreign⟩, fun v hv => (HTR.out.typ v (hsub v hv)).onl hor HTR.out.foreign⟩, HDR.out, ho, fun b hb => ?_⟩
          · refine owns_base (owns_keep HOX.out fun g hg => Below.heap_setCell _ _ _ _ ?_) (Nat.le_trans HBB.out HB01.out.size)
            have := (HOX.out.lt g hg).1
            show g ≠ q
            omega
          · rcases hb with rfl | hb
            · exact .inl (.inl rfl)
            · right
              have := (HOX.out.lt b hb).1
              exact Nat.le_trans HB01.out.size this
        clear hX TR HO HML
        go_wp2_with fail
        go_ret
        exact ⟨rfl, _, _, _, _, HF⟩

/-- what Get tells -/
def gotP (M : List Hd) (i : Ix) (U : Bool) (u : Hv) : Prop := (U = true → u.h ∈ M ∧ u.h.id = i) ∧ (U = false → u.h = Hv.zero.h)
set_option maxRecDepth 8000 in
set_option maxHeartbeats 4000000 in
theorem rget_is {B q n c : Nat} {w : World} {a : Option Addr} {V : List Hv} {i : Ix} (T : RT B w q a n c V) :
    Calls Try.prog 19 #[.pointer (some ⟨q, 0, none⟩), .agg #[.int .u32 i.1, .int .u32 i.2]] w fun e w' => ∃ u : Hv, e = .returned (.tuple #[.agg #[.int .u32 u.h.id.1, .int .u32 u.h.id.2, .int .u32 u.h.home, .int .u64 u.h.w, .int .u32 u.h.l, .int .u32 u.h.n, .slice u.ra u.h.rs.length u.rc, .slice u.wa u.h.ws.length u.wc], .bool (hasB (V.map Hv.h) i)]) ∧
      Hid (gotP (V.map Hv.h) i (hasB (V.map Hv.h) i) u) ∧ Hid (u.ok w') ∧ Hid (Below w.heap.size w w') := by
  obtain ⟨wx, hwx⟩ : ∃ wx, wx = (w.alloc (.cells #[.int .u32 i.1, .int .u32 i.2] 29)).alloc (.cells #[.int .u32 0, .int .u32 0, .int .u32 0, .int .u64 0, .int .u32 0, .int .u32 0, .slice none 0 0, .slice none 0 0] 36) := ⟨_, rfl⟩
  have HBX : Hid (Below w.heap.size w wx) := by rw [hwx]; exact Below.al (Below.al (Below.refl _ _) _) _
  have x0 : wx.cell? ⟨w.heap.size, 0, none⟩ = some (.int .u32 i.1) := by rw [hwx]; simp [go_sem]
  have x1 : wx.cell? ⟨w.heap.size, 1, none⟩ = some (.int .u32 i.2) := by rw [hwx]; simp [go_sem]
  have HSX : Hid (w.heap.size + 1 < wx.heap.size) := by rw [hwx]; exact hid (by simp)
  have HZ : Hid (wx.heap[w.heap.size + 1]? = some (.cells #[.int .u32 0, .int .u32 0, .int .u32 0, .int .u64 0, .int .u32 0, .int .u32 0, .slice none 0 0, .slice none 0 0] 36)) := by
    show _ = _
    rw [hwx, show w.heap.size + 1 = (w.alloc (.cells #[.int .u32 i.1, .int .u32 i.2] 29)).heap.size by simp]
    exact (MapKept.heap_alloc _ _).1
  have AT := hid (at_is (T.later HBX.out) i)
  obtain ⟨U, hU⟩ : ∃ U, U = hasB (V.map Hv.h) i := ⟨_, rfl⟩
  rw [← hU]
  have HU := hid hU
  have HT := hid T
  have HLN := hid T.row.len
  clear T hU
  go_enter Try.func19, Try.ntmps19
  go_upto_region 1 with fail
  rw [← hwx]
  clear hwx
  go_wp2_with fail
  refine AT.out.mono ?_
  rintro e w1 ⟨k, rfl, HPO, HB1⟩
  have HB01 : Hid (Below w.heap.size w w1) := Below.on HBX.out HB1.out
  have hz1 : w1.heap[w.heap.size + 1]? = some (.cells #[.int .u32 0, .int .u32 0, .int .u32 0, .int .u64 0, .int .u32 0, .int .u32 0, .slice none 0 0, .slice none 0 0] 36) := (HB1.out.block _ HSX.out).trans HZ.out
  clear AT x0 x1
  rcases HPO.out with ⟨rfl, hno⟩ | ⟨k, hk, rfl, hid', hyes⟩
  case inl =>
    have hU0 : U = false := HU.out.trans hno
    subst hU0
    have r0 : w1.cell? ⟨w.heap.size + 1, 0, none⟩ = some (.int .u32 0) := cell_of_obj hz1 rfl
    have r1 : w1.cell? ⟨w.heap.size + 1, 1, none⟩ = some (.int .u32 0) := cell_of_obj hz1 rfl
    have r2 : w1.cell? ⟨w.heap.size + 1, 2, none⟩ = some (.int .u32 0) := cell_of_obj hz1 rfl
    have r3 : w1.cell? ⟨w.heap.size + 1, 3, none⟩ = some (.int .u64 0) := cell_of_obj hz1 rfl
    have r4 : w1.cell? ⟨w.heap.size + 1, 4, none⟩ = some (.int .u32 0) := cell_of_obj hz1 rfl
    have r5 : w1.cell? ⟨w.heap.size + 1, 5, none⟩ = some (.int .u32 0) := cell_of_obj hz1 rfl
    have r6 : w1.cell? ⟨w.heap.size + 1, 6, none⟩ = some (.slice none 0 0) := cell_of_obj hz1 rfl
    have r7 : w1.cell? ⟨w.heap.size + 1, 7, none⟩ = some (.slice none 0 0) := cell_of_obj hz1 rfl
    have f1 : ∀ o, w1.frozen? ⟨w.heap.size + 1, o, none⟩ = false := fun o => by simp [World.frozen?, hz1]
    have HH := hid hz1
    clear hno HPO hz1
    go_wp2_with fail
    obtain ⟨w8, hw8⟩ : ∃ w8, w8 = (((((((w1.setCell ⟨w.heap.size + 1, 0, none⟩ (.int .u32 0)).setCell ⟨w.heap.size + 1, 1, none⟩ (.int .u32 0)).setCell ⟨w.heap.size + 1, 2, none⟩ (.int .u32 0)).setCell ⟨w.heap.size + 1, 3, none⟩ (.int .u64 0)).setCell ⟨w.heap.size + 1, 4, none⟩ (.int .u32 0)).setCell ⟨w.heap.size + 1, 5, none⟩ (.int .u32 0)).setCell ⟨w.heap.size + 1, 6, none⟩ (.slice none 0 0)).setCell ⟨w.heap.size + 1, 7, none⟩ (.slice none 0 0) := ⟨_, rfl⟩
    have hb8 : Below w.heap.size w w8 := by
      rw [hw8]
      repeat refine Below.setCell ?_ (by exact Nat.le_succ _) _
      exact HB01.out
    have hblk8 : w8.heap[w.heap.size + 1]? = some (.cells #[.int .u32 0, .int .u32 0, .int .u32 0, .int .u64 0, .int .u32 0, .int .u32 0, .slice none 0 0, .slice none 0 0] 36) := by
      rw [hw8]
      exact heap_setCell_same _ _ _ _ _ _ (heap_setCell_same _ _ _ _ _ _ (heap_setCell_same _ _ _ _ _ _ (heap_setCell_same _ _ _ _ _ _ (heap_setCell_same _ _ _ _ _ _ (heap_setCell_same _ _ _ _ _ _ (heap_setCell_same _ _ _ _ _ _ (heap_setCell_same _ _ _ _ _ _ HH.out)))))))
    rw [← hw8]
    have t0 : w8.cell? ⟨w.heap.size + 1, 0, none⟩ = some (.int .u32 0) := cell_of_obj hblk8 rfl
    have t1 : w8.cell? ⟨w.heap.size + 1, 1, none⟩ = some (.int .u32 0) := cell_of_obj hblk8 rfl
    have t2 : w8.cell? ⟨w.heap.size + 1, 2, none⟩ = some (.int .u32 0) := cell_of_obj hblk8 rfl
    have t3 : w8.cell? ⟨w.heap.size + 1, 3, none⟩ = some (.int .u64 0) := cell_of_obj hblk8 rfl
    have t4 : w8.cell? ⟨w.heap.size + 1, 4, none⟩ = some (.int .u32 0) := cell_of_obj hblk8 rfl
    have t5 : w8.cell? ⟨w.heap.size + 1, 5, none⟩ = some (.int .u32 0) := cell_of_obj hblk8 rfl
    have t6 : w8.cell? ⟨w.heap.size + 1, 6, none⟩ = some (.slice none 0 0) := cell_of_obj hblk8 rfl
    have t7 : w8.cell? ⟨w.heap.size + 1, 7, none⟩ = some (.slice none 0 0) := cell_of_obj hblk8 rfl
    clear hw8 hblk8
    refine bodyPost_ret (v := .tuple #[.agg #[.int .u32 0, .int .u32 0, .int .u32 0, .int .u64 0, .int .u32 0, .int .u32 0, .slice none 0 0, .slice none 0 0], .bool false]) (by simp [results, Try.results19, go_sem, t0, t1, t2, t3, t4, t5, t6, t7]) rfl ⟨Hv.zero, rfl, ⟨fun e => (by cases e), fun _ => rfl⟩, ?_, hb8⟩
    · exact ⟨fun i hi => by simp [Hv.zero] at hi, fun i hi => by simp [Hv.zero] at hi, by simp [Hv.zero], by simp [Hv.zero]⟩
  case inr =>
    have hU1 : U = true := HU.out.trans hyes
    subst hU1
    have hkn : k < n := by rw [← HLN.out]; exact hk
    have hlt0 : decide ((k : Int) < 0) = false := decide_eq_false (by omega)
    have T1 := HT.out.later HB01.out
    have c0 := T1.c0
    obtain ⟨g, eg, hc⟩ := ownH_at T1.row.own HLN.out hkn
    have hxo := T1.row.ok _ (nthH_mem hk)
    obtain ⟨x, hxe⟩ : ∃ x, x = nthH V k := ⟨_, rfl⟩
    rw [← hxe] at hc hxo hid'
    have HXM : Hid (x.h ∈ V.map Hv.h ∧ x.h.id = i) := ⟨by rw [hxe]; exact List.mem_map.2 ⟨_, nthH_mem hk, rfl⟩, hid'⟩
    subst eg
    have hk1 : (k : Int) < (n : Int) := by omega
    have s0 : w1.cell? ⟨g, k * 8, none⟩ = some (.int .u32 x.h.id.1) := hc 0 _ rfl
    have s1 := hc 1 _ rfl
    have s2 := hc 2 _ rfl
    have s3 := hc 3 _ rfl
    have s4 := hc 4 _ rfl
    have s5 := hc 5 _ rfl
    have s6 := hc 6 _ rfl
    have s7 := hc 7 _ rfl
    have CO := hid (rcopied_is hxo)
    have HZ1 := hid hz1
    clear hc hxe hxo hid' hyes hk HPO T1 hz1
    go_wp2_with fail
    refine CO.out.mono ?_
    rintro e w3 ⟨u, rfl, HUH, HUF, HUO, HB3⟩
    have hz3 : w3.heap[w.heap.size + 1]? = some (.cells #[.int .u32 0, .int .u32 0, .int .u32 0, .int .u64 0, .int .u32 0, .int .u32 0, .slice none 0 0, .slice none 0 0] 36) := (HB3.out.block _ (Nat.lt_of_lt_of_le HSX.out HB1.out.size)).trans HZ1.out
    have r0 : w3.cell? ⟨w.heap.size + 1, 0, none⟩ = some (.int .u32 0) := cell_of_obj hz3 rfl
    have r1 : w3.cell? ⟨w.heap.size + 1, 1, none⟩ = some (.int .u32 0) := cell_of_obj hz3 rfl
    have r2 : w3.cell? ⟨w.heap.size + 1, 2, none⟩ = some (.int .u32 0) := cell_of_obj hz3 rfl
    have r3 : w3.cell? ⟨w.heap.size + 1, 3, none⟩ = some (.int .u64 0) := cell_of_obj hz3 rfl
    have r4 : w3.cell? ⟨w.heap.size + 1, 4, none⟩ = some (.int .u32 0) := cell_of_obj hz3 rfl
    have r5 : w3.cell? ⟨w.heap.size + 1, 5, none⟩ = some (.int .u32 0) := cell_of_obj hz3 rfl
    have r6 : w3.cell? ⟨w.heap.size + 1, 6, none⟩ = some (.slice none 0 0) := cell_of_obj hz3 rfl
    have r7 : w3.cell? ⟨w.heap.size + 1, 7, none⟩ = some (.slice none 0 0) := cell_of_obj hz3 rfl
    have f3 : ∀ o, w3.frozen? ⟨w.heap.size + 1, o, none⟩ = false := fun o => by simp [World.frozen?, hz3]
    have HH := hid hz3
    have HB03 : Hid (Below w.heap.size w w3) := Below.on HB01.out HB3.out
    have HS1 : Hid (w.heap.size + 1 < w1.heap.size) := Nat.lt_of_lt_of_le HSX.out HB1.out.size
    clear hz3 CO
    go_wp2_with fail
    obtain ⟨w8, hw8⟩ : ∃ w8, w8 = (((((((w3.setCell ⟨w.heap.size + 1, 0, none⟩ (.int .u32 u.h.id.1)).setCell ⟨w.heap.size + 1, 1, none⟩ (.int .u32 u.h.id.2)).setCell ⟨w.heap.size + 1, 2, none⟩ (.int .u32 u.h.home)).setCell ⟨w.heap.size + 1, 3, none⟩ (.int .u64 u.h.w)).setCell ⟨w.heap.size + 1, 4, none⟩ (.int .u32 u.h.l)).setCell ⟨w.heap.size + 1, 5, none⟩ (.int .u32 u.h.n)).setCell ⟨w.heap.size + 1, 6, none⟩ (.slice u.ra u.h.rs.length u.rc)).setCell ⟨w.heap.size + 1, 7, none⟩ (.slice u.wa u.h.ws.length u.wc) := ⟨_, rfl⟩
    have hO8 : Onl (fun b => b = w.heap.size + 1) w3 w8 := by
      rw [hw8]
      repeat refine Onl.set ?_ (by rfl) _ _
      exact Onl.refl _ _
    have hb8 : Below w.heap.size w w8 := by
      rw [hw8]
      repeat refine Below.setCell ?_ (by exact Nat.le_succ _) _
      exact HB03.out
    have hblk8 : w8.heap[w.heap.size + 1]? = some (.cells #[.int .u32 u.h.id.1, .int .u32 u.h.id.2, .int .u32 u.h.home, .int .u64 u.h.w, .int .u32 u.h.l, .int .u32 u.h.n, .slice u.ra u.h.rs.length u.rc, .slice u.wa u.h.ws.length u.wc] 36) := by
      rw [hw8]
      exact heap_setCell_same _ _ _ _ _ _ (heap_setCell_same _ _ _ _ _ _ (heap_setCell_same _ _ _ _ _ _ (heap_setCell_same _ _ _ _ _ _ (heap_setCell_same _ _ _ _ _ _ (heap_setCell_same _ _ _ _ _ _ (heap_setCell_same _ _ _ _ _ _ (heap_setCell_same _ _ _ _ _ _ HH.out)))))))
    rw [← hw8]
    have t0 : w8.cell? ⟨w.heap.size + 1, 0, none⟩ = some (.int .u32 u.h.id.1) := cell_of_obj hblk8 rfl
    have t1 : w8.cell? ⟨w.heap.size + 1, 1, none⟩ = some (.int .u32 u.h.id.2) := cell_of_obj hblk8 rfl
    have t2 : w8.cell? ⟨w.heap.size + 1, 2, none⟩ = some (.int .u32 u.h.home) := cell_of_obj hblk8 rfl
    have t3 : w8.cell? ⟨w.heap.size + 1, 3, none⟩ = some (.int .u64 u.h.w) := cell_of_obj hblk8 rfl
    have t4 : w8.cell? ⟨w.heap.size + 1, 4, none⟩ = some (.int .u32 u.h.l) := cell_of_obj hblk8 rfl
    have t5 : w8.cell? ⟨w.heap.size + 1, 5, none⟩ = some (.int .u32 u.h.n) := cell_of_obj hblk8 rfl
    have t6 : w8.cell? ⟨w.heap.size + 1, 6, none⟩ = some (.slice u.ra u.h.rs.length u.rc) := cell_of_obj hblk8 rfl
    have t7 : w8.cell? ⟨w.heap.size + 1, 7, none⟩ = some (.slice u.wa u.h.ws.length u.wc) := cell_of_obj hblk8 rfl
    clear hw8 hblk8
    have hfr : u.fresh w.heap.size w8 := by
      refine ⟨owns_base (owns_keep HUF.out.r fun g e => hO8.block g (HUF.out.r.lt g e).2 (fun k => ?_)) HB01.out.size, owns_base (owns_keep HUF.out.w fun g e => hO8.block g (HUF.out.w.lt g e).2 (fun k => ?_)) HB01.out.size⟩
      · have := (HUF.out.r.lt g e).1; have := HS1.out; omega
      · have := (HUF.out.w.lt g e).1; have := HS1.out; omega
    refine bodyPost_ret (v := .tuple #[.agg #[.int .u32 u.h.id.1, .int .u32 u.h.id.2, .int .u32 u.h.home, .int .u64 u.h.w, .int .u32 u.h.l, .int .u32 u.h.n, .slice u.ra u.h.rs.length u.rc, .slice u.wa u.h.ws.length u.wc], .bool true]) (by simp [results, Try.results19, go_sem, t0, t1, t2, t3, t4, t5, t6, t7]) rfl ⟨u, rfl, ⟨fun _ => (by rw [HUH.out]; exact HXM.out), fun e => (by cases e)⟩, hfr.ok HUO.out.rl HUO.out.wl, hb8⟩
end Go.Proofs.Ytbgmbbmnnfmbpab.Lk
