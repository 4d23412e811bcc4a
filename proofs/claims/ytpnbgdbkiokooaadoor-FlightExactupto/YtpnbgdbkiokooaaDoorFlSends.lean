import Derived.Test.YtpnbgdbkiokooaaDoorFlAll
import Derived.Test.YtpnbgdbkiokooaaDoorFlMark
import Derived.Laws.MakeOwn
/- The law's sends. -/
namespace Go.Proofs.YtpnbgdbkiokooaaDoor.Fl
open Go.RowKit Go.Sort Go.Proofs.YtpnbgdbkiokooaaDoor
set_option linter.unusedVariables false

theorem bytes_injF {a b : ByteArray} (h : a.toList = b.toList) : a = b := by
  rw [ByteArray.toList_eq, ByteArray.toList_eq] at h
  exact ByteArray.ext (Array.toList_inj.1 h)
theorem beqF {a b : ByteArray} {u : Bool} (h : decide (a = b) = u) : (a.toList == b.toList) = u := by
  rw [← h, Bool.eq_iff_iff]
  simp only [beq_iff_eq, decide_eq_true_eq]
  exact ⟨bytes_injF, fun e => by rw [e]⟩
theorem Below.drewN {B : Nat} {a w : World} (h : RowKit.Below B a w) (n : Nat) : RowKit.Below B a (w.drewN n) := ⟨h.os, h.tape, h.output, h.size, h.block⟩
theorem cell_regrown {w : World} {b o : Nat} {v : Value} (h : w.cell? ⟨b, o, none⟩ = some v) : ∀ d os, (grow (redrawn w d) os).cell? ⟨b, o, none⟩ = some v := fun d os => cell_later (below_regrown w d os) h
/-- N texts in block G -/
structure Gv (w : World) (G N : Nat) (f : Nat → ByteArray) : Prop where
  ty : TyS w G
  at_ : ∀ i, i < N → w.cell? ⟨G, i, none⟩ = some (.string (f i))
theorem Gv.keep {w w' : World} {G N : Nat} {f : Nat → ByteArray} (h : Gv w G N f) (hb : w'.heap[G]? = w.heap[G]?) : Gv w' G N f := ⟨h.ty.keep hb, fun i hi => (World.cell?_of_block (a := ⟨G, i, none⟩) hb).trans (h.at_ i hi)⟩
theorem Gv.later {w w' : World} {G N : Nat} {f : Nat → ByteArray} (h : Gv w G N f) (hb : Below w.heap.size w w') : Gv w' G N f := h.keep (hb.block G h.ty.lt)
theorem Gv.put {w : World} {G N : Nat} {f g : Nat → ByteArray} (h : Gv w G N f) {k : Nat} (hk : k < N) {t : ByteArray} (hg : ∀ i, i < N → g i = if i = k then t else f i) : Gv (w.setCell ⟨G, k, none⟩ (.string t)) G N g := by
  refine ⟨h.ty.set _ _ _, fun i hi => ?_⟩
  by_cases e : i = k
  · subst e
    rw [hg i hi, if_pos rfl]
    exact World.cell?_setCell_same _ _ _ (h.at_ i hi)
  · rw [hg i hi, if_neg e]
    exact cell_setc (by simp only [ne_eq, Addr.mk.injEq]; omega) (h.at_ i hi)
theorem Gv.eq {w : World} {G N : Nat} {f g : Nat → ByteArray} (h : Gv w G N f) (e : ∀ i, i < N → g i = f i) : Gv w G N g := ⟨h.ty, fun i hi => by rw [e i hi]; exact h.at_ i hi⟩
theorem make_tx (w : World) (n : Nat) (h : n ≤ 17592186044416) : (Instr.makeSlice 22 (.int .i64 (n : Int)) (.int .i64 (n : Int))).run Tryd.prog w = .ok (.slice (some ⟨w.heap.size, 0, none⟩) n n) (w.alloc (.cells (madeCells (Value.string ⟨#[]⟩).cells n) 9)) := by
  obtain ⟨i0, hi, hz0, hz1, hz2⟩ := info_ofF infoStr
  have := run_make (P := Tryd.prog) w 22 9 i0 _ Tryd.underlying22 hi hz0 .i64 .i64 n n (by omega) (by omega) (by rw [hz2]; omega) (by omega)
  rw [this, hz1]
  simp
theorem made_gv (w : World) (n : Nat) : Gv (w.alloc (.cells (madeCells (Value.string ⟨#[]⟩).cells n) 9)) w.heap.size n (fun _ => mt) := by
  refine ⟨⟨_, World.alloc_heap_new _ _⟩, fun i hi => ?_⟩
  simp [go_sem, madeCells, hi, Nat.mod_one]
/-- copy into the head of such a row -/
theorem Gv.copy {w : World} {G N n c : Nat} {a : Option Addr} {f : Nat → ByteArray} {ys : List ByteArray} (h : Gv w G N f) (hn : n = ys.length) (hN : n ≤ N) (hr : Rd w (.slice a n c) ys) :
    ∃ w', (Builtin.copy_ #[22, 22] 3 #[.slice (some ⟨G, 0, none⟩) N N, .slice a n c]).run Tryd.prog w = .ok (goInt n) w' ∧ Hid (Gv w' G N (fun i => if i < n then nthT ys i else f i)) ∧ Hid (w.grownBy w' (some G)) := by
  obtain ⟨i0, hi0, hz0, hz1, hz2⟩ := info_ofF infoStr
  have hsz : (Tryd.prog.info? 9).map (·.size) = some 1 := by rw [hi0]; simp [hz1]
  by_cases h0 : n = 0
  · subst h0
    refine ⟨w, run_copy_none (P := Tryd.prog) w _ _ _ _ _ _ _ _ _ _ Tryd.underlying22 hsz (by simp), h.eq (fun i _ => by simp), ⟨rfl, rfl, rfl, Nat.le_refl _, fun _ _ _ => rfl⟩⟩
  · obtain ⟨a2, c2, e, hrd⟩ := hr
    injection e with e1 _ _
    obtain ⟨b, o, e2, _⟩ := hrd 0 _ (nthT_get (by omega))
    rw [← e1] at e2
    subst e2
    have hl : (ys.map Value.string).length = n := by rw [List.length_map, hn]
    have hin := World.cell?_setCells_in G (ys.map Value.string) 0 w (fun j hj => by rw [hl] at hj; rw [Nat.zero_add, h.at_ j (by omega)]; rfl)
    have := run_copy_cells (P := Tryd.prog) w 22 22 3 9 G 0 N N ⟨b, o, none⟩ n c (ys.map Value.string) Tryd.underlying22 hsz (by rw [hl]; exact (Nat.min_eq_left hN).symm)
      (fun j u hj => by
        rw [Addr.add_lit]
        rw [List.getElem?_map] at hj
        cases hx : ys[j]? with
        | none => rw [hx] at hj; cases hj
        | some t =>
          rw [hx] at hj
          injection hj with hj
          subst hj
          obtain ⟨b', o', e3, hc⟩ := hrd j t hx
          rw [← e1] at e3
          injection e3 with e3
          injection e3 with e4 e5
          subst e4 e5
          exact hc) (fun j hj => by rw [hl] at hj; rw [Nat.zero_add, h.at_ j (by omega)]; rfl) (fun j hj => h.ty.loose _) (fun u hu => by
        obtain ⟨t, _, rfl⟩ := List.mem_map.1 hu
        rfl)
    rw [hl] at this
    refine ⟨_, this, ⟨TyS.sets _ _ _ h.ty, fun i hi => ?_⟩, grown_sets _ _ _ _⟩
    by_cases hlt : i < n
    · rw [if_pos hlt]
      have h1 := hin i (by rw [hl]; exact hlt)
      rw [Nat.zero_add, List.getElem_map] at h1
      rw [h1, nthT, List.getElem?_eq_getElem (by omega)]; rfl
    · rw [if_neg hlt, World.cell?_setCells_out G _ _ _ _ (fun _ _ => .inr (by rw [hl]; show 0 + n ≤ i; omega))]
      exact h.at_ i hi

def f1 (ys : List ByteArray) (n i : Nat) (j : Nat) : ByteArray := if j < n then nthT ys j else if j < i then markB (-1) j else mt
def f2 (ys : List ByteArray) (n i : Nat) (j : Nat) : ByteArray := if j < i then markB (-2) j else if j < n then nthT ys j else markB (-1) j

theorem f1_put {ys : List ByteArray} {n i : Nat} (hi : n ≤ i) (j : Nat) : f1 ys n (i + 1) j = if j = i then markB (-1) i else f1 ys n i j := by
  unfold f1
  by_cases e : j = i
  · subst e
    rw [if_pos rfl, if_neg (by omega), if_pos (by omega)]
  · rw [if_neg e]
    by_cases h : j < n
    · rw [if_pos h, if_pos h]
    · rw [if_neg h, if_neg h]
      by_cases h2 : j < i
      · rw [if_pos h2, if_pos (by omega)]
      · rw [if_neg h2, if_neg (by omega)]
theorem f2_put {ys : List ByteArray} {n i : Nat} (j : Nat) : f2 ys n (i + 1) j = if j = i then markB (-2) i else f2 ys n i j := by
  unfold f2
  by_cases e : j = i
  · subst e
    rw [if_pos rfl, if_pos (by omega)]
  · rw [if_neg e]
    by_cases h2 : j < i
    · rw [if_pos h2, if_pos (by omega)]
    · rw [if_neg h2, if_neg (by omega)]
theorem f2_at {ys : List ByteArray} {n i : Nat} : f2 ys n i i = if i < n then nthT ys i else markB (-1) i := by
  unfold f2; rw [if_neg (by omega)]
theorem f2_zero {ys : List ByteArray} {n : Nat} {j : Nat} (hj : j < n + 3) : f2 ys n 0 j = f1 ys n (n + 3) j := by
  unfold f1 f2
  rw [if_neg (by omega)]
  by_cases h : j < n
  · rw [if_pos h, if_pos h]
  · rw [if_neg h, if_neg h, if_pos hj]
/-- the flight behind the sending, apart from the row that was handed in -/
def Sn (w ws : World) (B p G : Nat) (v : Value) (zs : List ByteArray) : Prop := ∃ v', Mv w ws B p v v' zs ∧ ¬ ItF p v' G
theorem Sn.later {w ws ws' : World} {B p G : Nat} {v : Value} {zs : List ByteArray} (h : Sn w ws B p G v zs) (hb : Below ws.heap.size ws ws') : Sn w ws' B p G v zs := by
  obtain ⟨v', m, hn⟩ := h
  exact ⟨v', m.trans (Mv.refl m.fl hb), hn⟩
theorem Sn.set {w ws : World} {B p G : Nat} {v : Value} {zs : List ByteArray} (h : Sn w ws B p G v zs) (hG : w.heap.size ≤ G) (k : Nat) (u : Value) : Sn w (ws.setCell ⟨G, k, none⟩ u) B p G v zs := by
  obtain ⟨v', m, hn⟩ := h
  exact ⟨v', ⟨m.fl.keep fun k hk => Below.heap_setCell _ _ _ _ (fun e => hn (by have e : k = G := e; rw [← e]; exact hk)), Onl.setNew m.onl hG _ _, m.new⟩, hn⟩
set_option maxHeartbeats 8000000 in
theorem sends_is {W w : World} {p : Nat} {v : Value} {xs ys : List ByteArray} {a : Option Addr} {n c : Nat} (hP : PowTab W) (h : Fl w W.heap.size p v xs) (hb : Below W.heap.size W w) (hu : Rd W (.slice a n c) ys) (hn : n = ys.length) (hx : xs.length ≤ 1073741824) (hy : n ≤ 1073741824) :
    Calls Tryd.prog 7 #[pt p, .slice a n c] w fun e w' => e = .returned (.bool true) ∧ Hid (∃ v', Mv w w' W.heap.size p v v' (xs ++ ys)) := by
  have HP := hid hP
  have HF := hid h
  have HB := hid hb
  have HU := hid hu
  have HN := hid hn
  have HX := hid hx
  obtain ⟨G, hG⟩ : ∃ G, G = w.heap.size := ⟨_, rfl⟩
  obtain ⟨w1, hw1⟩ : ∃ w1, w1 = w.alloc (.cells (madeCells (Value.string ⟨#[]⟩).cells (n + 3)) 9) := ⟨_, rfl⟩
  have hmk := make_tx w (n + 3) (by omega)
  rw [← hw1, ← hG] at hmk
  have hg1 : Gv w1 G (n + 3) (fun _ => mt) := by rw [hw1, hG]; exact made_gv w (n + 3)
  have hb1 : Below w.heap.size w w1 := by rw [hw1]; exact Below.al (Below.refl _ _) _
  obtain ⟨w2, hcp, hg2, hgr2⟩ := hg1.copy hn (by omega : n ≤ n + 3) (hu.later (Below.on hb hb1))
  have hb2 : Hid (Below w.heap.size w w2) := hb1.trans ((grown_onl hgr2.out).below (fun k e => by injection e with e; omega) hb1.size)
  have HG2 : Hid (Gv w2 G (n + 3) (f1 ys n n)) := hg2.out.eq (fun i hi => by
    unfold f1
    by_cases h : i < n
    · rw [if_pos h, if_pos h]
    · rw [if_neg h, if_neg h, if_neg h])
  have k3 : IntKind.i64.wrap ((n : Int) + 3) = (n : Int) + 3 := by rw [IntKind.wrap_i64]; omega
  have e3 : ((n + 3 : Nat) : Int) = (n : Int) + 3 := by omega
  rw [e3] at hmk
  have HMARK : Hid (∀ (wr : World) (i j : Int), Below W.heap.size W wr → -2 ≤ i → i ≤ 4611686018427387904 → 0 ≤ j → j ≤ 4611686018427387904 → Calls Tryd.prog 17 #[.int .i64 i, .int .i64 j] wr fun e w' => e = .returned (.string (markB i j)) ∧ Below wr.heap.size wr w') := fun wr i j hb h1 h2 h3 h4 => mark_is ⟨by omega, h2⟩ ⟨by omega, h4⟩ wr (hP.later hb)
  have HGS : Hid (w.heap.size ≤ G) := by show _ ≤ _; omega
  clear hP h hb hu hn hx hg1 hb1 hg2 hgr2 hw1 hG e3
  go_enter Tryd.func7, Tryd.ntmps7
  go_wp2_with fail
  go_loopg [6] 3 (fun g s6 wr => ∃ i : Nat, n ≤ i ∧ i ≤ n + 3 ∧ g = n + 3 - i ∧ s6 = .int .i64 i ∧ Hid (Gv wr G (n + 3) (f1 ys n i)) ∧ Hid (Below w.heap.size w wr))
  case atStart => exact ⟨n, by omega, by omega, by omega, rfl, HG2.out, hb2.out⟩
  case round =>
    obtain ⟨i, hni, hi, rfl, rfl, HG, HBW⟩ := hrel
    clear HG2 hb2 hcp hmk
    by_cases hlt : i < n + 3
    · have HM := hid (HMARK.out wr (-1) i (Below.on HB.out HBW.out) (by omega) (by omega) (by omega) (by omega))
      have hkI : (i : Int) < (n : Int) + 3 := by omega
      generalize hmm : markB (-1) (i : Int) = mm at HM
      go_wp2_with fail
      refine HM.out.mono ?_
      rintro e w3 ⟨rfl, hb3⟩
      have HG3 := hid (HG.out.later hb3)
      have c0 := HG3.out.at_ i hlt
      have l0 := HG3.out.ty.loose i
      have HB3 := hid (Below.on HBW.out hb3)
      have HG4 : Hid (Gv (w3.setCell ⟨G, i, none⟩ (.string mm)) G (n + 3) (f1 ys n (i + 1))) := HG3.out.put hlt (fun j hj => by rw [f1_put hni, hmm])
      have HB4 : Hid (Below w.heap.size w (w3.setCell ⟨G, i, none⟩ (.string mm))) := HB3.out.setCell HGS.out _
      clear hb3 hmm
      go_wp2_with fail
      go_roundg (n + 3 - (i + 1))
      case measure => omega
      case rel => exact ⟨i + 1, by omega, by omega, rfl, by go_num, HG4.out, HB4.out⟩
    · obtain rfl : i = n + 3 := by omega
      have hrd : Rd wr (.slice (some ⟨G, 0, none⟩) n (n + 3)) ys := ⟨_, _, by rw [HN.out], fun j t e => ⟨G, 0, rfl, by
        have hj : j < n := by rw [HN.out]; exact (List.getElem?_eq_some_iff.1 e).1
        have h1 := HG.out.at_ j (by omega)
        rw [Nat.zero_add, h1, f1, if_pos hj, nthT, e]; rfl⟩⟩
      have HSE := hid (send_is (HF.out.later HBW.out) hrd (by have := HX.out; have := HN.out; omega) (Nat.le_trans HB.out.size HBW.out.size))
      have q1 : ((n : Int) + 3 < (n : Int) + 3) = False := by simp
      have q2 : (n : Int) ≤ (n : Int) + 3 := by omega
      have q3 : ((n + 3 : Nat) : Int) = (n : Int) + 3 := by omega
      clear hlt hi hni hrd
      go_wp2_with fail
      refine HSE.out.mono ?_
      rintro e w4 ⟨rfl, hmv⟩
      have HS4 : Hid (Gv w4 G (n + 3) (f2 ys n 0) ∧ Sn w w4 W.heap.size p G v (xs ++ ys)) := by
        obtain ⟨v', m⟩ := hmv
        have hnot : ¬ ItF p v G := fun hk => by
          have h1 := (HF.out.its hk).2
          have h2 := HGS.out
          omega
        refine ⟨(HG.out.keep (m.onl.block G HG.out.ty.lt hnot)).eq (fun j hj => f2_zero hj), v', (Mv.refl HF.out HBW.out).trans m, ?_⟩
        rintro (e | e)
        · exact hnot (.inl e)
        · rcases m.new G e with h1 | h1
          · exact hnot (.inr h1)
          · have h2 := HG.out.ty.lt
            omega
      clear HSE hmv HG HBW
      go_wp2_with fail
      go_loopg [7] (n + 3) (fun g s7 ws => ∃ i : Nat, i ≤ n + 3 ∧ g = n + 3 - i ∧ s7 = .int .i64 i ∧ Hid (Gv ws G (n + 3) (f2 ys n i) ∧ Sn w ws W.heap.size p G v (xs ++ ys)))
      case atStart => exact ⟨0, by omega, by omega, rfl, HS4.out⟩
      case round =>
        obtain ⟨i, hi, rfl, rfl, HS⟩ := hrel
        clear HS4
        have HBL : Hid (Below W.heap.size W wr) := by
          obtain ⟨_, _, m, _⟩ := HS.out
          exact HB.out.trans (m.below HF.out HB.out.size)
        by_cases hlt : i < n + 3
        · have hkI : (i : Int) < (n : Int) + 3 := by omega
          have c0 := HS.out.1.at_ i hlt
          rw [f2_at] at c0
          have HM2 : Hid (∀ wz, Below wr.heap.size wr wz → Calls Tryd.prog 17 #[.int .i64 (-2), .int .i64 (i : Int)] wz fun e w' => e = .returned (.string (markB (-2) i)) ∧ Below wz.heap.size wz w') := fun wz hb => HMARK.out wz (-2) i (Below.on HBL.out hb) (by omega) (by omega) (by omega) (by omega)
          have HG4 : Hid (∀ wz, Below wr.heap.size wr wz → wz.cell? ⟨G, i, none⟩ = some (.string (f2 ys n i i)) ∧ wz.frozen? ⟨G, i, none⟩ = false ∧ Gv (wz.setCell ⟨G, i, none⟩ (.string (markB (-2) i))) G (n + 3) (f2 ys n (i + 1)) ∧ Sn w (wz.setCell ⟨G, i, none⟩ (.string (markB (-2) i))) W.heap.size p G v (xs ++ ys)) := fun wz hb => by
            have h1 := HS.out.1.later hb
            exact ⟨h1.at_ i hlt, h1.ty.loose i, h1.put hlt (fun j hj => f2_put j), (HS.out.2.later hb).set HGS.out _ _⟩
          generalize markB (-2) (i : Int) = m2 at HM2 HG4
          generalize f2 ys n i i = fi at HG4
          by_cases hin : i < n
          · have c1 : ∃ g off, a = some ⟨g, off, none⟩ ∧ wr.cell? ⟨g, off + i, none⟩ = some (.string (nthT ys i)) := by
              obtain ⟨a2, c2, e, hrd⟩ := HU.out.later HBL.out
              injection e with e1 _ _
              obtain ⟨g, off, e2, y⟩ := hrd i _ (nthT_get (by rw [← HN.out]; exact hin))
              exact ⟨g, off, e1.trans e2, y⟩
            obtain ⟨g, off, rfl, c1⟩ := c1
            rw [if_pos hin] at c0
            generalize nthT ys i = t at c0 c1
            have d1 : decide ((i : Int) < (n : Int)) = true := by simpa using hin
            have d2 : decide (i < n) = true := by simpa using hin
            have d3 : (n ≤ i) = False := eq_false (by omega)
            have d4 : decide ((n : Int) ≤ (i : Int)) = false := by simpa using hin
            have d5 : ((i : Int) < (n : Int)) = True := eq_true (by omega)
            have d6 : ((n : Int) ≤ (i : Int)) = False := eq_false (by omega)
            go_wp2_with fail
            go_quiet (fail)
            go_wp2_with fail
            refine (HM2.out _ (Below.drewN (Below.refl _ _) _)).mono ?_
            rintro e w5 ⟨rfl, hb5⟩
            obtain ⟨c5, l5, g5, s5⟩ := HG4.out w5 (Below.on (Below.drewN (Below.refl _ _) _) hb5)
            have G5 := hid g5
            have S5 := hid s5
            clear hb5 g5 s5 HG4 HM2
            go_wp2_with fail
            go_roundg (n + 3 - (i + 1))
            case measure => omega
            case rel => exact ⟨i + 1, by omega, rfl, by go_num, G5.out, S5.out⟩
          · rw [if_neg hin] at c0
            have HM1 : Hid (∀ wz, Below wr.heap.size wr wz → Calls Tryd.prog 17 #[.int .i64 (-1), .int .i64 (i : Int)] wz fun e w' => e = .returned (.string (markB (-1) i)) ∧ Below wz.heap.size wz w') := fun wz hb => HMARK.out wz (-1) i (Below.on HBL.out hb) (by omega) (by omega) (by omega) (by omega)
            generalize markB (-1) (i : Int) = t at c0 HM1
            have d1 : decide ((i : Int) < (n : Int)) = false := by simpa using hin
            have d2 : decide (i < n) = false := by simpa using hin
            have d3 : (n ≤ i) = True := eq_true (by omega)
            have d4 : decide ((n : Int) ≤ (i : Int)) = true := by simpa using hin
            have d5 : ((i : Int) < (n : Int)) = False := eq_false (by omega)
            have d6 : ((n : Int) ≤ (i : Int)) = True := eq_true (by omega)
            go_wp2_with fail
            have c0r := cell_regrown c0
            clear c0
            refine wp_region_quiet_below (by kernel_rfl) (by kernel_rfl) ?_
            repeat (go_big_quiet_step (((go_at_call 17; exact Calls.regrown_of (HM1.out _ (below_of_regrown ⟨⟨_, _⟩, rfl⟩))))))
            refine wpQuiet_nil ?_
            intro wn hwn
            replace hwn := below_of_regrown hwn
            go_wp2_with fail
            refine (HM2.out wn hwn).mono ?_
            rintro e w5 ⟨rfl, hb5⟩
            obtain ⟨c5, l5, g5, s5⟩ := HG4.out w5 (Below.on hwn hb5)
            have G5 := hid g5
            have S5 := hid s5
            clear hb5 g5 s5 HG4 HM2 hwn
            go_wp2_with fail
            go_roundg (n + 3 - (i + 1))
            case measure => omega
            case rel => exact ⟨i + 1, by omega, rfl, by go_num, G5.out, S5.out⟩
        · obtain rfl : i = n + 3 := by omega
          clear hlt hi
          go_wp2_with fail
          go_ret
          obtain ⟨_, v', m, _⟩ := HS.out
          exact ⟨rfl, v', m⟩
end Go.Proofs.YtpnbgdbkiokooaaDoor.Fl
