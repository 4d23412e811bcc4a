import Derived.Test.YthenfioddnkjbaaGreatDoorRSharesW
import Derived.Test.YthenfioddnkjbaaGreatDoorRxCut
/- A share while its lists are gathered; the shares gathered. -/
namespace Go.Proofs.YthenfioddnkjbaaGreatDoor.Rt
open Go.RowKit Go.Sort
set_option linter.unusedVariables false

/-- a share of shard n in block G: its lists are rows of its own -/
structure Hs (w : World) (G n : Nat) (vr vw : Value) (R : List T2) (V : List Wr) : Prop where
  c0 : w.cell? ⟨G, 0, none⟩ = some (.int .u32 (n : Int))
  c1 : w.cell? ⟨G, 1, none⟩ = some vr
  c2 : w.cell? ⟨G, 2, none⟩ = some vw
  reads : OwR w G vr R
  writes : OwW w G vw V
  loose : ∀ o, w.frozen? ⟨G, o, none⟩ = false
  lt : G < w.heap.size
section
variable {w : World} {G n : Nat} {vr vw : Value} {R : List T2} {V : List Wr}
theorem Hs.later (h : Hs w G n vr vw R V) {w' : World} (hb : Below w.heap.size w w') : Hs w' G n vr vw R V :=
  ⟨cell_later hb h.c0, cell_later hb h.c1, cell_later hb h.c2, owns_on h.reads hb, owns_on h.writes hb, fun o => (hb.frozen (p := ⟨G, o, none⟩) h.lt).trans (h.loose o), Nat.lt_of_lt_of_le h.lt hb.size⟩
theorem Hs.new (w : World) (n : Nat) (t : TypeId) : Hs (w.alloc (.cells #[.int .u32 (n : Int), .slice none 0 0, .slice none 0 0] t)) w.heap.size n (.slice none 0 0) (.slice none 0 0) [] [] := by
  obtain ⟨h0, h1, h2⟩ := newT w (.int .u32 (n : Int)) (.slice none 0 0) (.slice none 0 0) t
  exact ⟨h0, h1, h2, World.ownsRow_nil _ _ _ _, World.ownsRow_nil _ _ _ _, fun o => by simp [go_sem], by simp⟩
/-- a row that another row's growth does not touch -/
theorem owns_apart {w w1 : World} {b1 b2 n1 n2 s1 s2 : Nat} {e1 e2 : TypeId} {v1 v2 : Value} {xs ys : List Value} (h1 : w.ownsRow b1 e1 s1 v1 n1 xs) (h2 : w.ownsRow b2 e2 s2 v2 n2 ys) (hne : e1 ≠ e2) (hg : w.grownBy w1 v2.ownBlock) : w1.ownsRow b1 e1 s1 v1 n1 xs :=
  owns_keep h1 fun g hg1 => hg.block g (World.ownsRow.lt h1 g hg1).2 (fun e => by
    rcases rows_apart h1 h2 hne with h | h
    · rw [h] at hg1; cases hg1
    · exact h (hg1.trans e))
theorem Hs.putR (h : Hs w G n vr vw R V) {w1 : World} {v' : Value} {t : T2} (hg : w.grownBy w1 vr.ownBlock) (ho : w1.ownsRow (G + 1) 49 2 v' (R.length + 1) (flat2 R ++ [.string t.1, .string t.2])) :
    Hs (w1.setCell ⟨G, 1, none⟩ v') G n v' vw (R ++ [t]) V := by
  have hGo : vr.ownBlock ≠ some G := fun e => by have := (World.ownsRow.lt h.reads G e).1; omega
  have hb := hg.block G h.lt (fun e => hGo e.symm)
  have hcell : ∀ o v, w.cell? ⟨G, o, none⟩ = some v → w1.cell? ⟨G, o, none⟩ = some v := fun o v hc => by
    simp only [World.cell?, hb] at hc ⊢
    exact hc
  refine ⟨cell_setc (by simp only [ne_eq, Addr.mk.injEq]; omega) (hcell _ _ h.c0), World.cell?_setCell_same _ _ _ (hcell _ _ h.c1), cell_setc (by simp only [ne_eq, Addr.mk.injEq]; omega) (hcell _ _ h.c2), ?_, ?_, fun o => ?_, ?_⟩
  · refine owns_put ?_ _ _
    have e1 : (R ++ [t]).length = R.length + 1 := by simp
    have e2 : flat2 (R ++ [t]) = flat2 R ++ [.string t.1, .string t.2] := by simp [flat2]
    rw [e1, e2]; exact ho
  · exact owns_put (owns_apart h.writes h.reads (by decide) hg) _ _
  · rw [World.frozen?_setCell]
    have := h.loose o
    simp only [World.frozen?, hb] at this ⊢; exact this
  · rw [World.size_setCell]; exact Nat.lt_of_lt_of_le h.lt hg.size
theorem Hs.putW (h : Hs w G n vr vw R V) {w1 : World} {v' : Value} {t : Wr} (hg : w.grownBy w1 vw.ownBlock) (ho : w1.ownsRow (G + 1) 135 3 v' (V.length + 1) (flatW V ++ [.string t.key, .bool t.del, .string t.val])) :
    Hs (w1.setCell ⟨G, 2, none⟩ v') G n vr v' R (V ++ [t]) := by
  have hGo : vw.ownBlock ≠ some G := fun e => by have := (World.ownsRow.lt h.writes G e).1; omega
  have hb := hg.block G h.lt (fun e => hGo e.symm)
  have hcell : ∀ o v, w.cell? ⟨G, o, none⟩ = some v → w1.cell? ⟨G, o, none⟩ = some v := fun o v hc => by
    simp only [World.cell?, hb] at hc ⊢
    exact hc
  refine ⟨cell_setc (by simp only [ne_eq, Addr.mk.injEq]; omega) (hcell _ _ h.c0), cell_setc (by simp only [ne_eq, Addr.mk.injEq]; omega) (hcell _ _ h.c1), World.cell?_setCell_same _ _ _ (hcell _ _ h.c2), ?_, ?_, fun o => ?_, ?_⟩
  · exact owns_put (owns_apart h.reads h.writes (by decide) hg) _ _
  · refine owns_put ?_ _ _
    have e1 : (V ++ [t]).length = V.length + 1 := by simp
    have e2 : flatW (V ++ [t]) = flatW V ++ [.string t.key, .bool t.del, .string t.val] := by simp [flatW]
    rw [e1, e2]; exact ho
  · rw [World.frozen?_setCell]
    have := h.loose o
    simp only [World.frozen?, hb] at this ⊢; exact this
  · rw [World.size_setCell]; exact Nat.lt_of_lt_of_le h.lt hg.size
end
theorem flatTk_len : ∀ L : List Tk, (flatTk L).length = L.length * 3
  | [] => rfl
  | x :: L => by show (cellsS x ++ flatTk L).length = _; rw [List.length_append, flatTk_len L]; simp [cellsS]; omega
def nthT (L : List Tk) (i : Nat) : Tk := L[i]?.getD (0, .bool false, .bool false)
/-- the shares gathered: L as they lie, l what they are -/
structure Shs (w0 w : World) (v : Value) (l : List Sh) (L : List Tk) : Prop where
  own : OwnS w w0.heap.size v L
  len : L.length = l.length
  each : ∀ i, i < L.length → (nthT L i).1 = (nthSh l i).1 ∧ ∃ G, OwR w G (nthT L i).2.1 (nthSh l i).2.1 ∧ OwW w G (nthT L i).2.2 (nthSh l i).2.2
  bel : Below w0.heap.size w0 w
section
variable {w0 w : World} {v : Value} {l : List Sh} {L : List Tk}
theorem Shs.nil (w0 : World) : Shs w0 w0 (.slice none 0 0) [] [] := ⟨OwnS.nil _ _, rfl, fun i hi => by simp at hi, Below.refl _ _⟩
theorem Shs.later (h : Shs w0 w v l L) {w' : World} (hb : Below w.heap.size w w') : Shs w0 w' v l L :=
  ⟨h.own.later hb, h.len, fun i hi => by
    obtain ⟨h1, G, h2, h3⟩ := h.each i hi
    exact ⟨h1, G, owns_on h2 hb, owns_on h3 hb⟩, Below.on h.bel hb⟩
theorem Shs.add (h : Shs w0 w v l L) {G n : Nat} {vr vw : Value} {R : List T2} {V : List Wr} (hh : Hs w G n vr vw R V) {w1 : World} {v' : Value} (ho : OwnS w1 w0.heap.size v' (L ++ [(n, vr, vw)])) (hg : w.grownBy w1 v.ownBlock) : Shs w0 w1 v' (l ++ [(n, R, V)]) (L ++ [(n, vr, vw)]) := by
  refine ⟨ho, by simp [h.len], fun i hi => ?_, h.own.grown hg h.bel (Nat.le_refl _)⟩
  by_cases e : i < L.length
  · have e1 : nthT (L ++ [(n, vr, vw)]) i = nthT L i := by simp [nthT, List.getElem?_append_left e]
    have e2 : nthSh (l ++ [(n, R, V)]) i = nthSh l i := by simp [nthSh, List.getElem?_append_left (show i < l.length by rw [← h.len]; exact e)]
    rw [e1, e2]
    obtain ⟨h1, G', h2, h3⟩ := h.each i e
    exact ⟨h1, G', owns_apart h2 h.own (by decide) hg, owns_apart h3 h.own (by decide) hg⟩
  · have ei : i = L.length := by simp at hi; omega
    have e1 : nthT (L ++ [(n, vr, vw)]) i = (n, vr, vw) := by rw [ei]; simp [nthT]
    have e2 : nthSh (l ++ [(n, R, V)]) i = (n, R, V) := by rw [ei, h.len]; simp [nthSh]
    rw [e1, e2]
    exact ⟨rfl, G, owns_apart hh.reads h.own (by decide) hg, owns_apart hh.writes h.own (by decide) hg⟩
theorem Shs.row (h : Shs w0 w v l L) : ∃ a c, v = .slice a l.length c ∧ RowSh w a l := by
  have hl := h.len
  rcases h.own.2 with ⟨hv, h1⟩ | ⟨g, cap, cur, hv, _⟩
  · exact ⟨none, 0, by rw [hv, ← hl, h1], fun i hi => by omega⟩
  · subst hv
    refine ⟨some ⟨g, 0, none⟩, cap, by rw [hl], fun i hi => ?_⟩
    have hi' : i < L.length := by omega
    obtain ⟨h1, G, h2, h3⟩ := h.each i hi'
    obtain ⟨ra, rc, er, hr⟩ := OwR.row h2
    obtain ⟨wa, wc, ew, hw⟩ := OwW.row h3
    have hlf := flatTk_len L
    refine ⟨g, 0, ra, rc, wa, wc, rfl, ?_, ?_, ?_, hr, hw⟩
    · rw [Nat.zero_add]
      have := World.ownsRow.cellAt h.own (i * 3) (by omega)
      rw [this]
      have h5 := flatTk_get L i 0 hi' (by omega)
      rw [Nat.add_zero] at h5
      rw [h5, ← h1]; rfl
    · rw [Nat.zero_add]
      have := World.ownsRow.cellAt h.own (i * 3 + 1) (by omega)
      rw [this, flatTk_get L i 1 hi' (by omega), ← er]; rfl
    · rw [Nat.zero_add]
      have := World.ownsRow.cellAt h.own (i * 3 + 2) (by omega)
      rw [this, flatTk_get L i 2 hi' (by omega), ← ew]; rfl
end
end Go.Proofs.YthenfioddnkjbaaGreatDoor.Rt
/- The document's Shares. -/
namespace Go.Proofs.YthenfioddnkjbaaGreatDoor.Rt
open Go.RowKit Go.Sort
set_option linter.unusedVariables false

theorem sl_of {w : World} {B n k : Nat} {t : TypeId} {v : Value} {xs : List Value} (h : w.ownsRow B t k v n xs) : ∃ a c, v = .slice a n c := by
  rcases h.2 with ⟨rfl, rfl⟩ | ⟨g, cap, cur, rfl, _⟩
  · exact ⟨_, _, rfl⟩
  · exact ⟨_, _, rfl⟩
def ShP (w : World) (l : List Sh) (e : Ending) (w' : World) : Prop := (∃ a cp, e = .returned (.slice a l.length cp) ∧ RowSh w' a l) ∧ Below w.heap.size w w'
set_option maxRecDepth 100000 in
set_option maxHeartbeats 4000000 in
theorem rShares_is {c : Cf} {w : World} (h : c.Ok w) (hv : c.okB = true) {ra wa : Option Addr} {rc wc : Nat} {rs : List T2} {ws : List Wr} (hr : Row2 w ra rs) (hw : RowW w wa ws) (hrl : rs.length ≤ 4398046511104) (hwl : ws.length ≤ 3518437208883) :
    Calls Tryz.prog 35 #[c.val, .slice ra rs.length rc, .slice wa ws.length wc] w (ShP w (shareL c.ss rs ws)) := by
  obtain ⟨hl5, hsh, hri⟩ := ok_len hv
  obtain ⟨N, hN⟩ : ∃ N, N = c.ss.length + 1 := ⟨_, rfl⟩
  have HSH : Hid (c.sh = (N : Int) ∧ N = c.ss.length + 1) := hid ⟨by rw [hsh, hN]; simp, hN⟩
  have hN6 : N ≤ 6 := by omega
  have H := hid h; have HR := hid hr; have HW := hid hw; have HV := hid hv
  have HRI := hid hri
  have HB := hid (BoxC.new w c 26)
  clear h hr hw hv hsh hri hN
  go_enter Tryz.func35, Tryz.ntmps35
  go_wp2_with fail
  refine (rvalid_is (H.out.later (by (repeat (first | exact Below.refl _ _ | assumption | refine Below.drew ?_ | refine Below.al ?_ _ | refine Below.setCell ?_ (by first | exact Nat.le_refl _ | (simp; omega) | (simp; done)) _ | refine Below.on ?_ (by assumption))))) HV.out).mono ?_
  rintro e w0 ⟨rfl, hw0⟩
  have HC := hid (HB.out.later hw0)
  have H0 : Hid (Below w.heap.size w w0) := hid (by (repeat (first | exact Below.refl _ _ | assumption | refine Below.drew ?_ | refine Below.al ?_ _ | refine Below.setCell ?_ (by first | exact Nat.le_refl _ | (simp; omega) | (simp; done)) _ | refine Below.on ?_ (by assumption))))
  clear hw0 HB
  go_wp2_with fail
  go_loopg [7, 8] N (fun g s7 s8 wr => ∃ n : Nat, n ≤ N ∧ g = N - n ∧ s8 = .int .i64 n ∧ ∃ L, Hid (Shs w0 wr s7 (shareN c.ss rs ws n) L))
  case atStart => exact ⟨0, by omega, by omega, rfl, [], hid (Shs.nil _)⟩
  case round =>
    rename World => wN
    obtain ⟨n, hn, rfl, rfl, L, HS⟩ := hrel
    obtain ⟨v7, hv7⟩ : ∃ v7, v7 = u7 := ⟨_, rfl⟩
    rw [← hv7] at HS
    rw [← hv7]
    clear hv7
    have hB0 : BoxC wN w.heap.size c := HC.out.later HS.out.bel
    obtain ⟨c0, c1, c2, c3, c4, c5⟩ := hB0
    rw [HSH.out.1] at c0
    by_cases hlt : n < N
    · have HH := hid (Hs.new wN n 84)
      have HBH : Hid (Below wN.heap.size wN (wN.alloc (.cells #[.int .u32 (n : Int), .slice none 0 0, .slice none 0 0] 84))) := hid (Below.al (Below.refl _ _) _)
      have HCN : Hid (BoxC wN w.heap.size c) := hid (HC.out.later HS.out.bel)
      have HN1 : Hid (Below w.heap.size w wN) := hid (Below.on H0.out HS.out.bel)
      go_wp2_with fail
      obtain ⟨wG, hwG⟩ : ∃ wG, wG = wN.alloc (.cells #[.int .u32 (n : Int), .slice none 0 0, .slice none 0 0] 84) := ⟨_, rfl⟩
      rw [← hwG] at HH HBH ⊢
      obtain ⟨G, hG⟩ : ∃ G, G = wN.heap.size := ⟨_, rfl⟩
      rw [← hG] at HH ⊢
      have HG := hid hG
      clear hwG hG c0 c1 c2 c3 c4 c5
      obtain ⟨i2, hi2, hz0, hz1, hz2⟩ := info_ofR infoR2
      go_loopg [10] rs.length (fun g s10 wr => ∃ m : Nat, m ≤ rs.length ∧ g = rs.length - m ∧ s10 = .int .i64 m ∧ Hid ((∃ vr, Hs wr G n vr (.slice none 0 0) (readsL c.ss (rs.take m) n) []) ∧ Below wN.heap.size wN wr))
      case atStart => exact ⟨0, by omega, by omega, rfl, hid ⟨⟨_, HH.out⟩, HBH.out⟩⟩
      case round =>
        rename World => wM
        obtain ⟨m, hm, rfl, rfl, HM⟩ := hrel
        clear HH HBH
        by_cases hlm : m < rs.length
        · obtain ⟨b, off, rfl, s0, s1⟩ := (HR.out.later (Below.on HN1.out HM.out.2)) m hlm
          obtain ⟨c0, c1, c2, c3, c4, c5⟩ := HCN.out.later HM.out.2
          rw [HSH.out.1] at c0
          obtain ⟨r, hr⟩ : ∃ r, r = reachN c.ss n := ⟨_, rfl⟩
          obtain ⟨rl, rh⟩ := r
          obtain ⟨x, hx⟩ : ∃ x, x = nth2 rs m := ⟨_, rfl⟩
          rw [← hx] at s0 s1
          obtain ⟨lo, hi⟩ := x
          simp only at s0 s1
          obtain ⟨t, hb⟩ : ∃ t, t = join (lo, hi) (rl, rh) := ⟨_, rfl⟩
          obtain ⟨tl, th⟩ := t
          obtain ⟨tb, htb⟩ : ∃ tb, tb = !void (tl, th) := ⟨_, rfl⟩
          have HT : Hid (readsL c.ss (rs.take (m + 1)) n = readsL c.ss (rs.take m) n ++ if tb then [(tl, th)] else []) := hid (by
            rw [reads_snoc c.ss hlm, ← hx, ← hr, comm_comm, comm, ← hb, htb]
            cases void (tl, th) <;> rfl)
          have HR1 : Hid (∀ W, Below wM.heap.size wM W → Calls Tryz.prog 77 #[.agg #[.int .i64 (N : Int), .int .i64 c.cl, .slice c.a c.ss.length c.cp, .int .i64 c.ca, .int .i64 c.pk, .int .u64 c.wi], .int .i64 (n : Int)] W fun e w' => e = .returned (spv (rl, rh)) ∧ Below W.heap.size W w') := hid (fun W hW => by rw [← HSH.out.1, hr]; exact rranges_is (H.out.later (Below.on (Below.on HN1.out HM.out.2) hW)) hl5 (by have := HSH.out.2; omega))
          have HM1 : Hid (∀ W, Calls Tryz.prog 79 #[spv (lo, hi), spv (rl, rh)] W fun e w' => e = .returned (.tuple #[spv (tl, th), .bool tb]) ∧ Below W.heap.size W w') := hid (fun W => by
            have := rcommon_is (lo, hi) (rl, rh) W
            rw [← hb, ← htb] at this
            exact this)
          clear hb hr htb hx
          go_wp2_with fail
          go_cut [11, 12] (fun s7 s8 wx => ∃ q : Nat, s7 = .pointer (some ⟨q, 0, none⟩) ∧ s8 = .bool tb ∧ wx.cell? ⟨q, 0, none⟩ = some (.string tl) ∧ wx.cell? ⟨q, 1, none⟩ = some (.string th) ∧ Below wM.heap.size wM wx)
          case first =>
            go_region_held3 (fun w' => w'.cell? ⟨w.heap.size, 0, none⟩ = some (.int .i64 (N : Int)) ∧ w'.cell? ⟨w.heap.size, 1, none⟩ = some (.int .i64 c.cl) ∧ w'.cell? ⟨w.heap.size, 2, none⟩ = some (.slice c.a c.ss.length c.cp) ∧ w'.cell? ⟨w.heap.size, 3, none⟩ = some (.int .i64 c.ca) ∧ w'.cell? ⟨w.heap.size, 4, none⟩ = some (.int .i64 c.pk) ∧ w'.cell? ⟨w.heap.size, 5, none⟩ = some (.int .u64 c.wi) ∧ w'.cell? ⟨b, off + m * 2, none⟩ = some (.string lo) ∧ w'.cell? ⟨b, off + m * 2 + 1, none⟩ = some (.string hi) ∧ Below wM.heap.size wM w')
              ((refine (fun (hB : Below wM.heap.size wM _) => ⟨cell_later hB c0, cell_later hB c1, cell_later hB c2, cell_later hB c3, cell_later hB c4, cell_later hB c5, cell_later hB s0, cell_later hB s1, hB⟩) ?_; (repeat (first | with_reducible exact Below.refl _ _ | with_reducible assumption | with_reducible refine Below.drew ?_ | with_reducible refine Below.al ?_ _ | with_reducible refine Below.setCell ?_ (by first | exact Nat.le_refl _ | (have hz := HZ1.out; simp at hz ⊢; omega) | (simp; omega) | (simp; done)) _ | with_reducible refine Below.on ?_ (by assumption)))))
              (first | (go_at_call 77; refine (HR1.out _ (by (repeat (first | with_reducible exact Below.refl _ _ | with_reducible assumption | with_reducible refine Below.drew ?_ | with_reducible refine Below.al ?_ _ | with_reducible refine Below.setCell ?_ (by first | exact Nat.le_refl _ | (simp; omega) | (simp; done)) _ | with_reducible refine Below.on ?_ (by assumption))))).mono ?_; rintro e w1 ⟨rfl, hb1⟩; have HZ1 := hid hb1.size; try (have HG1 := hid (newSp_drew (w := wM) hb1))) | (go_at_call 79; refine (HM1.out _).mono ?_; rintro e w2 ⟨rfl, hb2⟩; have hz2 := hb2.size; first | (have hG := cells_on HG1.out hb2; obtain ⟨⟨g0, g1, g2⟩, g3⟩ := hG) | (obtain ⟨hc2, hf2⟩ := bcell hb2)))
            all_goals (try go_wp2_with fail)
            all_goals go_meet
            all_goals (have hz1 := HZ1.out; simp only [World.size_drew, World.size_alloc] at hz1)
            all_goals (refine ⟨_, rfl, rfl, ?_, ?_, ?_⟩)
            all_goals (first | (simp [go_sem, hc2]; done) | (simp [go_sem, g0, g1]; done) | (repeat (first | exact Below.refl _ _ | assumption | refine Below.drew ?_ | refine Below.al ?_ _ | refine Below.setCell ?_ (by first | exact Nat.le_refl _ | (simp; omega) | (simp; done)) _ | refine Below.on ?_ (by assumption))))
          case rest =>
            rename World => wX
            obtain ⟨q, rfl, rfl, q0, q1, hbx⟩ := hcut
            have HMX : Hid ((∃ vr, Hs wX G n vr (.slice none 0 0) (readsL c.ss (rs.take m) n) []) ∧ Below wN.heap.size wN wX) := hid (by
              obtain ⟨⟨vr, h1⟩, h2⟩ := HM.out
              exact ⟨⟨vr, h1.later hbx⟩, Below.on h2 hbx⟩)
            clear hbx HM HR1 HM1 c0 c1 c2 c3 c4 c5 s0 s1
            cases tb
            · go_wp2_with fail
              go_roundg (rs.length - (m + 1))
              case measure => omega
              case rel => exact ⟨m + 1, by omega, rfl, by go_num, hid (by rw [HT.out]; simpa using HMX.out)⟩
            · obtain ⟨⟨vr, hh⟩, hbw⟩ := HMX.out
              obtain ⟨lr, hlr⟩ : ∃ lr, lr = readsL c.ss (rs.take m) n := ⟨_, rfl⟩
              rw [← hlr] at hh HT
              have hllr : lr.length ≤ m := by rw [hlr]; have := reads_le c.ss (rs.take m) n; rw [List.length_take] at this; omega
              obtain ⟨av, cv, hav⟩ := owR_slice hh.reads
              subst hav
              have k1 := hh.c1
              have kf := hh.loose
              have HHH := hid hh
              have HBW := hid hbw
              clear hh hbw hlr HMX
              obtain ⟨wA, hwA⟩ : ∃ wA, wA = wX.alloc (.cells #[.string tl, .string th] 49) := ⟨_, rfl⟩
              have hbA : Below wX.heap.size wX wA := by rw [hwA]; exact Below.al (Below.refl _ _) _
              have N1 : Hid (∀ j u, ([.string tl, .string th] : List Value)[j]? = some u → (wX.alloc (.cells #[.string tl, .string th] 49)).cell? ((⟨wX.heap.size, 0, none⟩ : Addr).add j) = some u) := hid (fun j u hj => by
                rw [Addr.add_lit, Nat.zero_add, World.cell?_alloc_new]
                simpa using hj)
              have N2 : Hid (∀ u ∈ ([.string tl, .string th] : List Value), u.oneCell' = true) := hid (fun u hu => by simp at hu; rcases hu with rfl | rfl <;> rfl)
              have N3 : Hid (lr.length + 1 ≤ maxLen) := by show _ ≤ _; unfold maxLen; omega
              have N4 : Hid ((lr.length + 1) * 32 ≤ 140737488355328) := by show _ ≤ _; omega
              have HHA := hid (HHH.out.later hbA)
              rw [hwA] at HHA
              have HGA : Hid (G + 1 ≤ (wX.alloc (.cells #[.string tl, .string th] 49)).heap.size) := hid HHA.out.lt
              clear hwA hbA
              go_wp2_with (at_builtin; refine wpList_append_own _ rfl _ _ 50 rfl (G + 1) 49 i2 (.agg #[.string ⟨#[]⟩, .string ⟨#[]⟩]) 2 32 Tryz.underlying50 hi2 hz0 hz1 hz2 rfl (by decide) (.slice av lr.length cv) lr.length (flat2 lr) rfl HHA.out.reads ⟨wX.heap.size, 0, none⟩ 1 1 [.string tl, .string th] rfl rfl N1.out N2.out N3.out N4.out HGA.out ?_; intro v' w5 hown hgrow _; obtain ⟨a', c', e9⟩ := sl_of hown; subst e9; have HP5 := hid (HHA.out.putR (t := (tl, th)) hgrow hown); have HO5 := hid (grown_onl hgrow); have hnG := (fun e => (by have := (World.ownsRow.lt HHA.out.reads G e).1; omega) : ¬ ((Value.slice av lr.length cv).ownBlock = some G)); have k5 := HO5.out.cell hnG HHA.out.c1; have f5 : ∀ o, w5.frozen? ⟨G, o, none⟩ = false := HO5.out.loose hnG HHA.out.lt HHA.out.loose; have HB5 := hid ((Below.al HBW.out (.cells #[.string tl, .string th] 49)).grown hgrow (by have := HBW.out.size; simp; omega) (fun k hk => by have := (World.ownsRow.lt HHA.out.reads k hk).1; have := HG.out; omega)); clear hown hgrow hnG)
              go_roundg (rs.length - (m + 1))
              case measure => omega
              case rel => exact ⟨m + 1, by omega, rfl, by go_num, hid ⟨⟨_, by rw [HT.out]; simpa using HP5.out⟩, Below.setCell HB5.out (by have := HG.out; simp; omega) _⟩⟩
        · obtain rfl : m = rs.length := by omega
          have HM2 : Hid ((∃ vr vw, Hs wM G n vr vw (readsL c.ss rs n) (writesL c.ss (ws.take 0) n)) ∧ Below wN.heap.size wN wM) := hid (by
            obtain ⟨⟨vr, h1⟩, h2⟩ := HM.out
            rw [List.take_length] at h1
            exact ⟨⟨vr, _, h1⟩, h2⟩)
          clear HM
          obtain ⟨iw, hiw, hy0, hy1, hy2⟩ := info_ofR infoRW
          go_wp2_with fail
          go_loopg [13] ws.length (fun g s13 wr => ∃ k : Nat, k ≤ ws.length ∧ g = ws.length - k ∧ s13 = .int .i64 k ∧ Hid ((∃ vr vw, Hs wr G n vr vw (readsL c.ss rs n) (writesL c.ss (ws.take k) n)) ∧ Below wN.heap.size wN wr))
          case atStart => exact ⟨0, by omega, by omega, rfl, HM2⟩
          case round =>
            rename World => wK
            obtain ⟨k, hk, rfl, rfl, HK⟩ := hrel
            clear HM2
            by_cases hlk : k < ws.length
            · obtain ⟨b, off, rfl, d0, d1, d2⟩ := (HW.out.later (Below.on HN1.out HK.out.2)) k hlk
              obtain ⟨c0, c1, c2, c3, c4, c5⟩ := HCN.out.later HK.out.2
              rw [HSH.out.1] at c0
              obtain ⟨x, hx⟩ : ∃ x, x = nthW ws k := ⟨_, rfl⟩
              rw [← hx] at d0 d1 d2
              obtain ⟨xk, xd, xv⟩ := x
              simp only at d0 d1 d2
              obtain ⟨r, hr⟩ : ∃ r, r = reachN c.ss n := ⟨_, rfl⟩
              obtain ⟨rl, rh⟩ := r
              obtain ⟨tb, htb⟩ : ∃ tb, tb = decide (ownN c.ss xk = n) := ⟨_, rfl⟩
              have HT : Hid (writesL c.ss (ws.take (k + 1)) n = writesL c.ss (ws.take k) n ++ if tb then [⟨xk, xd, xv⟩] else []) := hid (by
                rw [writes_snoc c.ss hlk, ← hx, htb]
                simp only [decide_eq_true_eq])
              have HR1 : Hid (∀ W, Below wK.heap.size wK W → Calls Tryz.prog 77 #[.agg #[.int .i64 (N : Int), .int .i64 c.cl, .slice c.a c.ss.length c.cp, .int .i64 c.ca, .int .i64 c.pk, .int .u64 c.wi], .int .i64 (n : Int)] W fun e w' => e = .returned (spv (rl, rh)) ∧ Below W.heap.size W w') := hid (fun W hW => by rw [← HSH.out.1, hr]; exact rranges_is (H.out.later (Below.on (Below.on HN1.out HK.out.2) hW)) hl5 (by have := HSH.out.2; omega))
              have HI1 : Hid (∀ W, Calls Tryz.prog 76 #[.string xk, spv (rl, rh)] W fun e w' => e = .returned (.bool tb) ∧ Below W.heap.size W w') := hid (fun W => by
                have h := rinside_is xk (reachN c.ss n) W
                rw [ins_reach HRI.out xk (by have := HSH.out.2; omega), ← htb, ← hr] at h
                exact h)
              clear hr htb hx
              go_wp2_with fail
              go_cut [65] (fun s65 wx => s65 = .bool tb ∧ Below wK.heap.size wK wx)
              case first =>
                go_region_held3 (fun w' => w'.cell? ⟨w.heap.size, 0, none⟩ = some (.int .i64 (N : Int)) ∧ w'.cell? ⟨w.heap.size, 1, none⟩ = some (.int .i64 c.cl) ∧ w'.cell? ⟨w.heap.size, 2, none⟩ = some (.slice c.a c.ss.length c.cp) ∧ w'.cell? ⟨w.heap.size, 3, none⟩ = some (.int .i64 c.ca) ∧ w'.cell? ⟨w.heap.size, 4, none⟩ = some (.int .i64 c.pk) ∧ w'.cell? ⟨w.heap.size, 5, none⟩ = some (.int .u64 c.wi) ∧ w'.cell? ⟨b, off + k * 3, none⟩ = some (.string xk) ∧ Below wK.heap.size wK w')
                  ((refine (fun (hB : Below wK.heap.size wK _) => ⟨cell_later hB c0, cell_later hB c1, cell_later hB c2, cell_later hB c3, cell_later hB c4, cell_later hB c5, cell_later hB d0, hB⟩) ?_; (repeat (first | with_reducible exact Below.refl _ _ | with_reducible assumption | with_reducible refine Below.drew ?_ | with_reducible refine Below.al ?_ _ | with_reducible refine Below.setCell ?_ (by first | exact Nat.le_refl _ | (have hz := HZ1.out; simp at hz ⊢; omega) | (simp; omega) | (simp; done)) _ | with_reducible refine Below.on ?_ (by assumption)))))
                  (first | (go_at_call 77; refine (HR1.out _ (by (repeat (first | with_reducible exact Below.refl _ _ | with_reducible assumption | with_reducible refine Below.drew ?_ | with_reducible refine Below.al ?_ _ | with_reducible refine Below.setCell ?_ (by first | exact Nat.le_refl _ | (simp; omega) | (simp; done)) _ | with_reducible refine Below.on ?_ (by assumption))))).mono ?_; rintro e w1 ⟨rfl, hb1⟩) | (go_at_call 76; refine (HI1.out _).mono ?_; rintro e w2 ⟨rfl, hb2⟩))
                all_goals (try go_wp2_with fail)
                all_goals go_meet
                all_goals (refine ⟨rfl, ?_⟩)
                all_goals (repeat (first | exact Below.refl _ _ | assumption | refine Below.drew ?_ | refine Below.al ?_ _ | refine Below.setCell ?_ (by first | exact Nat.le_refl _ | (simp; omega) | (simp; done)) _ | refine Below.on ?_ (by assumption)))
              case rest =>
                rename World => wX
                obtain ⟨rfl, hbx⟩ := hcut
                have HKX : Hid ((∃ vr vw, Hs wX G n vr vw (readsL c.ss rs n) (writesL c.ss (ws.take k) n)) ∧ Below wN.heap.size wN wX) := hid (by
                  obtain ⟨⟨vr, vw, h1⟩, h2⟩ := HK.out
                  exact ⟨⟨vr, vw, h1.later hbx⟩, Below.on h2 hbx⟩)
                have e0 := cell_later hbx d0
                have e1 := cell_later hbx d1
                have e2 := cell_later hbx d2
                clear hbx HK HR1 HI1 c0 c1 c2 c3 c4 c5 d0 d1 d2
                cases tb
                · go_wp2_with fail
                  go_roundg (ws.length - (k + 1))
                  case measure => omega
                  case rel => exact ⟨k + 1, by omega, rfl, by go_num, hid (by rw [HT.out]; simpa using HKX.out)⟩
                · obtain ⟨⟨vr, vw, hh⟩, hbw⟩ := HKX.out
                  obtain ⟨lw, hlw⟩ : ∃ lw, lw = writesL c.ss (ws.take k) n := ⟨_, rfl⟩
                  rw [← hlw] at hh HT
                  have hllw : lw.length ≤ k := by rw [hlw]; have := writes_le c.ss (ws.take k) n; rw [List.length_take] at this; omega
                  obtain ⟨av, cv, hav⟩ := owW_slice hh.writes
                  subst hav
                  have k1 := hh.c2
                  have kf := hh.loose
                  have HHH := hid hh
                  have HBW := hid hbw
                  clear hh hbw hlw HKX
                  obtain ⟨WA, hWA⟩ : ∃ WA, WA = (wX.alloc (.cells #[.string xk, .bool xd, .string xv] 135)).drew := ⟨_, rfl⟩
                  have hbA : Below wX.heap.size wX WA := by rw [hWA]; exact Below.drew (Below.al (Below.refl _ _) _)
                  have n1 : Hid (∀ j u, ([.string xk, .bool xd, .string xv] : List Value)[j]? = some u → WA.cell? ((⟨wX.heap.size, 0, none⟩ : Addr).add j) = some u) := hid (by rw [hWA]; exact fresh_wr wX xk xd xv)
                  have n2 : Hid (∀ u ∈ ([.string xk, .bool xd, .string xv] : List Value), u.oneCell' = true) := hid (fun u hu => by simp at hu; rcases hu with rfl | rfl | rfl <;> rfl)
                  have n3 : Hid (lw.length + 1 ≤ maxLen) := hid (by unfold maxLen; omega)
                  have n4 : Hid ((lw.length + 1) * 40 ≤ 140737488355328) := hid (by omega)
                  have HHA := hid (HHH.out.later hbA)
                  have HGA : Hid (G + 1 ≤ WA.heap.size) := hid HHA.out.lt
                  have HPT : Hid (∀ g cap w5, w5.ownsRow (G + 1) 135 3 (.slice (some ⟨g, 0, none⟩) (lw.length + 1) cap) (lw.length + 1) (flatW lw ++ [.string xk, .bool xd, .string xv]) → WA.grownBy w5 (Value.slice av lw.length cv).ownBlock →
                      (w5.cell? ⟨G, 2, none⟩ = some (.slice av lw.length cv) ∧ (∀ o, w5.frozen? ⟨G, o, none⟩ = false) ∧ Below wN.heap.size wN w5) ∧ Hs (w5.setCell ⟨G, 2, none⟩ (.slice (some ⟨g, 0, none⟩) (lw.length + 1) cap)) G n vr (.slice (some ⟨g, 0, none⟩) (lw.length + 1) cap) (readsL c.ss rs n) (lw ++ [⟨xk, xd, xv⟩])) := hid (by
                    intro g cap w5 ho hg
                    have hnG : ¬ ((Value.slice av lw.length cv).ownBlock = some G) := fun e => by have := (World.ownsRow.lt HHA.out.writes G e).1; omega
                    have ho5 := grown_onl hg
                    refine ⟨⟨ho5.cell hnG HHA.out.c2, ho5.loose hnG HHA.out.lt HHA.out.loose, ?_⟩, HHA.out.putW (t := ⟨xk, xd, xv⟩) hg ho⟩
                    have hBA : Below wN.heap.size wN WA := Below.on HBW.out hbA
                    exact Below.grown hBA hg hBA.size (fun k hk => by have := (World.ownsRow.lt HHA.out.writes k hk).1; have := HG.out; omega))
                  have g2a : (wX.alloc (.cells #[.string xk, .bool xd, .string xv] 135)).cell? ⟨G, 2, none⟩ = some (.slice av lw.length cv) := cell_later (Below.al (Below.refl _ _) _) k1
                  have HWA := hid hWA
                  clear hWA hbA
                  go_wp2_with fail
                  go_region_law ((rw [← HWA.out]; refine step_append_lies _ (by rfl) _ _ 51 (by rfl) (G + 1) 135 iw (.agg #[.string ⟨#[]⟩, .bool false, .string ⟨#[]⟩]) 3 40 Tryz.underlying51 hiw hy0 hy1 hy2 rfl (by decide) (.slice av lw.length cv) lw.length (flatW lw) (by simp [Act.eval]) HHA.out.writes ⟨wX.heap.size, 0, none⟩ 1 1 [.string xk, .bool xd, .string xv] (by simp [Act.eval]) rfl n1.out n2.out (by decide) n3.out n4.out HGA.out WA.heap.size rfl ?_; intro g cap w5 hown hgrow hat hlt; have HQ := hid (HPT.out g cap w5 hown hgrow); have k5 := HQ.out.1.1; have kf5 := HQ.out.1.2.1; clear hown hgrow hat hlt))
                  all_goals (try go_wp2_with fail)
                  all_goals (go_roundg (ws.length - (k + 1)))
                  all_goals (first | omega | (exact ⟨k + 1, by omega, rfl, by go_num, hid ⟨⟨_, _, by rw [HT.out]; simpa using HQ.out.2⟩, Below.setCell HQ.out.1.2.2 (by have := HG.out; simp; omega) _⟩⟩) | skip)
            · obtain rfl : k = ws.length := by omega
              obtain ⟨⟨vr, vw, hh⟩, hbw⟩ := HK.out
              rw [List.take_length] at hh
              obtain ⟨R, hRR⟩ : ∃ R, R = readsL c.ss rs n := ⟨_, rfl⟩
              obtain ⟨V, hVV⟩ : ∃ V, V = writesL c.ss ws n := ⟨_, rfl⟩
              have HT : Hid (shareN c.ss rs ws (n + 1) = shareN c.ss rs ws n ++ if R.length + V.length = 0 then [] else [(n, R, V)]) := hid (by rw [shareN, hRR, hVV])
              rw [← hRR, ← hVV] at hh
              obtain ⟨ra', rc', e1⟩ := owR_slice hh.reads
              obtain ⟨wa', wc', e2⟩ := owW_slice hh.writes
              subst e1 e2
              have HHH := hid hh
              have hbK : Below wN.heap.size wN wK := hbw
              have HSK := hid (HS.out.later hbK)
              have x0 := hh.c0
              have x1 := hh.c1
              have x2 := hh.c2
              clear hh hbw hbK hRR hVV HK
              by_cases hR0 : R.length = 0
              · by_cases hV0 : V.length = 0
                · have HT2 : Hid (shareN c.ss rs ws (n + 1) = shareN c.ss rs ws n) := by show _ = _; rw [HT.out, if_pos (by omega), List.append_nil]
                  rw [hR0] at x1
                  rw [hV0] at x2
                  go_wp2_with fail
                  go_roundg (N - (n + 1))
                  case measure => omega
                  case rel => exact ⟨n + 1, by omega, rfl, by go_num, L, hid (by rw [HT2.out]; exact HSK.out)⟩
                · have HT2 : Hid (shareN c.ss rs ws (n + 1) = shareN c.ss rs ws n ++ [(n, R, V)]) := by show _ = _; rw [HT.out, if_neg (by omega)]
                  rw [hR0] at x1 HHH
                  have hd : decide ((0 : Int) < (V.length : Int)) = true := decide_eq_true (by omega)
                  have hVp : 0 < V.length := by omega
                  clear hV0
                  obtain ⟨LL, hLL⟩ : ∃ LL, LL = L.length := ⟨_, rfl⟩
                  have HLE : Hid ((L.length + 1) * 64 ≤ 140737488355328) := hid (by have h1 := HS.out.len; have h2 := share_len c.ss rs ws n; omega)
                  have HBA : Hid (w0.heap.size ≤ (wK.alloc (.cells #[.int .u32 (n : Int), .slice ra' 0 rc', .slice wa' V.length wc'] 84)).heap.size) := hid (Nat.le_trans HSK.out.bel.size (Below.al (Below.refl _ _) _ : Below wK.heap.size wK (wK.alloc _)).size)
                  have HSA := hid (HSK.out.later (Below.al (Below.refl _ _) (.cells #[.int .u32 (n : Int), .slice ra' 0 rc', .slice wa' V.length wc'] 84)))
                  have HHA := hid (HHH.out.later (Below.al (Below.refl _ _) (.cells #[.int .u32 (n : Int), .slice ra' 0 rc', .slice wa' V.length wc'] 84)))
                  have HNW := hid (newT wK (.int .u32 (n : Int)) (.slice ra' 0 rc') (.slice wa' V.length wc') 84)
                  clear hLL
                  go_wp2_with (at_builtin; refine append_S rfl _ _ rfl (n, .slice ra' 0 rc', .slice wa' V.length wc') rfl HSA.out.own rfl rfl rfl HNW.out HLE.out HBA.out ?_; intro v6 w6 ho6 hg6; have HS6 := hid (HSA.out.add HHA.out ho6 hg6); clear ho6 hg6)
                  go_roundg (N - (n + 1))
                  case measure => omega
                  case rel => exact ⟨n + 1, by omega, rfl, by go_num, _, hid (by rw [HT2.out]; exact HS6.out)⟩
              · have HT2 : Hid (shareN c.ss rs ws (n + 1) = shareN c.ss rs ws n ++ [(n, R, V)]) := by show _ = _; rw [HT.out, if_neg (by omega)]
                have hd0 : decide ((0 : Int) < (R.length : Int)) = true := by simp; omega
                obtain ⟨LL, hLL⟩ : ∃ LL, LL = L.length := ⟨_, rfl⟩
                have HLE : Hid ((L.length + 1) * 64 ≤ 140737488355328) := hid (by have h1 := HS.out.len; have h2 := share_len c.ss rs ws n; omega)
                have HBA : Hid (w0.heap.size ≤ (wK.alloc (.cells #[.int .u32 (n : Int), .slice ra' R.length rc', .slice wa' V.length wc'] 84)).heap.size) := hid (Nat.le_trans HSK.out.bel.size (Below.al (Below.refl _ _) _ : Below wK.heap.size wK (wK.alloc _)).size)
                have HSA := hid (HSK.out.later (Below.al (Below.refl _ _) (.cells #[.int .u32 (n : Int), .slice ra' R.length rc', .slice wa' V.length wc'] 84)))
                have HHA := hid (HHH.out.later (Below.al (Below.refl _ _) (.cells #[.int .u32 (n : Int), .slice ra' R.length rc', .slice wa' V.length wc'] 84)))
                have HNW := hid (newT wK (.int .u32 (n : Int)) (.slice ra' R.length rc') (.slice wa' V.length wc') 84)
                clear hLL
                go_wp2_with (at_builtin; refine append_S rfl _ _ rfl (n, .slice ra' R.length rc', .slice wa' V.length wc') rfl HSA.out.own rfl rfl rfl HNW.out HLE.out HBA.out ?_; intro v6 w6 ho6 hg6; have HS6 := hid (HSA.out.add HHA.out ho6 hg6); clear ho6 hg6)
                go_roundg (N - (n + 1))
                case measure => omega
                case rel => exact ⟨n + 1, by omega, rfl, by go_num, _, hid (by rw [HT2.out]; exact HS6.out)⟩
    · obtain rfl : n = N := by omega
      have HE : Hid (shareL c.ss rs ws = shareN c.ss rs ws n) := by show _ = _; rw [shareL, ← HSH.out.2]
      obtain ⟨a', c', e7, hrow⟩ := HS.out.row
      subst e7
      have HROW := hid hrow
      clear hrow
      go_wp2_with fail
      go_ret
      exact ⟨⟨a', c', by rw [HE.out]; rfl, by rw [HE.out]; exact HROW.out⟩, Below.on H0.out HS.out.bel⟩
end Go.Proofs.YthenfioddnkjbaaGreatDoor.Rt
