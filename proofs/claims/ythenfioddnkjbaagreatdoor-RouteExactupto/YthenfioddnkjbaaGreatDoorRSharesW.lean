import Derived.Test.YthenfioddnkjbaaGreatDoorRTaking
import Derived.Deep.RegionLaw
/- Shares: the walk. -/
namespace Go.Proofs.YthenfioddnkjbaaGreatDoor.Rt
open Go.RowKit Go.Sort
set_option linter.unusedVariables false

theorem fresh_sp (w : World) (x y : ByteArray) : ∀ j u, ([.string x, .string y] : List Value)[j]? = some u → (w.alloc (.cells #[.string x, .string y] 49)).drew.cell? ((⟨w.heap.size, 0, none⟩ : Addr).add j) = some u := by
  intro j u hj
  match j, hj with
  | 0, hj => simp at hj; subst hj; simp [go_sem, Addr.add]
  | 1, hj => simp at hj; subst hj; simp [go_sem, Addr.add]

theorem fresh_wr (w : World) (x : ByteArray) (d : Bool) (y : ByteArray) : ∀ j u, ([.string x, .bool d, .string y] : List Value)[j]? = some u → (w.alloc (.cells #[.string x, .bool d, .string y] 135)).drew.cell? ((⟨w.heap.size, 0, none⟩ : Addr).add j) = some u := by
  intro j u hj
  match j, hj with
  | 0, hj => simp at hj; subst hj; simp [go_sem, Addr.add]
  | 1, hj => simp at hj; subst hj; simp [go_sem, Addr.add]
  | 2, hj => simp at hj; subst hj; simp [go_sem, Addr.add]
theorem OwR.row {w : World} {G : Nat} {v : Value} {l : List T2} (h : OwR w G v l) : ∃ a c, v = .slice a l.length c ∧ Row2 w a l := by
  rcases Nat.eq_zero_or_pos l.length with h0 | h0
  · obtain ⟨a, c, e⟩ := owR_slice h
    exact ⟨a, c, e, fun i hi => by omega⟩
  · rcases h.2 with ⟨hv, h1⟩ | ⟨g, cap, cur, hv, _⟩
    · omega
    · subst hv
      refine ⟨_, _, rfl, fun i hi => ⟨g, 0, rfl, ?_, ?_⟩⟩
      · rw [Nat.zero_add]
        have := World.ownsRow.cellAt h (i * 2) (by omega)
        rw [this]; exact flat2_get l i 0 hi (by omega)
      · rw [Nat.zero_add]
        have := World.ownsRow.cellAt h (i * 2 + 1) (by omega)
        rw [this]; exact flat2_get l i 1 hi (by omega)
theorem OwW.row {w : World} {G : Nat} {v : Value} {l : List Wr} (h : OwW w G v l) : ∃ a c, v = .slice a l.length c ∧ RowW w a l := by
  rcases Nat.eq_zero_or_pos l.length with h0 | h0
  · obtain ⟨a, c, e⟩ := owW_slice h
    exact ⟨a, c, e, fun i hi => by omega⟩
  · rcases h.2 with ⟨hv, h1⟩ | ⟨g, cap, cur, hv, _⟩
    · omega
    · subst hv
      refine ⟨_, _, rfl, fun i hi => ⟨g, 0, rfl, ?_, ?_, ?_⟩⟩
      · rw [Nat.zero_add]
        have := World.ownsRow.cellAt h (i * 3) (by omega)
        rw [this]; exact flatW_get l i 0 hi (by omega)
      · rw [Nat.zero_add]
        have := World.ownsRow.cellAt h (i * 3 + 1) (by omega)
        rw [this]; exact flatW_get l i 1 hi (by omega)
      · rw [Nat.zero_add]
        have := World.ownsRow.cellAt h (i * 3 + 2) (by omega)
        rw [this]; exact flatW_get l i 2 hi (by omega)
theorem Tb.congr {w : World} {G N : Nat} {vr vw : Nat → Value} {R R' : Nat → List T2} {V V' : Nat → List Wr} (h : Tb w G N vr vw R V) (hR : ∀ i, i < N → R i = R' i) (hV : ∀ i, i < N → V i = V' i) : Tb w G N vr vw R' V' :=
  ⟨h.cells, fun i hi => by rw [← hR i hi]; exact h.reads i hi, fun i hi => by rw [← hV i hi]; exact h.writes i hi, h.aR, h.aW, h.loose, h.lt⟩
def nthSh (l : List Sh) (i : Nat) : Sh := l[i]?.getD (0, [], [])
/-- a row of shares, read -/
def RowSh (w : World) (a : Option Addr) (l : List Sh) : Prop := ∀ i, i < l.length → ∃ b off ra rc wa wc, a = some ⟨b, off, none⟩ ∧ w.cell? ⟨b, off + i * 3, none⟩ = some (.int .u32 ((nthSh l i).1 : Int)) ∧ w.cell? ⟨b, off + i * 3 + 1, none⟩ = some (.slice ra (nthSh l i).2.1.length rc) ∧ w.cell? ⟨b, off + i * 3 + 2, none⟩ = some (.slice wa (nthSh l i).2.2.length wc) ∧ Row2 w ra (nthSh l i).2.1 ∧ RowW w wa (nthSh l i).2.2
theorem RowSh.later {w w' : World} {a : Option Addr} {l : List Sh} (h : RowSh w a l) (hb : Below w.heap.size w w') : RowSh w' a l := fun i hi => by
  obtain ⟨b, off, ra, rc, wa, wc, e, h0, h1, h2, h3, h4⟩ := h i hi
  exact ⟨b, off, ra, rc, wa, wc, e, cell_later hb h0, cell_later hb h1, cell_later hb h2, h3.later hb, h4.later hb⟩
theorem tk_share (ss : List ByteArray) (rs : List T2) (ws : List Wr) (vr vw : Nat → Value) : ∀ n, shareN ss rs ws n = (tkN vr vw (readsL ss rs) (writesL ss ws) n).map fun p => (p.1, readsL ss rs p.1, writesL ss ws p.1)
  | 0 => rfl
  | n + 1 => by
    rw [shareN, tkN, List.map_append, tk_share ss rs ws vr vw n]
    split <;> simp
theorem tk_mem {vr vw : Nat → Value} {R : Nat → List T2} {V : Nat → List Wr} {p : Tk} : ∀ {n : Nat}, p ∈ tkN vr vw R V n → p.1 < n ∧ p.2.1 = vr p.1 ∧ p.2.2 = vw p.1
  | 0, h => by simp [tkN] at h
  | n + 1, h => by
    rw [tkN, List.mem_append] at h
    rcases h with h | h
    · have := tk_mem h; exact ⟨by omega, this.2⟩
    · split at h
      · simp at h
      · simp at h; subst h; exact ⟨by simp, rfl, rfl⟩
theorem flatTk_get : ∀ (l : List Tk) (i o : Nat), i < l.length → o < 3 → (flatTk l)[i * 3 + o]? = (cellsS (l[i]?.getD (0, .bool false, .bool false)))[o]?
  | [], i, o, h, _ => by simp at h
  | v :: vs, i, o, h, ho => by
    show (cellsS v ++ flatTk vs)[i * 3 + o]? = _
    cases i with
    | zero => rw [List.getElem?_append_left (by simp [cellsS]; omega)]; simp
    | succ i =>
      have e : (i + 1) * 3 + o - (cellsS v).length = i * 3 + o := by simp [cellsS]; omega
      rw [List.getElem?_append_right (by simp [cellsS]; omega), e, flatTk_get vs i o (by simpa using h) ho]
      simp
theorem OwnS.shares {w w' : World} {G N B : Nat} {vr vw : Nat → Value} {ss : List ByteArray} {rs : List T2} {ws : List Wr} {v : Value} (T : Tb w G N vr vw (readsL ss rs) (writesL ss ws)) (hb : Below w.heap.size w w') (h : OwnS w' B v (tkN vr vw (readsL ss rs) (writesL ss ws) N)) : ∃ a c, v = .slice a (shareN ss rs ws N).length c ∧ RowSh w' a (shareN ss rs ws N) := by
  obtain ⟨L, hL⟩ : ∃ L, L = tkN vr vw (readsL ss rs) (writesL ss ws) N := ⟨_, rfl⟩
  have hsh := tk_share ss rs ws vr vw N
  rw [← hL] at hsh h
  have hlen : (shareN ss rs ws N).length = L.length := by rw [hsh, List.length_map]
  rw [hlen]
  rcases h.2 with ⟨hv, h1⟩ | ⟨g, cap, cur, hv, _⟩
  · exact ⟨none, 0, by rw [hv, h1], fun i hi => by omega⟩
  · subst hv
    refine ⟨_, _, rfl, fun i hi => ?_⟩
    have hi' : i < L.length := by omega
    obtain ⟨p, hp⟩ : ∃ p, p = L[i] := ⟨_, rfl⟩
    have hm : p ∈ L := by rw [hp]; exact List.getElem_mem hi'
    rw [hL] at hm
    obtain ⟨h1, h2, h3⟩ := tk_mem hm
    have hg : nthSh (shareN ss rs ws N) i = (p.1, readsL ss rs p.1, writesL ss ws p.1) := by rw [hsh]; simp [nthSh, hi', hp]
    have hq : L[i]?.getD (0, .bool false, .bool false) = p := by simp [hi', hp]
    obtain ⟨ra, rc, er, hr⟩ := OwR.row ((T.later hb).reads p.1 h1)
    obtain ⟨wa, wc, ew, hw⟩ := OwW.row ((T.later hb).writes p.1 h1)
    rw [hg]
    refine ⟨g, 0, ra, rc, wa, wc, rfl, ?_, ?_, ?_, hr, hw⟩
    · rw [Nat.zero_add]
      have := World.ownsRow.cellAt h (i * 3) (by omega)
      rw [this]; have h5 := flatTk_get L i 0 hi' (by omega); rw [hq] at h5; exact h5
    · rw [Nat.zero_add]
      have := World.ownsRow.cellAt h (i * 3 + 1) (by omega)
      rw [this]; have h5 := flatTk_get L i 1 hi' (by omega); rw [hq] at h5; rw [h5]; simp [cellsS, h2, er]
    · rw [Nat.zero_add]
      have := World.ownsRow.cellAt h (i * 3 + 2) (by omega)
      rw [this]; have h5 := flatTk_get L i 2 hi' (by omega); rw [hq] at h5; rw [h5]; simp [cellsS, h3, ew]

theorem tk_pair {vr vw : Nat → Value} {R : Nat → List T2} {V : Nat → List Wr} : ∀ n, (tkN vr vw R V n).Pairwise (fun a b => a.1 < b.1)
  | 0 => by simp [tkN]
  | n + 1 => by
    rw [tkN, List.pairwise_append]
    refine ⟨tk_pair n, by split <;> simp, fun a ha b hb => ?_⟩
    have h1 := (tk_mem ha).1
    split at hb
    · simp at hb
    · simp at hb; subst hb; exact h1
/-- shares that were handed out: every list in them a row of its own -/
structure ShO (w : World) (B : Nat) (a : Option Addr) (l : List Sh) (vr vw : Nat → Value) : Prop where
  cells : ∀ i, i < l.length → ∃ b, a = some ⟨b, 0, none⟩ ∧ B ≤ b ∧ b < w.heap.size ∧ w.cell? ⟨b, i * 3, none⟩ = some (.int .u32 ((nthSh l i).1 : Int)) ∧ w.cell? ⟨b, i * 3 + 1, none⟩ = some (vr i) ∧ w.cell? ⟨b, i * 3 + 2, none⟩ = some (vw i) ∧ ∃ cs, w.heap[b]? = some (.cells cs 84 (0, 0))
  reads : ∀ i, i < l.length → w.ownsRow B 49 2 (vr i) (nthSh l i).2.1.length (flat2 (nthSh l i).2.1)
  writes : ∀ i, i < l.length → w.ownsRow B 135 3 (vw i) (nthSh l i).2.2.length (flatW (nthSh l i).2.2)
  aR : ∀ i j, i < l.length → j < l.length → i ≠ j → (vr i).ownBlock = none ∨ (vr i).ownBlock ≠ (vr j).ownBlock
  aW : ∀ i j, i < l.length → j < l.length → i ≠ j → (vw i).ownBlock = none ∨ (vw i).ownBlock ≠ (vw j).ownBlock
theorem owns_low {w : World} {B B' s n : Nat} {t : TypeId} {v : Value} {l : List Value} (h : w.ownsRow B t s v n l) (hB : B' ≤ B) : w.ownsRow B' t s v n l := by
  obtain ⟨h1, h2 | ⟨g, cap, cur, hv, hg, r⟩⟩ := h
  · exact ⟨h1, .inl h2⟩
  · exact ⟨h1, .inr ⟨g, cap, cur, hv, Nat.le_trans hB hg, r⟩⟩
theorem ShO.later {w w' : World} {B : Nat} {a : Option Addr} {l : List Sh} {vr vw : Nat → Value} (h : ShO w B a l vr vw) (hb : Below w.heap.size w w') : ShO w' B a l vr vw :=
  ⟨fun i hi => by
    obtain ⟨b, e, h0, hl, h1, h2, h3, cs, h4⟩ := h.cells i hi
    exact ⟨b, e, h0, Nat.lt_of_lt_of_le hl hb.size, cell_later hb h1, cell_later hb h2, cell_later hb h3, cs, (hb.block b hl).trans h4⟩, fun i hi => owns_on (h.reads i hi) hb, fun i hi => owns_on (h.writes i hi) hb, h.aR, h.aW⟩
theorem ShO.low {w : World} {B B' : Nat} {a : Option Addr} {l : List Sh} {vr vw : Nat → Value} (h : ShO w B a l vr vw) (hB : B' ≤ B) : ShO w B' a l vr vw :=
  ⟨fun i hi => by
    obtain ⟨b, e, h0, hl, h1⟩ := h.cells i hi
    exact ⟨b, e, Nat.le_trans hB h0, hl, h1⟩, fun i hi => owns_low (h.reads i hi) hB, fun i hi => owns_low (h.writes i hi) hB, h.aR, h.aW⟩
theorem ShO.row {w : World} {B : Nat} {a : Option Addr} {l : List Sh} {vr vw : Nat → Value} (h : ShO w B a l vr vw) : RowSh w a l := fun i hi => by
  obtain ⟨b, e, h0, hl, h1, h2, h3, _⟩ := h.cells i hi
  have hr : OwR w 0 (vr i) (nthSh l i).2.1 ∨ B = 0 := by
    rcases Nat.eq_zero_or_pos B with h | h'
    · exact .inr h
    · exact .inl (owns_low (h.reads i hi) h')
  have hR : ∃ a c, vr i = .slice a (nthSh l i).2.1.length c ∧ Row2 w a (nthSh l i).2.1 := by
    have h := h.reads i hi
    rcases Nat.eq_zero_or_pos (nthSh l i).2.1.length with h0 | h0
    · rcases h.2 with ⟨hv, h1⟩ | ⟨g, cap, cur, hv, _⟩
      · exact ⟨none, 0, by rw [hv, h1], fun i hi => by omega⟩
      · exact ⟨_, _, hv, fun i hi => by omega⟩
    · rcases h.2 with ⟨hv, h1⟩ | ⟨g, cap, cur, hv, _⟩
      · omega
      · rw [hv] at h
        refine ⟨_, _, hv, fun k hk => ⟨g, 0, rfl, ?_, ?_⟩⟩
        · rw [Nat.zero_add, World.ownsRow.cellAt h (k * 2) (by omega)]; exact flat2_get _ k 0 hk (by omega)
        · rw [Nat.zero_add, World.ownsRow.cellAt h (k * 2 + 1) (by omega)]; exact flat2_get _ k 1 hk (by omega)
  have hW : ∃ a c, vw i = .slice a (nthSh l i).2.2.length c ∧ RowW w a (nthSh l i).2.2 := by
    have h := h.writes i hi
    rcases Nat.eq_zero_or_pos (nthSh l i).2.2.length with h0 | h0
    · rcases h.2 with ⟨hv, h1⟩ | ⟨g, cap, cur, hv, _⟩
      · exact ⟨none, 0, by rw [hv, h1], fun i hi => by omega⟩
      · exact ⟨_, _, hv, fun i hi => by omega⟩
    · rcases h.2 with ⟨hv, h1⟩ | ⟨g, cap, cur, hv, _⟩
      · omega
      · rw [hv] at h
        refine ⟨_, _, hv, fun k hk => ⟨g, 0, rfl, ?_, ?_, ?_⟩⟩
        · rw [Nat.zero_add, World.ownsRow.cellAt h (k * 3) (by omega)]; exact flatW_get _ k 0 hk (by omega)
        · rw [Nat.zero_add, World.ownsRow.cellAt h (k * 3 + 1) (by omega)]; exact flatW_get _ k 1 hk (by omega)
        · rw [Nat.zero_add, World.ownsRow.cellAt h (k * 3 + 2) (by omega)]; exact flatW_get _ k 2 hk (by omega)
  obtain ⟨ra, rc, er, hr⟩ := hR
  obtain ⟨wa, wc, ew, hw⟩ := hW
  exact ⟨b, 0, ra, rc, wa, wc, e, by rw [Nat.zero_add]; exact h1, by rw [Nat.zero_add, ← er]; exact h2, by rw [Nat.zero_add, ← ew]; exact h3, hr, hw⟩
theorem OwnS.own {w w' : World} {G N B : Nat} {vr vw : Nat → Value} {ss : List ByteArray} {rs : List T2} {ws : List Wr} {v : Value} (T : Tb w G N vr vw (readsL ss rs) (writesL ss ws)) (hb : Below w.heap.size w w') (h : OwnS w' B v (tkN vr vw (readsL ss rs) (writesL ss ws) N)) {A : Nat} (hA : A ≤ B) (hG : A ≤ G) : ∃ a c vr' vw', v = .slice a (shareN ss rs ws N).length c ∧ ShO w' A a (shareN ss rs ws N) vr' vw' := by
  obtain ⟨L, hL⟩ : ∃ L, L = tkN vr vw (readsL ss rs) (writesL ss ws) N := ⟨_, rfl⟩
  have hsh := tk_share ss rs ws vr vw N
  have hpw := tk_pair (vr := vr) (vw := vw) (R := readsL ss rs) (V := writesL ss ws) N
  rw [← hL] at hsh h hpw
  have hlen : (shareN ss rs ws N).length = L.length := by rw [hsh, List.length_map]
  have hmem : ∀ p ∈ L, p.1 < N ∧ p.2.1 = vr p.1 ∧ p.2.2 = vw p.1 := fun p hp => by rw [hL] at hp; exact tk_mem hp
  have key : ∀ i, i < L.length → ∃ p, L[i]? = some p ∧ p.1 < N ∧ p.2.1 = vr p.1 ∧ p.2.2 = vw p.1 ∧ nthSh (shareN ss rs ws N) i = (p.1, readsL ss rs p.1, writesL ss ws p.1) := fun i hi => by
    have hm : L[i] ∈ L := List.getElem_mem hi
    obtain ⟨h1, h2, h3⟩ := hmem _ hm
    exact ⟨L[i], List.getElem?_eq_getElem hi, h1, h2, h3, by rw [hsh]; simp [nthSh, hi]⟩
  have lt : ∀ i j, i < L.length → j < L.length → i ≠ j → ∀ p q, L[i]? = some p → L[j]? = some q → p.1 ≠ q.1 := fun i j hi hj hne p q hp hq e => by
    have e1 : L[i] = p := by rw [List.getElem?_eq_getElem hi] at hp; exact Option.some.inj hp
    have e2 : L[j] = q := by rw [List.getElem?_eq_getElem hj] at hq; exact Option.some.inj hq
    rcases Nat.lt_or_gt_of_ne hne with h | h
    · have := List.pairwise_iff_getElem.1 hpw i j hi hj h
      rw [e1, e2] at this; omega
    · have := List.pairwise_iff_getElem.1 hpw j i hj hi h
      rw [e1, e2] at this; omega
  have TL := T.later hb
  have hreads : ∀ i, i < (shareN ss rs ws N).length → w'.ownsRow A 49 2 ((L[i]?.getD (0, .bool false, .bool false)).2.1) (nthSh (shareN ss rs ws N) i).2.1.length (flat2 (nthSh (shareN ss rs ws N) i).2.1) := fun i hi => by
    obtain ⟨p, hp, h1, h2, h3, hg⟩ := key i (by omega)
    rw [hp, hg]
    show w'.ownsRow A _ 2 p.2.1 _ _
    rw [h2]
    exact owns_low (TL.reads p.1 h1) (by omega)
  have hwrites : ∀ i, i < (shareN ss rs ws N).length → w'.ownsRow A 135 3 ((L[i]?.getD (0, .bool false, .bool false)).2.2) (nthSh (shareN ss rs ws N) i).2.2.length (flatW (nthSh (shareN ss rs ws N) i).2.2) := fun i hi => by
    obtain ⟨p, hp, h1, h2, h3, hg⟩ := key i (by omega)
    rw [hp, hg]
    show w'.ownsRow A _ 3 p.2.2 _ _
    rw [h3]
    exact owns_low (TL.writes p.1 h1) (by omega)
  have hAR : ∀ i j, i < (shareN ss rs ws N).length → j < (shareN ss rs ws N).length → i ≠ j → ((L[i]?.getD (0, .bool false, .bool false)).2.1).ownBlock = none ∨ ((L[i]?.getD (0, .bool false, .bool false)).2.1).ownBlock ≠ ((L[j]?.getD (0, .bool false, .bool false)).2.1).ownBlock := fun i j hi hj hne => by
    obtain ⟨p, hp, h1, h2, _⟩ := key i (by omega)
    obtain ⟨q, hq, k1, k2, _⟩ := key j (by omega)
    rw [hp, hq]
    show p.2.1.ownBlock = none ∨ p.2.1.ownBlock ≠ q.2.1.ownBlock
    rw [h2, k2]
    exact TL.aR _ _ h1 k1 (lt i j (by omega) (by omega) hne p q hp hq)
  have hAW : ∀ i j, i < (shareN ss rs ws N).length → j < (shareN ss rs ws N).length → i ≠ j → ((L[i]?.getD (0, .bool false, .bool false)).2.2).ownBlock = none ∨ ((L[i]?.getD (0, .bool false, .bool false)).2.2).ownBlock ≠ ((L[j]?.getD (0, .bool false, .bool false)).2.2).ownBlock := fun i j hi hj hne => by
    obtain ⟨p, hp, h1, _, h2, _⟩ := key i (by omega)
    obtain ⟨q, hq, k1, _, k2, _⟩ := key j (by omega)
    rw [hp, hq]
    show p.2.2.ownBlock = none ∨ p.2.2.ownBlock ≠ q.2.2.ownBlock
    rw [h2, k2]
    exact TL.aW _ _ h1 k1 (lt i j (by omega) (by omega) hne p q hp hq)
  rcases h.2 with ⟨hv, h1⟩ | ⟨g, cap, cur, hv, hBg, hgc, _⟩
  · exact ⟨none, 0, fun i => (L[i]?.getD (0, .bool false, .bool false)).2.1, fun i => (L[i]?.getD (0, .bool false, .bool false)).2.2, by rw [hv, hlen, h1], fun i hi => by omega, hreads, hwrites, hAR, hAW⟩
  · subst hv
    refine ⟨_, cap, fun i => (L[i]?.getD (0, .bool false, .bool false)).2.1, fun i => (L[i]?.getD (0, .bool false, .bool false)).2.2, by rw [hlen], fun i hi => ⟨g, rfl, Nat.le_trans hA hBg, (World.ownsRow.lt h g rfl).2, ?_, ?_, ?_, cur, hgc⟩, hreads, hwrites, hAR, hAW⟩
    all_goals
      obtain ⟨p, hp, h1, h2, h3, hg⟩ := key i (by omega)
      have hq : L[i]?.getD (0, .bool false, .bool false) = p := by rw [hp]; rfl
    · rw [World.ownsRow.cellAt h (i * 3) (by omega), hg]; have h5 := flatTk_get L i 0 (by omega) (by omega); rw [hq] at h5; exact h5
    · rw [World.ownsRow.cellAt h (i * 3 + 1) (by omega), hq]; have h5 := flatTk_get L i 1 (by omega) (by omega); rw [hq] at h5; exact h5
    · rw [World.ownsRow.cellAt h (i * 3 + 2) (by omega), hq]; have h5 := flatTk_get L i 2 (by omega) (by omega); rw [hq] at h5; exact h5

set_option maxHeartbeats 4000000 in
set_option maxRecDepth 100000 in
theorem Shares_own {c : Cf} {w : World} (h : c.Ok w) (hv : c.okB = true) {ra wa : Option Addr} {rc wc : Nat} {rs : List T2} {ws : List Wr} (hr : Row2 w ra rs) (hw : RowW w wa ws) (hrl : rs.length ≤ 4398046511104) (hwl : ws.length ≤ 3518437208883) :
    Calls Tryz.prog 33 #[c.val, .slice ra rs.length rc, .slice wa ws.length wc] w fun e w' => ∃ a cp, e = .returned (.slice a (shareL c.ss rs ws).length cp) ∧ Hid (∃ vr vw, ShO w' w.heap.size a (shareL c.ss rs ws) vr vw) ∧ Below w.heap.size w w' := by
  obtain ⟨hl5, hsh, hri⟩ := ok_len hv
  obtain ⟨N, hN⟩ : ∃ N, N = c.ss.length + 1 := ⟨_, rfl⟩
  have HSH : Hid (c.sh = (N : Int) ∧ N = c.ss.length + 1) := hid ⟨by rw [hsh, hN]; simp, hN⟩
  have hN6 : N ≤ 6 := by omega
  have H := hid h; have HR := hid hr; have HW := hid hw; have HV := hid hv
  have HB := hid (BoxC.new w c 26)
  clear h hr hw hv hsh hri hN
  go_enter Tryz.func33, Tryz.ntmps33
  go_wp2_with fail
  refine (mayBe_is (H.out.later (by (repeat (first | exact Below.refl _ _ | assumption | refine Below.drew ?_ | refine Below.al ?_ _ | refine Below.setCell ?_ (by first | exact Nat.le_refl _ | (simp; omega) | (simp; done)) _ | refine Below.on ?_ (by assumption))))) HV.out).mono ?_
  rintro e w1 ⟨rfl, hw1⟩
  have HC := hid (HB.out.later hw1)
  have H1 : Hid (Below w.heap.size w w1) := hid (by (repeat (first | exact Below.refl _ _ | assumption | refine Below.drew ?_ | refine Below.al ?_ _ | refine Below.setCell ?_ (by first | exact Nat.le_refl _ | (simp; omega) | (simp; done)) _ | refine Below.on ?_ (by assumption))))
  obtain ⟨c0, c1, c2, c3, c4, c5⟩ := HC.out
  clear hw1 HB
  have hmk := makeSh w1 N hN6
  have HT0 := hid (Tb.new w1 N)
  rw [HSH.out.1] at c0
  obtain ⟨G, hG⟩ : ∃ G, G = w1.heap.size := ⟨_, rfl⟩
  obtain ⟨w2, hw2⟩ : ∃ w2, w2 = w1.alloc (.cells (madeCells (Value.agg #[.int .u32 0, .slice none 0 0, .slice none 0 0]).cells (N * 3)) 84) := ⟨_, rfl⟩
  have hb2 : Below w1.heap.size w1 w2 := by rw [hw2]; exact Below.al (Below.refl _ _) _
  rw [← hG, ← hw2] at hmk
  rw [← hG, ← hw2] at HT0
  have HB2 := hid hb2
  have HG := hid hG
  clear hw2 hb2 hG
  go_wp2_with fail
  clear hmk c0 c1 c2 c3 c4 c5
  go_loopg [23] rs.length (fun g s23 wr => ∃ m : Nat, m ≤ rs.length ∧ g = rs.length - m ∧ s23 = .int .i64 m ∧ Hid (Below w1.heap.size w1 wr ∧ ∃ vr vw, Tb wr G N vr vw (fun i => readsL c.ss (rs.take m) i) (fun _ => [])))
  case atStart => exact ⟨0, by omega, by omega, rfl, hid ⟨HB2.out, _, _, HT0.out⟩⟩
  case round =>
    rename World => wM
    obtain ⟨m, hm, rfl, rfl, HM⟩ := hrel
    clear HT0 HB2
    by_cases hlm : m < rs.length
    · obtain ⟨b, off, rfl, d0, d1⟩ := (HR.out.later (Below.on H1.out HM.out.1)) m hlm
      obtain ⟨r, hr⟩ : ∃ r, r = nth2 rs m := ⟨_, rfl⟩
      rw [← hr] at d0 d1
      obtain ⟨rl, rh⟩ := r
      simp only at d0 d1
      have HRD := hid hr
      obtain ⟨c0, c1, c2, c3, c4, c5⟩ := (HC.out.later HM.out.1).later (w' := wM.alloc (.cells #[.string rl, .string rh] 49)) (Below.al (Below.refl _ _) _)
      clear hr
      go_wp2_with fail
      refine (cut_is (c := c) ((H.out.later (Below.on H1.out HM.out.1)).later (Below.al (Below.refl _ _) _)) hl5 (by rw [HSH.out.1, HSH.out.2]; simp) (rl, rh)).mono ?_
      rintro e w3 ⟨v, rfl, hov, hb3⟩
      obtain ⟨a4, c4', rfl⟩ := ownP_slice hov
      have HM3 := hid (Below.on (Below.al HM.out.1 (.cells #[.string rl, .string rh] 49)) hb3)
      have HT3 : Hid (∃ vr vw, Tb w3 G N vr vw (fun i => readsL c.ss (rs.take m) i) (fun _ => [])) := hid (by
        obtain ⟨vr, vw, ht⟩ := HM.out.2
        exact ⟨vr, vw, (ht.later (Below.al (Below.refl _ _) _)).later hb3⟩)
      obtain ⟨L, hL⟩ : ∃ L, L = cutL c.ss (rl, rh) := ⟨_, rfl⟩
      rw [← hL] at hov
      rw [← hL]
      have HL := hid hL
      have HROW : Hid (OwnP w3 (G + 1) (.slice a4 L.length c4') L) := hid (hov.base (by have h1 := HM.out.1.size; have h2 := HT3.out.choose_spec.choose_spec.lt; have h3 : G < wM.heap.size := HM.out.2.choose_spec.choose_spec.lt; simp; omega))
      have hL6 : L.length ≤ 6 := by rw [hL]; have := cutL_len c.ss (rl, rh); omega
      clear hov hb3 hL d0 d1 c0 c1 c2 c3 c4 c5
      go_wp2_with fail
      obtain ⟨i2, hi2, hz0, hz1, hz2⟩ := info_ofR infoR2
      go_loopg [31] L.length (fun g s31 wr => ∃ j : Nat, j ≤ L.length ∧ g = L.length - j ∧ s31 = .int .i64 j ∧ Hid (OwnP wr (G + 1) (.slice a4 L.length c4') L ∧ Below w1.heap.size w1 wr ∧ ∃ vr vw, Tb wr G N vr vw (fun i => readsL c.ss (rs.take m) i ++ atS i (L.take j)) (fun _ => [])))
      case atStart => exact ⟨0, by omega, by omega, rfl, hid ⟨HROW.out, HM3.out, by obtain ⟨vr, vw, ht⟩ := HT3.out; exact ⟨vr, vw, by simpa [atS] using ht⟩⟩⟩
      case round =>
        rename World => wJ
        obtain ⟨j, hj, rfl, rfl, HJ⟩ := hrel
        clear HROW HM3 HT3
        by_cases hlj : j < L.length
        · obtain ⟨a5, c5', ea5, hrowJ⟩ := HJ.out.1.row
          obtain ⟨q, oq, eq5, e0, e1, e2⟩ := hrowJ j hlj
          obtain rfl : a4 = some ⟨q, oq, none⟩ := by injection ea5 with h1 _ _; rw [h1, eq5]
          clear ea5 eq5 hrowJ
          obtain ⟨P, hP⟩ : ∃ P, P = nthP L j := ⟨_, rfl⟩
          have hsz := (cutL_at (ss := c.ss) (s := (rl, rh)) (i := j) (by rw [← HL.out]; exact hlj)).1
          rw [← HL.out, ← hP] at hsz
          rw [← hP] at e0 e1 e2
          obtain ⟨pn, plo, phi⟩ := P
          simp only at e0 e1 e2 hsz
          have hpn : pn < N := by have := HSH.out.2; omega
          have HP := hid hP
          clear hP
          obtain ⟨vr, vw, hTb⟩ := HJ.out.2.2
          obtain ⟨wQ, hwQ⟩ : ∃ wQ, wQ = wJ.alloc (.cells #[.int .u32 (pn : Int), .string plo, .string phi] 129) := ⟨_, rfl⟩
          have hbQ : Below wJ.heap.size wJ wQ := by rw [hwQ]; exact Below.al (Below.refl _ _) _
          obtain ⟨f0, f1, f2⟩ := newP wJ pn plo phi 129
          rw [← hwQ] at f0 f1 f2
          have HTQ := hid (hTb.later hbQ)
          obtain ⟨lr, hlr⟩ : ∃ lr, lr = readsL c.ss (rs.take m) pn ++ atS pn (L.take j) := ⟨_, rfl⟩
          have hllr : lr.length + 1 ≤ rs.length := by
            have h1 := reads_le c.ss (rs.take m) pn
            have h2 := atS_le (ss := c.ss) (rl, rh) hsz (j + 1)
            rw [← HL.out, List.take_succ_eq_append_getElem hlj, atS_snoc] at h2
            have h3 : L[j] = (pn, plo, phi) := by
              have := HP.out
              simp [nthP, hlj] at this
              exact this.symm
            rw [h3, if_pos rfl, List.length_append, List.length_singleton] at h2
            rw [hlr, List.length_append]
            rw [List.length_take] at h1
            omega
          have hown : OwR wQ G (vr pn) lr := by rw [hlr]; exact HTQ.out.reads pn hpn
          obtain ⟨av, cv, hav⟩ := owR_slice hown
          have g1 := (HTQ.out.cells pn hpn).2.1
          have gf : ∀ o, wQ.frozen? ⟨G, o, none⟩ = false := HTQ.out.loose
          rw [hav] at g1
          have hown2 := hown
          rw [hav] at hown2
          have HOWN := hid hown2
          have HAV := hid hav
          have HLR := hid hlr
          have HBQ := hid hbQ
          obtain ⟨WA, hWA⟩ : ∃ WA, WA = (wQ.alloc (.cells #[.string plo, .string phi] 49)).drew := ⟨_, rfl⟩
          have hbA : Below wQ.heap.size wQ WA := by rw [hWA]; exact Below.drew (Below.al (Below.refl _ _) _)
          have n1 : Hid (∀ j u, ([.string plo, .string phi] : List Value)[j]? = some u → WA.cell? ((⟨wQ.heap.size, 0, none⟩ : Addr).add j) = some u) := hid (by rw [hWA]; exact fresh_sp wQ plo phi)
          have n2 : Hid (∀ u ∈ ([.string plo, .string phi] : List Value), u.oneCell' = true) := hid (fun u hu => by simp at hu; rcases hu with rfl | rfl <;> rfl)
          have n3 : Hid (lr.length + 1 ≤ maxLen) := hid (by unfold maxLen; omega)
          have n4 : Hid ((lr.length + 1) * 32 ≤ 140737488355328) := hid (by omega)
          have HTA := hid (HTQ.out.later hbA)
          have HOWNA : Hid (WA.ownsRow (G + 1) 49 2 (.slice av lr.length cv) lr.length (flat2 lr)) := hid (owns_on HOWN.out hbA)
          have HGA : Hid (G + 1 ≤ WA.heap.size) := hid HTA.out.lt
          have HPT : Hid (∀ g cap w5, w5.ownsRow (G + 1) 49 2 (.slice (some ⟨g, 0, none⟩) (lr.length + 1) cap) (lr.length + 1) (flat2 lr ++ [.string plo, .string phi]) → WA.grownBy w5 (Value.slice av lr.length cv).ownBlock → ((Value.slice av lr.length cv).ownBlock = some g ∨ g = WA.heap.size) →
              (w5.cell? ⟨G, pn * 3 + 1, none⟩ = some (.slice av lr.length cv) ∧ (∀ o, w5.frozen? ⟨G, o, none⟩ = false) ∧ w5.cell? ⟨wJ.heap.size, 0, none⟩ = some (.int .u32 (pn : Int)) ∧ Below w1.heap.size w1 w5) ∧ OwnP (w5.setCell ⟨G, pn * 3 + 1, none⟩ (.slice (some ⟨g, 0, none⟩) (lr.length + 1) cap)) (G + 1) (.slice (some ⟨q, oq, none⟩) L.length c4') L ∧ ∃ vr' vw', Tb (w5.setCell ⟨G, pn * 3 + 1, none⟩ (.slice (some ⟨g, 0, none⟩) (lr.length + 1) cap)) G N vr' vw' (fun i => readsL c.ss (rs.take m) i ++ atS i (L.take (j + 1))) (fun _ => [])) := hid (by
            intro g cap w5 ho hg hat
            have hav := HAV.out
            rw [← hav] at hg hat
            have hGo : (vr pn).ownBlock ≠ some G := fun e => by have := (World.ownsRow.lt (HTA.out.reads pn hpn) G e).1; omega
            have hb := hg.block G HTA.out.lt (fun e => hGo e.symm)
            have hc := (HTA.out.cells pn hpn).2.1
            rw [hav] at hc
            refine ⟨⟨?_, fun o => ?_, ?_, ?_⟩, ?_, putN vr pn (.slice (some ⟨g, 0, none⟩) (lr.length + 1) cap), vw, ?_⟩
            · simp only [World.cell?, hb] at hc ⊢; exact hc
            · have := HTA.out.loose o
              simp only [World.frozen?, hb] at this ⊢; exact this
            · have hlt2 : ∀ k, (vr pn).ownBlock = some k → k < wJ.heap.size := fun k hk => (World.ownsRow.lt (hTb.reads pn hpn) k hk).2
              have hq0 : wQ.heap.size = wJ.heap.size + 1 := by rw [hwQ]; simp
              have hc2 := cell_later hbA f0
              have hb2 := hg.block wJ.heap.size (by have := hbA.size; omega) (fun e => by have := hlt2 _ e.symm; omega)
              simp only [World.cell?, hb2] at hc2 ⊢; exact hc2
            · have hBA : Below w1.heap.size w1 WA := Below.on (Below.on HJ.out.2.1 hbQ) hbA
              exact Below.grown hBA hg hBA.size (fun k hk => by have := (World.ownsRow.lt (hTb.reads pn hpn) k hk).1; have := HG.out; omega)
            · exact owns_put ((HJ.out.1.later (Below.on hbQ hbA)).kept hg (rows_apart (HJ.out.1.later (Below.on hbQ hbA)) (HTA.out.reads pn hpn) (by decide))) _ _
            · have hp := HTA.out.putR (t := (plo, phi)) (g := g) (cap := cap) hpn hg (by rw [← HLR.out]; exact ho) hat
              rw [← HLR.out] at hp
              have hfun : (fun i => readsL c.ss (rs.take m) i ++ atS i (L.take (j + 1))) = putN (fun i => readsL c.ss (rs.take m) i ++ atS i (L.take j)) pn (lr ++ [(plo, phi)]) := by
                funext i
                have ht : L.take (j + 1) = L.take j ++ [(pn, plo, phi)] := by
                  rw [List.take_succ_eq_append_getElem hlj]
                  have := HP.out
                  simp [nthP, hlj] at this
                  rw [this]
                by_cases e : i = pn
                · subst e
                  rw [putN_same, ht, atS_snoc, HLR.out]; simp
                · rw [putN_other _ _ e, ht, atS_snoc, if_neg (by simp only; omega), List.append_nil]
              rw [hfun]
              exact hp)
          have g1a : (wQ.alloc (.cells #[.string plo, .string phi] 49)).cell? ⟨G, pn * 3 + 1, none⟩ = some (.slice av lr.length cv) := cell_later (Below.al (Below.refl _ _) _) g1
          have f0a : (wQ.alloc (.cells #[.string plo, .string phi] 49)).cell? ⟨wJ.heap.size, 0, none⟩ = some (.int .u32 (pn : Int)) := cell_later (Below.al (Below.refl _ _) _) f0
          have HWA := hid hWA
          clear hTb hown hown2 hav hlr hbQ hWA hbA
          go_wp2_with fail
          rw [← hwQ]
          clear hwQ
          go_region_law ((rw [← HWA.out]; refine step_append_lies _ (by rfl) _ _ 50 (by rfl) (G + 1) 49 i2 (.agg #[.string ⟨#[]⟩, .string ⟨#[]⟩]) 2 32 Tryz.underlying50 hi2 hz0 hz1 hz2 rfl (by decide) (.slice av lr.length cv) lr.length (flat2 lr) (by simp [Act.eval]) HOWNA.out ⟨wQ.heap.size, 0, none⟩ 1 1 [.string plo, .string phi] (by simp [Act.eval]) rfl n1.out n2.out (by decide) n3.out n4.out HGA.out WA.heap.size rfl ?_; intro g cap w5 hown hgrow hat hlt; have HQ := hid (HPT.out g cap w5 hown hgrow hat); have k1 := HQ.out.1.1; have kf := HQ.out.1.2.1; have k0 := HQ.out.1.2.2.1; have HBg := hid hgrow; have HSL := hid hown; clear hown hgrow hat hlt))
          all_goals (try go_wp2_with fail)
          all_goals (go_roundg (L.length - (j + 1)))
          all_goals (first | omega | (exact ⟨j + 1, by omega, rfl, by go_num, hid ⟨HQ.out.2.1, Below.setCell HQ.out.1.2.2.2 (by have := HG.out; simp; omega) _, HQ.out.2.2⟩⟩) | skip)
        · obtain rfl : j = L.length := by omega
          have HT4 : Hid (∃ vr vw, Tb wJ G N vr vw (fun i => readsL c.ss (rs.take (m + 1)) i) (fun _ => [])) := hid (by
            obtain ⟨vr, vw, ht⟩ := HJ.out.2.2
            refine ⟨vr, vw, ht.congr (fun i hi => ?_) (fun _ _ => rfl)⟩
            rw [List.take_length, reads_snoc c.ss hlm, ← HRD.out, HL.out, cutL_at2 (rl, rh) (by have := HSH.out.2; omega)])
          have HB4 := hid HJ.out.2.1
          clear HJ
          go_wp2_with fail
          go_roundg (rs.length - (m + 1))
          case measure => omega
          case rel => exact ⟨m + 1, by omega, rfl, by go_num, hid ⟨HB4.out, HT4.out⟩⟩
    · obtain rfl : m = rs.length := by omega
      have HTR : Hid (∃ vr vw, Tb wM G N vr vw (fun i => readsL c.ss rs i) (fun i => writesL c.ss (ws.take 0) i)) := hid (by
        obtain ⟨vr, vw, ht⟩ := HM.out.2
        rw [List.take_length] at ht
        exact ⟨vr, vw, ht⟩)
      have HBM := hid HM.out.1
      clear HM
      go_wp2_with fail
      obtain ⟨iw, hiw, hzw0, hzw1, hzw2⟩ := info_ofR infoRW
      go_loopg [54] ws.length (fun g s54 wr => ∃ k : Nat, k ≤ ws.length ∧ g = ws.length - k ∧ s54 = .int .i64 k ∧ Hid (Below w1.heap.size w1 wr ∧ ∃ vr vw, Tb wr G N vr vw (fun i => readsL c.ss rs i) (fun i => writesL c.ss (ws.take k) i)))
      case atStart => exact ⟨0, by omega, by omega, rfl, hid ⟨HBM.out, HTR.out⟩⟩
      case round =>
        rename World => wK
        obtain ⟨k, hk, rfl, rfl, HK⟩ := hrel
        clear HTR HBM
        by_cases hlk : k < ws.length
        · obtain ⟨b, off, rfl, d0, d1, d2⟩ := (HW.out.later (Below.on H1.out HK.out.1)) k hlk
          obtain ⟨x, hx⟩ : ∃ x, x = nthW ws k := ⟨_, rfl⟩
          rw [← hx] at d0 d1 d2
          obtain ⟨xk, xd, xv⟩ := x
          simp only at d0 d1 d2
          have HX := hid hx
          obtain ⟨wQ, hwQ⟩ : ∃ wQ, wQ = wK.alloc (.cells #[.string xk, .bool xd, .string xv] 135) := ⟨_, rfl⟩
          have hbQ : Below wK.heap.size wK wQ := by rw [hwQ]; exact Below.al (Below.refl _ _) _
          obtain ⟨f0, f1, f2⟩ := newT wK (.string xk) (.bool xd) (.string xv) 135
          rw [← hwQ] at f0 f1 f2
          obtain ⟨c0, c1, c2, c3, c4, c5⟩ := (HC.out.later HK.out.1).later hbQ
          have HBQ := hid hbQ
          obtain ⟨pn, hpn'⟩ : ∃ pn, pn = ownN c.ss xk := ⟨_, rfl⟩
          have hpn : pn < N := by rw [hpn']; have h1 := own_le c.ss xk; have := HSH.out.2; omega
          have OW := hid (owner_is (H.out.later (Below.on (Below.on H1.out HK.out.1) hbQ)) hl5 xk)
          rw [← hpn'] at OW
          have HPN := hid hpn'
          have hbox : wQ.heap.size = wK.heap.size + 1 := by rw [hwQ]; simp
          have HBOX := hid hbox
          clear hx hbQ hpn' hbox
          go_upto_region 16 with fail
          rw [← hwQ]
          clear hwQ
          go_wp2_with fail
          refine OW.out.mono ?_
          rintro e w3 ⟨rfl, hb3⟩
          replace f0 := cell_later hb3 f0
          replace f1 := cell_later hb3 f1
          replace f2 := cell_later hb3 f2
          have HB3 : Hid (Below wK.heap.size wK w3) := hid (Below.on HBQ.out hb3)
          have hs3 := hb3.size
          clear OW hb3 c0 c1 c2 c3 c4 c5 d0 d1 d2
          obtain ⟨vr, vw, hTb⟩ := HK.out.2
          have HT3 := hid (hTb.later HB3.out)
          obtain ⟨lw, hlw⟩ : ∃ lw, lw = writesL c.ss (ws.take k) pn := ⟨_, rfl⟩
          have hllw : lw.length + 1 ≤ ws.length := by
            have h1 := writes_le c.ss (ws.take k) pn
            rw [List.length_take] at h1
            rw [hlw]; omega
          have hown : OwW w3 G (vw pn) lw := by rw [hlw]; exact HT3.out.writes pn hpn
          obtain ⟨av, cv, hav⟩ := owW_slice hown
          have g2 := (HT3.out.cells pn hpn).2.2
          have gf : ∀ o, w3.frozen? ⟨G, o, none⟩ = false := HT3.out.loose
          rw [hav] at g2
          have hown2 := hown
          rw [hav] at hown2
          have HOWN := hid hown2
          have HAV := hid hav
          have HLW := hid hlw
          obtain ⟨WA, hWA⟩ : ∃ WA, WA = (w3.alloc (.cells #[.string xk, .bool xd, .string xv] 135)).drew := ⟨_, rfl⟩
          have hbA : Below w3.heap.size w3 WA := by rw [hWA]; exact Below.drew (Below.al (Below.refl _ _) _)
          have n1 : Hid (∀ j u, ([.string xk, .bool xd, .string xv] : List Value)[j]? = some u → WA.cell? ((⟨w3.heap.size, 0, none⟩ : Addr).add j) = some u) := hid (by rw [hWA]; exact fresh_wr w3 xk xd xv)
          have n2 : Hid (∀ u ∈ ([.string xk, .bool xd, .string xv] : List Value), u.oneCell' = true) := hid (fun u hu => by simp at hu; rcases hu with rfl | rfl | rfl <;> rfl)
          have n3 : Hid (lw.length + 1 ≤ maxLen) := hid (by unfold maxLen; omega)
          have n4 : Hid ((lw.length + 1) * 40 ≤ 140737488355328) := hid (by omega)
          have HTA := hid (HT3.out.later hbA)
          have HOWNA : Hid (WA.ownsRow (G + 1) 135 3 (.slice av lw.length cv) lw.length (flatW lw)) := hid (owns_on HOWN.out hbA)
          have HGA : Hid (G + 1 ≤ WA.heap.size) := hid HTA.out.lt
          have HPT : Hid (∀ g cap w5, w5.ownsRow (G + 1) 135 3 (.slice (some ⟨g, 0, none⟩) (lw.length + 1) cap) (lw.length + 1) (flatW lw ++ [.string xk, .bool xd, .string xv]) → WA.grownBy w5 (Value.slice av lw.length cv).ownBlock → ((Value.slice av lw.length cv).ownBlock = some g ∨ g = WA.heap.size) →
              (w5.cell? ⟨G, pn * 3 + 2, none⟩ = some (.slice av lw.length cv) ∧ (∀ o, w5.frozen? ⟨G, o, none⟩ = false) ∧ Below w1.heap.size w1 w5) ∧ ∃ vr' vw', Tb (w5.setCell ⟨G, pn * 3 + 2, none⟩ (.slice (some ⟨g, 0, none⟩) (lw.length + 1) cap)) G N vr' vw' (fun i => readsL c.ss rs i) (fun i => writesL c.ss (ws.take (k + 1)) i)) := hid (by
            intro g cap w5 ho hg hat
            have hav := HAV.out
            rw [← hav] at hg hat
            have hGo : (vw pn).ownBlock ≠ some G := fun e => by have := (World.ownsRow.lt (HTA.out.writes pn hpn) G e).1; omega
            have hb := hg.block G HTA.out.lt (fun e => hGo e.symm)
            have hc := (HTA.out.cells pn hpn).2.2
            rw [hav] at hc
            refine ⟨⟨?_, fun o => ?_, ?_⟩, vr, putN vw pn (.slice (some ⟨g, 0, none⟩) (lw.length + 1) cap), ?_⟩
            · simp only [World.cell?, hb] at hc ⊢; exact hc
            · have := HTA.out.loose o
              simp only [World.frozen?, hb] at this ⊢; exact this
            · have hBA : Below w1.heap.size w1 WA := Below.on (Below.on HK.out.1 HB3.out) hbA
              exact Below.grown hBA hg hBA.size (fun k hk => by have := (World.ownsRow.lt (hTb.writes pn hpn) k hk).1; have := HG.out; omega)
            · have hp := HTA.out.putW (t := ⟨xk, xd, xv⟩) (g := g) (cap := cap) hpn hg (by rw [← HLW.out]; exact ho) hat
              rw [← HLW.out] at hp
              have hfun : (fun i => writesL c.ss (ws.take (k + 1)) i) = putN (fun i => writesL c.ss (ws.take k) i) pn (lw ++ [⟨xk, xd, xv⟩]) := by
                funext i
                rw [writes_snoc c.ss hlk, ← HX.out]
                by_cases e : i = pn
                · subst e
                  rw [putN_same, HLW.out, if_pos HPN.out.symm]
                · rw [putN_other _ _ e, if_neg (by show ¬ ownN c.ss xk = i; rw [← HPN.out]; exact Ne.symm e), List.append_nil]
              rw [hfun]
              exact hp)
          have g2a : (w3.alloc (.cells #[.string xk, .bool xd, .string xv] 135)).cell? ⟨G, pn * 3 + 2, none⟩ = some (.slice av lw.length cv) := cell_later (Below.al (Below.refl _ _) _) g2
          have HWA := hid hWA
          clear hTb hown hown2 hav hlw hWA hbA
          go_wp2_with fail
          go_region_law ((rw [← HWA.out]; refine step_append_lies _ (by rfl) _ _ 51 (by rfl) (G + 1) 135 iw (.agg #[.string ⟨#[]⟩, .bool false, .string ⟨#[]⟩]) 3 40 Tryz.underlying51 hiw hzw0 hzw1 hzw2 rfl (by decide) (.slice av lw.length cv) lw.length (flatW lw) (by simp [Act.eval]) HOWNA.out ⟨w3.heap.size, 0, none⟩ 1 1 [.string xk, .bool xd, .string xv] (by simp [Act.eval]) rfl n1.out n2.out (by decide) n3.out n4.out HGA.out WA.heap.size rfl ?_; intro g cap w5 hown hgrow hat hlt; have HQ := hid (HPT.out g cap w5 hown hgrow hat); have k1 := HQ.out.1.1; have kf := HQ.out.1.2.1; have HBg := hid hgrow; have HSL := hid hown; clear hown hgrow hat hlt))
          all_goals (try go_wp2_with fail)
          all_goals (go_roundg (ws.length - (k + 1)))
          all_goals (first | omega | (exact ⟨k + 1, by omega, rfl, by go_num, hid ⟨Below.setCell HQ.out.1.2.2 (by have := HG.out; simp; omega) _, HQ.out.2⟩⟩) | skip)
        · obtain rfl : k = ws.length := by omega
          obtain ⟨vr, vw, hT⟩ := HK.out.2
          rw [List.take_length] at hT
          have HTK := hid hT
          have HBK := hid (Below.on H1.out HK.out.1)
          have TK := hid (taking_is hT hN6 (fun i _ => Nat.le_trans (reads_le c.ss rs i) hrl) (fun i _ => Nat.le_trans (writes_le c.ss ws i) (by omega)))
          clear hT HK
          go_wp2_with fail
          refine TK.out.mono ?_
          rintro e w5 ⟨v, rfl, ho, hb5⟩
          obtain ⟨a9, c9, vr9, vw9, rfl, hrow⟩ := OwnS.own HTK.out hb5 ho (A := w.heap.size) HBK.out.size (by have h1 := HG.out; have h2 := H1.out.size; omega)
          have HF : Hid ((∃ vr vw, ShO w5 w.heap.size a9 (shareL c.ss rs ws) vr vw) ∧ Below w.heap.size w w5 ∧ (shareN c.ss rs ws N).length = (shareL c.ss rs ws).length) := hid ⟨⟨vr9, vw9, by rw [shareL, ← HSH.out.2]; exact hrow⟩, Below.on HBK.out hb5, by rw [shareL, ← HSH.out.2]⟩
          rw [HF.out.2.2]
          clear ho hrow hb5 TK HTK
          go_wp2_with fail
          go_ret
          exact ⟨_, _, rfl, hid HF.out.1, HF.out.2.1⟩

theorem Shares_is {c : Cf} {w : World} (h : c.Ok w) (hv : c.okB = true) {ra wa : Option Addr} {rc wc : Nat} {rs : List T2} {ws : List Wr} (hr : Row2 w ra rs) (hw : RowW w wa ws) (hrl : rs.length ≤ 4398046511104) (hwl : ws.length ≤ 3518437208883) :
    Calls Tryz.prog 33 #[c.val, .slice ra rs.length rc, .slice wa ws.length wc] w fun e w' => ∃ a cp, e = .returned (.slice a (shareL c.ss rs ws).length cp) ∧ Hid (RowSh w' a (shareL c.ss rs ws)) ∧ Below w.heap.size w w' := by
  refine (Shares_own h hv hr hw hrl hwl).mono ?_
  rintro e w' ⟨a, cp, rfl, ho, hb⟩
  obtain ⟨vr, vw, ho⟩ := ho.out
  exact ⟨a, cp, rfl, hid ho.row, hb⟩

end Go.Proofs.YthenfioddnkjbaaGreatDoor.Rt
