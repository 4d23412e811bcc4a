import Derived.Test.YthenfioddnkjbaaGreatDoorRParts
import Derived.Test.YthenfioddnkjbaaGreatDoorRRoom
import Derived.Laws.MakeOwn
import Derived.Laws.CopyOwn
import Derived.Test.YthenfioddnkjbaaGreatDoorRCut
import Derived.Laws.OwnMore
import Derived.Test.YthenfioddnkjbaaGreatDoorRMay
import Derived.Laws.StructEq
import Derived.Deep.AppendLies
/- A configuration with split keys of its own. -/
namespace Go.Proofs.YthenfioddnkjbaaGreatDoor.Rt
open Go.RowKit Go.Sort
set_option linter.unusedVariables false

/-- what Cut answers -/
def Cf.cutA (c : Cf) (s : T2) : List Pt := if c.okB then cutL c.ss s else []
theorem Cut_is {c : Cf} {w : World} (h : c.Ok w) (s : T2) :
    Calls Tryz.prog 27 #[c.val, spv s] w fun e w' => ∃ v, e = .returned v ∧ OwnP w' w.heap.size v (c.cutA s) ∧ Below w.heap.size w w' := by
  obtain ⟨lo, hi⟩ := s
  have H := hid h
  clear h
  have HU : Hid (c.cutA (lo, hi) = if c.okB then cutL c.ss (lo, hi) else []) := hid rfl
  have HB : Hid (BoxC ((w.alloc (.cells #[.int .i64 c.sh, .int .i64 c.cl, .slice c.a c.ss.length c.cp, .int .i64 c.ca, .int .i64 c.pk, .int .u64 c.wi] 26)).alloc (.cells #[.string lo, .string hi] 49)) w.heap.size c) := hid ((BoxC.new w c _).later (Below.al (Below.refl _ _) _))
  have HS := hid (newSp (w.alloc (.cells #[.int .i64 c.sh, .int .i64 c.cl, .slice c.a c.ss.length c.cp, .int .i64 c.ca, .int .i64 c.pk, .int .u64 c.wi] 26)) lo hi 49)
  go_enter Tryz.func27, Tryz.ntmps27
  go_wp2_with fail
  refine (mayBe_is (H.out.later (by (repeat (first | exact Below.refl _ _ | assumption | refine Below.drew ?_ | refine Below.al ?_ _ | refine Below.setCell ?_ (by first | exact Nat.le_refl _ | (simp; omega) | (simp; done)) _ | refine Below.on ?_ (by assumption))))) rfl).mono ?_
  rintro e w1 ⟨rfl, hw1⟩
  obtain ⟨c0, c1, c2, c3, c4, c5⟩ := HB.out.later hw1
  have s0 := cell_later hw1 HS.out.1
  have s1 := cell_later hw1 HS.out.2.1
  rw [World.size_alloc] at s0 s1
  have HW : Hid (Below w.heap.size w w1) := hid (by (repeat (first | exact Below.refl _ _ | assumption | refine Below.drew ?_ | refine Below.al ?_ _ | refine Below.setCell ?_ (by first | exact Nat.le_refl _ | (simp; omega) | (simp; done)) _ | refine Below.on ?_ (by assumption))))
  clear hw1 HB HS
  cases ho : c.okB
  · go_wp2_with fail
    go_ret
    exact ⟨_, rfl, by rw [HU.out, ho]; exact OwnP.nil _ _, HW.out⟩
  · go_wp2_with fail
    refine (cut_is (H.out.later HW.out) (ok_len ho).1 (ok_len ho).2.1 (lo, hi)).mono ?_
    rintro e w2 ⟨v, rfl, hv, hw2⟩
    have HV := hid hv
    clear hv
    go_wp2_with fail
    go_ret
    exact ⟨_, rfl, by rw [HU.out, ho]; exact HV.out.base HW.out.size, Below.on HW.out hw2⟩

end Go.Proofs.YthenfioddnkjbaaGreatDoor.Rt
/- Parts that were handed out, read. -/
namespace Go.Proofs.YthenfioddnkjbaaGreatDoor.Rt
open Go.RowKit Go.Sort
set_option linter.unusedVariables false

def nthP (l : List Pt) (i : Nat) : Pt := l[i]?.getD (0, mt, mt)
/-- a row of parts -/
def RowP (w : World) (a : Option Addr) (l : List Pt) : Prop := ∀ i, i < l.length → ∃ b off, a = some ⟨b, off, none⟩ ∧ w.cell? ⟨b, off + i * 3, none⟩ = some (.int .u32 ((nthP l i).1 : Int)) ∧ w.cell? ⟨b, off + i * 3 + 1, none⟩ = some (.string (nthP l i).2.1) ∧ w.cell? ⟨b, off + i * 3 + 2, none⟩ = some (.string (nthP l i).2.2)
theorem RowP.later {w w' : World} {a : Option Addr} {l : List Pt} (h : RowP w a l) (hb : Below w.heap.size w w') : RowP w' a l := fun i hi => by
  obtain ⟨b, off, e, h0, h1, h2⟩ := h i hi
  exact ⟨b, off, e, cell_later hb h0, cell_later hb h1, cell_later hb h2⟩
theorem flatP_get : ∀ (l : List Pt) (i o : Nat), i < l.length → o < 3 → (flatP l)[i * 3 + o]? = (cellsP (nthP l i))[o]?
  | [], i, o, h, _ => by simp at h
  | v :: vs, i, o, h, ho => by
    show (cellsP v ++ flatP vs)[i * 3 + o]? = _
    cases i with
    | zero => rw [List.getElem?_append_left (by simp [cellsP]; omega)]; simp [nthP]
    | succ i =>
      have e : (i + 1) * 3 + o - (cellsP v).length = i * 3 + o := by simp [cellsP]; omega
      rw [List.getElem?_append_right (by simp [cellsP]; omega), e, flatP_get vs i o (by simpa using h) ho]
      simp [nthP]
theorem OwnP.row {w : World} {B : Nat} {v : Value} {l : List Pt} (h : OwnP w B v l) : ∃ a c, v = .slice a l.length c ∧ RowP w a l := by
  rcases Nat.eq_zero_or_pos l.length with h0 | h0
  · obtain ⟨a, c, e⟩ := ownP_slice h
    exact ⟨a, c, e, fun i hi => by omega⟩
  · rcases h.2 with ⟨hv, h1⟩ | ⟨g, cap, cur, hv, _⟩
    · omega
    · subst hv
      refine ⟨_, _, rfl, fun i hi => ⟨g, 0, rfl, ?_, ?_, ?_⟩⟩
      · rw [Nat.zero_add]
        have := World.ownsRow.cellAt h (i * 3) (by omega)
        rw [this]; exact flatP_get l i 0 hi (by omega)
      · rw [Nat.zero_add]
        have := World.ownsRow.cellAt h (i * 3 + 1) (by omega)
        rw [this]; exact flatP_get l i 1 hi (by omega)
      · rw [Nat.zero_add]
        have := World.ownsRow.cellAt h (i * 3 + 2) (by omega)
        rw [this]; exact flatP_get l i 2 hi (by omega)
theorem Cutr_is {c : Cf} {w : World} (h : c.Ok w) (hv : c.okB = true) (s : T2) :
    Calls Tryz.prog 27 #[c.val, spv s] w fun e w' => ∃ a cp, e = .returned (.slice a (cutL c.ss s).length cp) ∧ RowP w' a (cutL c.ss s) ∧ Below w.heap.size w w' := by
  refine (Cut_is h s).mono ?_
  rintro e w' ⟨v, rfl, ho, hb⟩
  rw [Cf.cutA, if_pos hv] at ho
  obtain ⟨a, cp, rfl, hr⟩ := ho.row
  exact ⟨a, cp, rfl, hr, hb⟩
theorem Cutn_is {c : Cf} {w : World} (h : c.Ok w) (hv : c.okB = false) (s : T2) :
    Calls Tryz.prog 27 #[c.val, spv s] w fun e w' => ∃ a cp, e = .returned (.slice a 0 cp) ∧ Below w.heap.size w w' := by
  refine (Cut_is h s).mono ?_
  rintro e w' ⟨v, rfl, ho, hb⟩
  rw [Cf.cutA, hv] at ho
  obtain ⟨a, cp, rfl⟩ := ownP_slice ho
  exact ⟨a, cp, rfl, hb⟩
theorem nthP_mem {l : List Pt} {i : Nat} (h : i < l.length) : nthP l i ∈ l := by simp [nthP, h]
theorem cutL_rise {ss : List ByteArray} {s : T2} {i : Nat} (h : i + 1 < (cutL ss s).length) : (nthP (cutL ss s) i).1 < (nthP (cutL ss s) (i + 1)).1 := by
  have hp : (cutL ss s).Pairwise fun a b => a.1 < b.1 := cut_rise ss s (ss.length + 1)
  have := List.pairwise_iff_getElem.1 hp i (i + 1) (show i < (cutL ss s).length by omega) h (by omega)
  simpa [nthP, h, show i < (cutL ss s).length by omega] using this
theorem cutL_at {ss : List ByteArray} {s : T2} {i : Nat} (h : i < (cutL ss s).length) : (nthP (cutL ss s) i).1 ≤ ss.length ∧ void (nthP (cutL ss s) i).2 = false := by
  have hm : nthP (cutL ss s) i ∈ cutN ss s (ss.length + 1) := nthP_mem h
  obtain ⟨h1, h2⟩ := cut_mem hm
  exact ⟨by omega, comm_void h2⟩
theorem cntP_take {k : ByteArray} {l : List Pt} {j : Nat} (h : j < l.length) : cntP k (l.take (j + 1)) = cntP k (l.take j) + if insB k (nthP l j).2 then 1 else 0 := by
  rw [List.take_succ_eq_append_getElem h, cntP_snoc]
  simp [nthP, h]
theorem cntP_le (k : ByteArray) (l : List Pt) : cntP k l ≤ l.length := List.length_filter_le _ _
theorem cutL_len (ss : List ByteArray) (s : T2) : (cutL ss s).length ≤ ss.length + 1 := cut_len _ _ _

end Go.Proofs.YthenfioddnkjbaaGreatDoor.Rt
/- The participants of a transaction, plain. -/
namespace Go.Proofs.YthenfioddnkjbaaGreatDoor.Rt
set_option linter.unusedVariables false

/-- the reads of shard i -/
def readsL (ss : List ByteArray) (rs : List T2) (i : Nat) : List T2 := rs.filterMap fun r => comm (reachN ss i) r
/-- the writes of shard i -/
def writesL (ss : List ByteArray) (ws : List Wr) (i : Nat) : List Wr := ws.filter fun x => decide (ownN ss x.key = i)
/-- a share: a shard, its reads, its writes -/
abbrev Sh := Nat × List T2 × List Wr
def shareN (ss : List ByteArray) (rs : List T2) (ws : List Wr) : Nat → List Sh
  | 0 => []
  | n + 1 => shareN ss rs ws n ++ if (readsL ss rs n).length + (writesL ss ws n).length = 0 then [] else [(n, readsL ss rs n, writesL ss ws n)]
def shareL (ss : List ByteArray) (rs : List T2) (ws : List Wr) : List Sh := shareN ss rs ws (ss.length + 1)
theorem share_mem {ss : List ByteArray} {rs : List T2} {ws : List Wr} {p : Sh} : ∀ {n : Nat}, p ∈ shareN ss rs ws n → p.1 < n ∧ p.2.1 = readsL ss rs p.1 ∧ p.2.2 = writesL ss ws p.1 ∧ p.2.1.length + p.2.2.length ≠ 0
  | 0, h => by simp [shareN] at h
  | n + 1, h => by
    rw [shareN, List.mem_append] at h
    rcases h with h | h
    · have := share_mem h; exact ⟨by omega, this.2⟩
    · split at h
      · simp at h
      · rename_i hne
        simp at h; subst h; exact ⟨by simp, rfl, rfl, hne⟩
theorem share_rise (ss : List ByteArray) (rs : List T2) (ws : List Wr) : ∀ n, (shareN ss rs ws n).Pairwise fun a b => a.1 < b.1
  | 0 => by simp [shareN]
  | n + 1 => by
    rw [shareN, List.pairwise_append]
    refine ⟨share_rise ss rs ws n, ?_, fun a ha b hb => ?_⟩
    · split <;> simp
    · have := (share_mem ha).1
      split at hb
      · simp at hb
      · simp at hb; subst hb; exact this
theorem share_len (ss : List ByteArray) (rs : List T2) (ws : List Wr) : ∀ n, (shareN ss rs ws n).length ≤ n
  | 0 => by simp [shareN]
  | n + 1 => by
    have := share_len ss rs ws n
    rw [shareN, List.length_append]
    split <;> simp <;> omega

/-- how many writes the first n shards have -/
def sumW (l : List Sh) : Nat := (l.map fun p => p.2.2.length).sum
theorem sumW_snoc (l : List Sh) (p : Sh) : sumW (l ++ [p]) = sumW l + p.2.2.length := by simp [sumW]
theorem below_split (ss : List ByteArray) (ws : List Wr) (n : Nat) : (ws.filter fun x => decide (ownN ss x.key < n + 1)).length = (ws.filter fun x => decide (ownN ss x.key < n)).length + (writesL ss ws n).length := by
  induction ws with
  | nil => rfl
  | cons x ws ih =>
    simp only [writesL] at ih ⊢
    simp only [List.filter_cons]
    rcases Nat.lt_trichotomy (ownN ss x.key) n with h | h | h
    · have h1 : decide (ownN ss x.key < n + 1) = true := decide_eq_true (by omega)
      have h2 : decide (ownN ss x.key < n) = true := decide_eq_true h
      have h3 : decide (ownN ss x.key = n) = false := decide_eq_false (by omega)
      rw [h1, h2, h3]; simp [ih]; omega
    · have h1 : decide (ownN ss x.key < n + 1) = true := decide_eq_true (by omega)
      have h2 : decide (ownN ss x.key < n) = false := decide_eq_false (by omega)
      have h3 : decide (ownN ss x.key = n) = true := decide_eq_true h
      rw [h1, h2, h3]; simp [ih]; omega
    · have h1 : decide (ownN ss x.key < n + 1) = false := decide_eq_false (by omega)
      have h2 : decide (ownN ss x.key < n) = false := decide_eq_false (by omega)
      have h3 : decide (ownN ss x.key = n) = false := decide_eq_false (by omega)
      rw [h1, h2, h3]; simp [ih]
theorem sum_shares (ss : List ByteArray) (rs : List T2) (ws : List Wr) : ∀ n, sumW (shareN ss rs ws n) = (ws.filter fun x => decide (ownN ss x.key < n)).length
  | 0 => by
    have h0 : (ws.filter fun x => decide (ownN ss x.key < 0)) = [] := List.filter_eq_nil_iff.2 (by simp)
    rw [h0]; rfl
  | n + 1 => by
    have ih := sum_shares ss rs ws n
    rw [shareN, below_split]
    split
    · rename_i h
      rw [List.append_nil, ih]; omega
    · rw [sumW_snoc, ih]
theorem sum_all (ss : List ByteArray) (rs : List T2) (ws : List Wr) : sumW (shareL ss rs ws) = ws.length := by
  rw [shareL, sum_shares, List.filter_eq_self.2]
  intro x _
  have := own_le ss x.key
  exact decide_eq_true (by omega)

/-- the least shard of the writes -/
def homeN (ss : List ByteArray) : List Wr → Nat
  | [] => 0
  | [x] => ownN ss x.key
  | x :: ws => min (ownN ss x.key) (homeN ss ws)
/-- the same, from the front -/
def homeK (ss : List ByteArray) (ws : List Wr) : Nat → Nat
  | 0 => ownN ss (nthW ws 0).key
  | k + 1 => min (homeK ss ws k) (ownN ss (nthW ws (k + 1)).key)
theorem homeK_le (ss : List ByteArray) (ws : List Wr) : ∀ k i, i ≤ k → homeK ss ws k ≤ ownN ss (nthW ws i).key
  | 0, i, h => by
    obtain rfl : i = 0 := (by omega)
    exact Nat.le_refl _
  | k + 1, i, h => by
    rw [homeK]
    by_cases e : i = k + 1
    · subst e; exact Nat.min_le_right _ _
    · exact Nat.le_trans (Nat.min_le_left _ _) (homeK_le ss ws k i (by omega))
theorem homeK_is (ss : List ByteArray) (ws : List Wr) : ∀ k, ∃ i, i ≤ k ∧ homeK ss ws k = ownN ss (nthW ws i).key
  | 0 => ⟨0, Nat.le_refl _, rfl⟩
  | k + 1 => by
    rw [homeK]
    obtain ⟨i, hi, e⟩ := homeK_is ss ws k
    rcases Nat.le_total (homeK ss ws k) (ownN ss (nthW ws (k + 1)).key) with h | h
    · exact ⟨i, by omega, by rw [Nat.min_eq_left h, e]⟩
    · exact ⟨k + 1, Nat.le_refl _, Nat.min_eq_right h⟩
/-- the home is the first shard that has writes -/
theorem home_first {ss : List ByteArray} {ws : List Wr} (h0 : 0 < ws.length) : (∀ i, i < homeK ss ws (ws.length - 1) → writesL ss ws i = []) ∧ writesL ss ws (homeK ss ws (ws.length - 1)) ≠ [] := by
  constructor
  · intro i hi
    rw [writesL, List.filter_eq_nil_iff]
    intro x hx
    obtain ⟨j, hj, rfl⟩ := List.mem_iff_getElem.1 hx
    have := homeK_le ss ws (ws.length - 1) j (by omega)
    simp only [nthW, List.getElem?_eq_getElem hj, Option.getD_some] at this
    simp; omega
  · obtain ⟨i, hi, e⟩ := homeK_is ss ws (ws.length - 1)
    rw [e]
    intro h
    have hm : nthW ws i ∈ writesL ss ws (ownN ss (nthW ws i).key) := by
      rw [writesL, List.mem_filter]
      refine ⟨?_, by simp⟩
      simp [nthW, show i < ws.length by omega]
    rw [h] at hm
    simp at hm

/-- how many of the spans have the key -/
def cnt2 (k : ByteArray) (l : List T2) : Nat := (l.filter fun s => insB k s).length
theorem cnt2_snoc (k : ByteArray) (l : List T2) (s : T2) : cnt2 k (l ++ [s]) = cnt2 k l + if insB k s then 1 else 0 := by
  simp only [cnt2, List.filter_append, List.length_append]
  cases h : insB k s <;> simp [List.filter, h]
theorem reads_in {ss : List ByteArray} (h : risB ss = true) {rs : List T2} {i : Nat} (hi : i ≤ ss.length) (k : ByteArray) {s : T2} (hs : s ∈ readsL ss rs i) (hk : insB k s = true) : ownN ss k = i := by
  obtain ⟨r, _, hr⟩ := List.mem_filterMap.1 hs
  rw [comm_some hr, ins_reach h k hi] at hk
  simp at hk
  exact hk.1
theorem cnt_reads {ss : List ByteArray} (h : risB ss = true) (rs : List T2) {i : Nat} (hi : i ≤ ss.length) (k : ByteArray) : cnt2 k (readsL ss rs i) = if ownN ss k = i then cnt2 k rs else 0 := by
  induction rs with
  | nil => simp [readsL, cnt2]
  | cons r rs ih =>
    simp only [readsL, cnt2] at ih ⊢
    simp only [List.filterMap_cons, List.filter_cons]
    cases hc : comm (reachN ss i) r with
    | none =>
      simp only
      rw [ih]
      have hn := comm_none hc k
      rw [ins_reach h k hi] at hn
      by_cases ho : ownN ss k = i
      · simp [ho] at hn; simp [ho, hn]
      · simp [ho]
    | some t =>
      simp only [List.filter_cons]
      have ht := comm_some hc k
      rw [ins_reach h k hi] at ht
      by_cases ho : ownN ss k = i
      · simp only [ho, decide_true, Bool.true_and] at ht
        simp only [ho, if_true] at ih ⊢
        rw [ht]
        cases insB k r <;> simp [ih]
      · simp only [ho, decide_false, Bool.false_and] at ht
        simp only [ho, if_false] at ih ⊢
        rw [ht]
        simpa using ih
/-- how many of the shares' reads have the key -/
def got (k : ByteArray) (l : List Sh) : Nat := (l.map fun p => cnt2 k p.2.1).sum
theorem got_snoc (k : ByteArray) (l : List Sh) (p : Sh) : got k (l ++ [p]) = got k l + cnt2 k p.2.1 := by simp [got]
theorem got_shares {ss : List ByteArray} (h : risB ss = true) (rs : List T2) (ws : List Wr) (k : ByteArray) : ∀ n, n ≤ ss.length + 1 → got k (shareN ss rs ws n) = if ownN ss k < n then cnt2 k rs else 0
  | 0, _ => by simp [shareN, got]
  | n + 1, hn => by
    have ih := got_shares h rs ws k n (by omega)
    have hc := cnt_reads h rs (show n ≤ ss.length by omega) k
    have key : got k (shareN ss rs ws n ++ if (readsL ss rs n).length + (writesL ss ws n).length = 0 then [] else [(n, readsL ss rs n, writesL ss ws n)]) = got k (shareN ss rs ws n) + cnt2 k (readsL ss rs n) := by
      split
      · rename_i h0
        have : readsL ss rs n = [] := List.eq_nil_of_length_eq_zero (by omega)
        rw [this, List.append_nil]; simp [cnt2]
      · rw [got_snoc]
    rw [shareN, key, ih, hc]
    by_cases h1 : ownN ss k < n
    · rw [if_pos h1, if_neg (by omega), if_pos (by omega)]; rfl
    · by_cases h2 : ownN ss k = n
      · rw [if_neg h1, if_pos h2, if_pos (by omega)]; omega
      · rw [if_neg h1, if_neg h2, if_neg (by omega)]
theorem got_all {ss : List ByteArray} (h : risB ss = true) (rs : List T2) (ws : List Wr) (k : ByteArray) : got k (shareL ss rs ws) = cnt2 k rs := by
  have := own_le ss k
  rw [shareL, got_shares h rs ws k _ (Nat.le_refl _), if_pos (by omega)]

end Go.Proofs.YthenfioddnkjbaaGreatDoor.Rt
/- Home, and lists of writes that are alike. -/
namespace Go.Proofs.YthenfioddnkjbaaGreatDoor.Rt
open Go.RowKit Go.Sort
set_option linter.unusedVariables false

theorem eqW (x : Wr) (w : World) : (binOp .neq 135 (.agg #[.string x.key, .bool x.del, .string x.val]) (.agg #[.string x.key, .bool x.del, .string x.val])).run Tryz.prog w = .ok (.bool false) w := by
  simp [go_sem, Tryz.underlying135]

set_option maxHeartbeats 4000000 in
theorem sameW_is {a b : Option Addr} {c d : Nat} {xs : List Wr} {w : World} (h1 : RowW w a xs) (h2 : RowW w b xs) (hl : xs.length ≤ 8796093022208) :
    Calls Tryz.prog 84 #[.slice a xs.length c, .slice b xs.length d] w fun e w' => e = .returned (.bool true) ∧ Below w.heap.size w w' := by
  have H1 := hid h1; have H2 := hid h2
  clear h1 h2
  go_enter Tryz.func84, Tryz.ntmps84
  go_wp2_with fail
  go_loopg [5] xs.length (fun g s5 wr => ∃ k : Nat, k ≤ xs.length ∧ g = xs.length - k ∧ s5 = .int .i64 k ∧ Hid (Below w.heap.size w wr))
  case atStart => exact ⟨0, by omega, by omega, rfl, hid (Below.refl _ _)⟩
  case round =>
    obtain ⟨k, hk, rfl, rfl, HK⟩ := hrel
    by_cases hlt : k < xs.length
    · obtain ⟨b1, o1, rfl, e0, e1, e2⟩ := (H1.out.later HK.out) k hlt
      obtain ⟨b2, o2, rfl, f0, f1, f2⟩ := (H2.out.later HK.out) k hlt
      obtain ⟨x, hx⟩ : ∃ x, x = nthW xs k := ⟨_, rfl⟩
      rw [← hx] at e0 e1 e2 f0 f1 f2
      clear hx
      have k0 := cell_regrown e0; have k1 := cell_regrown e1; have k2 := cell_regrown e2
      have l0 := cell_regrown f0; have l1 := cell_regrown f1; have l2 := cell_regrown f2
      have heq := eqW x
      go_wp2_with fail
      refine wp_region_quiet_below (by kernel_rfl) (by kernel_rfl) ?_
      repeat (go_big_quiet_step (fail))
      refine wpQuiet_nil ?_
      intro wq hq
      replace hq := below_of_regrown hq
      have HQ := hid (Below.on HK.out hq)
      clear hq k0 k1 k2 l0 l1 l2
      go_wp2_with fail
      go_roundg (xs.length - (k + 1))
      case measure => omega
      case rel => exact ⟨k + 1, by omega, rfl, by go_num, HQ⟩
    · obtain rfl : k = xs.length := by omega
      go_wp2_with fail
      go_ret
      exact ⟨rfl, HK.out⟩

theorem run_minU (m n : Nat) (ts : Array TypeId) (ty : TypeId) (w : World) : (Builtin.min_ ts ty #[.int .u32 (m : Int), .int .u32 (n : Int)]).run Tryz.prog w = .ok (.int .u32 ((min m n : Nat) : Int)) w := by
  rcases Nat.lt_or_ge n m with h | h
  · have h1 : (n : Int) < (m : Int) := by omega
    simp [Builtin.min_, Builtin.min2, Nat.min_eq_right (Nat.le_of_lt h), h1]
  · have h1 : ¬ (n : Int) < (m : Int) := by omega
    simp [Builtin.min_, Builtin.min2, Nat.min_eq_left h, h1]

/-- what Home answers -/
def Cf.home (c : Cf) (ws : List Wr) : Nat × Bool := if c.okB && decide (0 < ws.length) then (homeK c.ss ws (ws.length - 1), true) else (0, false)
set_option maxHeartbeats 4000000 in
theorem Home_is {c : Cf} {w : World} (h : c.Ok w) {a : Option Addr} {cp : Nat} {ws : List Wr} (hr : RowW w a ws) (hl : ws.length ≤ 8796093022208) (hcp : ws.length < cp) :
    Calls Tryz.prog 41 #[c.val, .slice a ws.length cp] w fun e w' => e = .returned (.tuple #[.int .u32 ((c.home ws).1 : Int), .bool (c.home ws).2]) ∧ Below w.heap.size w w' := by
  have H := hid h; have HR := hid hr
  have HB := hid (BoxC.new w c 26)
  clear h hr
  go_enter Tryz.func41, Tryz.ntmps41
  go_wp2_with fail
  refine (mayBe_is (H.out.later (by (repeat (first | exact Below.refl _ _ | assumption | refine Below.drew ?_ | refine Below.al ?_ _ | refine Below.setCell ?_ (by first | exact Nat.le_refl _ | (simp; omega) | (simp; done)) _ | refine Below.on ?_ (by assumption))))) rfl).mono ?_
  rintro e w1 ⟨rfl, hw1⟩
  obtain ⟨c0, c1, c2, c3, c4, c5⟩ := HB.out.later hw1
  have HW : Hid (Below w.heap.size w w1) := hid (by (repeat (first | exact Below.refl _ _ | assumption | refine Below.drew ?_ | refine Below.al ?_ _ | refine Below.setCell ?_ (by first | exact Nat.le_refl _ | (simp; omega) | (simp; done)) _ | refine Below.on ?_ (by assumption))))
  have HC := hid (HB.out.later hw1)
  clear hw1 HB
  cases ho : c.okB
  · have HU : Hid (c.home ws = (0, false)) := hid (by rw [Cf.home, ho]; rfl)
    go_wp2_with fail
    go_ret2
    exact ⟨by rw [HU.out]; rfl, HW.out⟩
  · rcases ws with _ | ⟨x, ws⟩
    · have HU : Hid (c.home [] = (0, false)) := hid (by rw [Cf.home, ho]; rfl)
      go_wp2_with fail
      go_ret2
      exact ⟨by rw [HU.out]; rfl, HW.out⟩
    · have HU : Hid (c.home (x :: ws) = (homeK c.ss (x :: ws) ws.length, true)) := hid (by rw [Cf.home, ho]; simp)
      obtain ⟨hl5, hsh, hri⟩ := ok_len ho
      have HO : Hid (∀ W y, Below w1.heap.size w1 W → Calls Tryz.prog 13 #[c.val, .string y] W fun e w' => e = .returned (.int .u32 (ownN c.ss y : Int)) ∧ Below W.heap.size W w') := hid (fun W y hb => owner_is (H.out.later (Below.on HW.out hb)) hl5 y)
      obtain ⟨b, off, rfl, e0, e1, e2⟩ := (HR.out.later HW.out) 0 (by simp)
      have HK0 : Hid (ownN c.ss x.key = homeK c.ss (x :: ws) 0) := hid rfl
      simp only [nthW, List.getElem?_cons_zero, Option.getD_some, Nat.zero_mul, Nat.add_zero] at e0 e1 e2
      clear hsh hri
      simp only [List.length_cons] at hl hcp
      have hcp1 : cp ≠ 1 := by omega
      go_wp2_with fail
      go_cut [6] (fun s wx => s = .int .u32 (ownN c.ss x.key : Int) ∧ Below w1.heap.size w1 wx)
      case first =>
        go_region_held3 (fun w' => w'.cell? ⟨w.heap.size, 0, none⟩ = some (.int .i64 c.sh) ∧ w'.cell? ⟨w.heap.size, 1, none⟩ = some (.int .i64 c.cl) ∧ w'.cell? ⟨w.heap.size, 2, none⟩ = some (.slice c.a c.ss.length c.cp) ∧ w'.cell? ⟨w.heap.size, 3, none⟩ = some (.int .i64 c.ca) ∧ w'.cell? ⟨w.heap.size, 4, none⟩ = some (.int .i64 c.pk) ∧ w'.cell? ⟨w.heap.size, 5, none⟩ = some (.int .u64 c.wi) ∧ w'.cell? ⟨b, off, none⟩ = some (.string x.key) ∧ Below w1.heap.size w1 w')
          ((refine (fun (hB : Below w1.heap.size w1 _) => ⟨cell_later hB c0, cell_later hB c1, cell_later hB c2, cell_later hB c3, cell_later hB c4, cell_later hB c5, cell_later hB e0, hB⟩) ?_; (repeat (first | with_reducible exact Below.refl _ _ | with_reducible assumption | with_reducible refine Below.drew ?_ | with_reducible refine Below.al ?_ _ | with_reducible refine Below.setCell ?_ (by first | exact Nat.le_refl _ | (simp; omega) | (simp; done)) _ | with_reducible refine Below.on ?_ (by assumption)))))
          (first | (go_at_call 13; refine (HO.out _ _ (by (repeat (first | with_reducible exact Below.refl _ _ | with_reducible assumption | with_reducible refine Below.drew ?_ | with_reducible refine Below.al ?_ _ | with_reducible refine Below.setCell ?_ (by first | exact Nat.le_refl _ | (simp; omega) | (simp; done)) _ | with_reducible refine Below.on ?_ (by assumption))))).mono ?_; rintro e w2 ⟨rfl, hb2⟩))
        all_goals (try go_wp2_with fail)
        all_goals go_meet
        all_goals (exact ⟨rfl, by (repeat (first | with_reducible exact Below.refl _ _ | with_reducible assumption | with_reducible refine Below.drew ?_ | with_reducible refine Below.al ?_ _ | with_reducible refine Below.setCell ?_ (by first | exact Nat.le_refl _ | (simp; omega) | (simp; done)) _ | with_reducible refine Below.on ?_ (by assumption)))⟩)
      case rest =>
        obtain ⟨rfl, hbx⟩ := hcut
        have HX := hid hbx
        clear hbx c0 c1 c2 c3 c4 c5 e0 e1 e2
        rw [HK0.out]
        go_wp2_with fail
        go_loopg [6, 26] ws.length (fun g s6 s26 wr => ∃ k : Nat, k ≤ ws.length ∧ g = ws.length - k ∧ s26 = .int .i64 k ∧ s6 = .int .u32 (homeK c.ss (x :: ws) k : Int) ∧ Hid (Below w1.heap.size w1 wr))
        case atStart => exact ⟨0, by omega, by omega, rfl, rfl, HX⟩
        case round =>
          rename World => wK
          obtain ⟨k, hk, rfl, rfl, rfl, HK⟩ := hrel
          clear HX
          by_cases hlt : k < ws.length
          · obtain ⟨b', off', e', f0, f1, f2⟩ := (HR.out.later (Below.on HW.out HK.out)) (k + 1) (by simpa using hlt)
            injection e' with e'; injection e' with e1 e2
            subst e1 e2
            rw [show off + (k + 1) * 3 = off + 3 + k * 3 by omega] at f0 f1 f2
            obtain ⟨y, hy⟩ : ∃ y, y = nthW (x :: ws) (k + 1) := ⟨_, rfl⟩
            rw [← hy] at f0 f1 f2
            obtain ⟨m, hm⟩ : ∃ m, m = homeK c.ss (x :: ws) k := ⟨_, rfl⟩
            have HM : Hid (homeK c.ss (x :: ws) (k + 1) = min m (ownN c.ss y.key)) := hid (by rw [homeK, ← hm, ← hy])
            have hmn := fun ts ty w => run_minU m (ownN c.ss y.key) ts ty w
            obtain ⟨q, hq⟩ : ∃ q, q = ownN c.ss y.key := ⟨_, rfl⟩
            have HQ := hid hq
            rw [← hq] at hmn
            rw [← hm]
            clear hm hy hq
            obtain ⟨c0, c1, c2, c3, c4, c5⟩ := (HC.out.later HK.out).later (w' := wK.alloc (.cells #[.string y.key, .bool y.del, .string y.val] 135)) (Below.al (Below.refl _ _) _)
            have HOQ : Hid (∀ W, Below w1.heap.size w1 W → Calls Tryz.prog 13 #[c.val, .string y.key] W fun e w' => e = .returned (.int .u32 (q : Int)) ∧ Below W.heap.size W w') := hid (fun W hb => by rw [HQ.out]; exact HO.out W y.key hb)
            go_wp2_with (go_at_call 13; refine (HOQ.out _ (Below.on HK.out (by (repeat (first | with_reducible exact Below.refl _ _ | with_reducible assumption | with_reducible refine Below.drew ?_ | with_reducible refine Below.al ?_ _ | with_reducible refine Below.setCell ?_ (by first | exact Nat.le_refl _ | (simp; omega) | (simp; done)) _ | with_reducible refine Below.on ?_ (by assumption)))))).mono ?_; rintro e w3 ⟨rfl, hb3⟩)
            go_roundg (ws.length - (k + 1))
            case measure => omega
            case rel => exact ⟨k + 1, by omega, rfl, by go_num, by rw [HM.out, HQ.out], hid (by have hB := HK.out; (repeat (first | with_reducible exact Below.refl _ _ | with_reducible assumption | with_reducible refine Below.drew ?_ | with_reducible refine Below.al ?_ _ | with_reducible refine Below.setCell ?_ (by first | exact Nat.le_refl _ | (simp; omega) | (simp; done)) _ | with_reducible refine Below.on ?_ (by assumption))))⟩
          · obtain rfl : k = ws.length := by omega
            go_wp2_with fail
            go_ret2
            exact ⟨by rw [HU.out]; rfl, Below.on HW.out HK.out⟩

end Go.Proofs.YthenfioddnkjbaaGreatDoor.Rt
/- A table of shares: every list in it a row of its own. -/
namespace Go.Proofs.YthenfioddnkjbaaGreatDoor.Rt
open Go.RowKit Go.Sort
set_option linter.unusedVariables false

/-- rows of different types lie apart -/
theorem rows_apart {w : World} {b1 b2 n1 n2 s1 s2 : Nat} {e1 e2 : TypeId} {v1 v2 : Value} {xs ys : List Value} (h1 : w.ownsRow b1 e1 s1 v1 n1 xs) (h2 : w.ownsRow b2 e2 s2 v2 n2 ys) (hne : e1 ≠ e2) : v1.ownBlock = none ∨ v1.ownBlock ≠ v2.ownBlock := by
  obtain ⟨_, ⟨rfl, _⟩ | ⟨g, cap, cur, rfl, _, hg, _⟩⟩ := h1
  · exact .inl rfl
  · right
    obtain ⟨_, ⟨rfl, _⟩ | ⟨g', cap', cur', rfl, _, hg', _⟩⟩ := h2
    · simp [Value.ownBlock]
    · simp only [Value.ownBlock]
      intro e
      injection e with e
      subst e
      rw [hg] at hg'
      injection hg' with hg'
      injection hg' with _ e _
      exact hne e
abbrev OwR (w : World) (G : Nat) (v : Value) (l : List T2) : Prop := w.ownsRow (G + 1) 49 2 v l.length (flat2 l)
abbrev OwW (w : World) (G : Nat) (v : Value) (l : List Wr) : Prop := w.ownsRow (G + 1) 135 3 v l.length (flatW l)
structure Tb (w : World) (G N : Nat) (vr vw : Nat → Value) (R : Nat → List T2) (V : Nat → List Wr) : Prop where
  cells : ∀ i, i < N → w.cell? ⟨G, i * 3, none⟩ = some (.int .u32 0) ∧ w.cell? ⟨G, i * 3 + 1, none⟩ = some (vr i) ∧ w.cell? ⟨G, i * 3 + 2, none⟩ = some (vw i)
  reads : ∀ i, i < N → OwR w G (vr i) (R i)
  writes : ∀ i, i < N → OwW w G (vw i) (V i)
  aR : ∀ i j, i < N → j < N → i ≠ j → (vr i).ownBlock = none ∨ (vr i).ownBlock ≠ (vr j).ownBlock
  aW : ∀ i j, i < N → j < N → i ≠ j → (vw i).ownBlock = none ∨ (vw i).ownBlock ≠ (vw j).ownBlock
  loose : LooseR w G
  lt : G < w.heap.size
theorem owns_on {w w' : World} {B size n : Nat} {e : TypeId} {v : Value} {xs : List Value} (h : w.ownsRow B e size v n xs) (hb : Below w.heap.size w w') : w'.ownsRow B e size v n xs := owns_keep h fun g hg => hb.block g (World.ownsRow.lt h g hg).2
theorem Tb.later {w w' : World} {G N : Nat} {vr vw : Nat → Value} {R : Nat → List T2} {V : Nat → List Wr} (h : Tb w G N vr vw R V) (hb : Below w.heap.size w w') : Tb w' G N vr vw R V :=
  ⟨fun i hi => ⟨cell_later hb (h.cells i hi).1, cell_later hb (h.cells i hi).2.1, cell_later hb (h.cells i hi).2.2⟩, fun i hi => owns_on (h.reads i hi) hb, fun i hi => owns_on (h.writes i hi) hb, h.aR, h.aW, h.loose.later hb h.lt, Nat.lt_of_lt_of_le h.lt hb.size⟩
theorem owns_put {w : World} {G size n : Nat} {e : TypeId} {v : Value} {xs : List Value} (h : w.ownsRow (G + 1) e size v n xs) (o : Nat) (u : Value) : (w.setCell ⟨G, o, none⟩ u).ownsRow (G + 1) e size v n xs := owns_keep h fun g hg => by
  have := (World.ownsRow.lt h g hg).1
  exact Below.heap_setCell _ _ _ _ (by simp; omega)
theorem Tb.putR {w w1 : World} {G N j g cap : Nat} {vr vw : Nat → Value} {R : Nat → List T2} {V : Nat → List Wr} {t : T2} (h : Tb w G N vr vw R V) (hj : j < N) (hg : w.grownBy w1 (vr j).ownBlock)
    (ho : w1.ownsRow (G + 1) 49 2 (.slice (some ⟨g, 0, none⟩) ((R j).length + 1) cap) ((R j).length + 1) (flat2 (R j) ++ [.string t.1, .string t.2])) (hat : (vr j).ownBlock = some g ∨ g = w.heap.size) :
    Tb (w1.setCell ⟨G, j * 3 + 1, none⟩ (.slice (some ⟨g, 0, none⟩) ((R j).length + 1) cap)) G N (putN vr j (.slice (some ⟨g, 0, none⟩) ((R j).length + 1) cap)) vw (putN R j (R j ++ [t])) V := by
  have hGo : (vr j).ownBlock ≠ some G := fun e => by have := (World.ownsRow.lt (h.reads j hj) G e).1; omega
  have hcell : ∀ o v, w.cell? ⟨G, o, none⟩ = some v → w1.cell? ⟨G, o, none⟩ = some v := fun o v hc => by
    have hb := hg.block G h.lt (fun e => hGo e.symm)
    simp only [World.cell?, hb] at hc ⊢
    exact hc
  refine ⟨fun i hi => ?_, fun i hi => ?_, fun i hi => ?_, fun i k hi hk hne => ?_, h.aW, ?_, ?_⟩
  · obtain ⟨c0, c1, c2⟩ := h.cells i hi
    refine ⟨cell_setc (by simp only [ne_eq, Addr.mk.injEq]; omega) (hcell _ _ c0), ?_, cell_setc (by simp only [ne_eq, Addr.mk.injEq]; omega) (hcell _ _ c2)⟩
    by_cases e : i = j
    · subst e; rw [putN_same]; exact World.cell?_setCell_same _ _ _ (hcell _ _ c1)
    · rw [putN_other _ _ e]; exact cell_setc (by simp only [ne_eq, Addr.mk.injEq]; omega) (hcell _ _ c1)
  · by_cases e : i = j
    · subst e
      rw [putN_same, putN_same]
      refine owns_put ?_ _ _
      have e1 : (R i ++ [t]).length = (R i).length + 1 := by simp
      have e2 : flat2 (R i ++ [t]) = flat2 (R i) ++ [.string t.1, .string t.2] := by simp [flat2]
      show w1.ownsRow _ _ _ _ (R i ++ [t]).length (flat2 (R i ++ [t]))
      rw [e1, e2]; exact ho
    · rw [putN_other _ _ e, putN_other _ _ e]
      exact owns_put ((h.reads i hi).kept hg (h.aR i j hi hj e)) _ _
  · exact owns_put ((h.writes i hi).kept hg (rows_apart (h.writes i hi) (h.reads j hj) (by decide))) _ _
  · by_cases e : i = j
    · subst e
      rw [putN_same, putN_other _ _ (Ne.symm hne)]
      right
      rcases hat with ha | ha
      · rcases h.aR i k hi hk hne with h1 | h1
        · rw [ha] at h1; cases h1
        · rw [ha] at h1; exact h1
      · intro e2
        have := (World.ownsRow.lt (h.reads k hk) g e2.symm).2
        omega
    · by_cases e2 : k = j
      · subst e2
        rw [putN_same, putN_other _ _ e]
        rcases hat with ha | ha
        · have := h.aR i k hi hk hne
          rw [ha] at this; exact this
        · cases hb : (vr i).ownBlock with
          | none => exact .inl rfl
          | some b =>
            right
            have := (World.ownsRow.lt (h.reads i hi) b hb).2
            simp only [Value.ownBlock, ne_eq, Option.some.injEq]
            omega
      · rw [putN_other _ _ e, putN_other _ _ e2]; exact h.aR i k hi hk hne
  · have hb := hg.block G h.lt (fun e => hGo e.symm)
    have hl : LooseR w1 G := fun o => by
      have := h.loose o
      simp only [World.frozen?, hb] at this ⊢
      exact this
    exact hl.setc _ _
  · simpa using Nat.lt_of_lt_of_le h.lt hg.size
theorem Tb.putW {w w1 : World} {G N j g cap : Nat} {vr vw : Nat → Value} {R : Nat → List T2} {V : Nat → List Wr} {t : Wr} (h : Tb w G N vr vw R V) (hj : j < N) (hg : w.grownBy w1 (vw j).ownBlock)
    (ho : w1.ownsRow (G + 1) 135 3 (.slice (some ⟨g, 0, none⟩) ((V j).length + 1) cap) ((V j).length + 1) (flatW (V j) ++ [.string t.key, .bool t.del, .string t.val])) (hat : (vw j).ownBlock = some g ∨ g = w.heap.size) :
    Tb (w1.setCell ⟨G, j * 3 + 2, none⟩ (.slice (some ⟨g, 0, none⟩) ((V j).length + 1) cap)) G N vr (putN vw j (.slice (some ⟨g, 0, none⟩) ((V j).length + 1) cap)) R (putN V j (V j ++ [t])) := by
  have hGo : (vw j).ownBlock ≠ some G := fun e => by have := (World.ownsRow.lt (h.writes j hj) G e).1; omega
  have hcell : ∀ o v, w.cell? ⟨G, o, none⟩ = some v → w1.cell? ⟨G, o, none⟩ = some v := fun o v hc => by
    have hb := hg.block G h.lt (fun e => hGo e.symm)
    simp only [World.cell?, hb] at hc ⊢
    exact hc
  refine ⟨fun i hi => ?_, fun i hi => ?_, fun i hi => ?_, h.aR, fun i k hi hk hne => ?_, ?_, ?_⟩
  · obtain ⟨c0, c1, c2⟩ := h.cells i hi
    refine ⟨cell_setc (by simp only [ne_eq, Addr.mk.injEq]; omega) (hcell _ _ c0), cell_setc (by simp only [ne_eq, Addr.mk.injEq]; omega) (hcell _ _ c1), ?_⟩
    by_cases e : i = j
    · subst e; rw [putN_same]; exact World.cell?_setCell_same _ _ _ (hcell _ _ c2)
    · rw [putN_other _ _ e]; exact cell_setc (by simp only [ne_eq, Addr.mk.injEq]; omega) (hcell _ _ c2)
  · exact owns_put ((h.reads i hi).kept hg (rows_apart (h.reads i hi) (h.writes j hj) (by decide))) _ _
  · by_cases e : i = j
    · subst e
      rw [putN_same, putN_same]
      refine owns_put ?_ _ _
      have e1 : (V i ++ [t]).length = (V i).length + 1 := by simp
      have e2 : flatW (V i ++ [t]) = flatW (V i) ++ [.string t.key, .bool t.del, .string t.val] := by simp [flatW]
      show w1.ownsRow _ _ _ _ (V i ++ [t]).length (flatW (V i ++ [t]))
      rw [e1, e2]; exact ho
    · rw [putN_other _ _ e, putN_other _ _ e]
      exact owns_put ((h.writes i hi).kept hg (h.aW i j hi hj e)) _ _
  · by_cases e : i = j
    · subst e
      rw [putN_same, putN_other _ _ (Ne.symm hne)]
      right
      rcases hat with ha | ha
      · rcases h.aW i k hi hk hne with h1 | h1
        · rw [ha] at h1; cases h1
        · rw [ha] at h1; exact h1
      · intro e2
        have := (World.ownsRow.lt (h.writes k hk) g e2.symm).2
        omega
    · by_cases e2 : k = j
      · subst e2
        rw [putN_same, putN_other _ _ e]
        rcases hat with ha | ha
        · have := h.aW i k hi hk hne
          rw [ha] at this; exact this
        · cases hb : (vw i).ownBlock with
          | none => exact .inl rfl
          | some b =>
            right
            have := (World.ownsRow.lt (h.writes i hi) b hb).2
            simp only [Value.ownBlock, ne_eq, Option.some.injEq]
            omega
      · rw [putN_other _ _ e, putN_other _ _ e2]; exact h.aW i k hi hk hne
  · have hb := hg.block G h.lt (fun e => hGo e.symm)
    have hl : LooseR w1 G := fun o => by
      have := h.loose o
      simp only [World.frozen?, hb] at this ⊢
      exact this
    exact hl.setc _ _
  · simpa using Nat.lt_of_lt_of_le h.lt hg.size

end Go.Proofs.YthenfioddnkjbaaGreatDoor.Rt
/- Shares: the walk. -/
namespace Go.Proofs.YthenfioddnkjbaaGreatDoor.Rt
open Go.RowKit Go.Sort
set_option linter.unusedVariables false

/-- the spans of shard i among some parts -/
def atS (i : Nat) (l : List Pt) : List T2 := l.filterMap fun p => if p.1 = i then some p.2 else none
theorem atS_snoc (i : Nat) (l : List Pt) (p : Pt) : atS i (l ++ [p]) = atS i l ++ if p.1 = i then [p.2] else [] := by
  simp only [atS, List.filterMap_append]
  by_cases h : p.1 = i <;> simp [h]
theorem cutN_at (ss : List ByteArray) (s : T2) (i : Nat) : ∀ n, atS i (cutN ss s n) = if i < n then (comm (reachN ss i) s).toList else []
  | 0 => by simp [cutN, atS]
  | n + 1 => by
    have ih := cutN_at ss s i n
    rw [cutN]
    cases hc : comm (reachN ss n) s with
    | none =>
      simp only [List.append_nil]
      rw [ih]
      by_cases h1 : i < n
      · rw [if_pos h1, if_pos (by omega)]
      · by_cases h2 : i = n
        · subst h2; rw [if_neg h1, if_pos (by omega), hc]; rfl
        · rw [if_neg h1, if_neg (by omega)]
    | some t =>
      simp only
      rw [atS_snoc, ih]
      show (if i < n then (comm (reachN ss i) s).toList else []) ++ (if n = i then [t] else []) = _
      by_cases h1 : i < n
      · have h3 : ¬ n = i := by omega
        rw [if_pos h1, if_neg h3, if_pos (by omega), List.append_nil]
      · by_cases h2 : n = i
        · subst h2; rw [if_neg h1, if_pos rfl, if_pos (by omega), hc]; rfl
        · rw [if_neg h1, if_neg h2, if_neg (by omega)]; rfl
theorem cutL_at2 {ss : List ByteArray} (s : T2) {i : Nat} (hi : i ≤ ss.length) : atS i (cutL ss s) = (comm (reachN ss i) s).toList := by
  rw [cutL, cutN_at, if_pos (by omega)]
theorem atS_le {ss : List ByteArray} (s : T2) {i : Nat} (hi : i ≤ ss.length) (j : Nat) : (atS i ((cutL ss s).take j)).length ≤ 1 := by
  have h1 : (atS i ((cutL ss s).take j)).length ≤ (atS i (cutL ss s)).length := ((List.take_sublist _ _).filterMap _).length_le
  have h2 : ((comm (reachN ss i) s).toList).length ≤ 1 := by cases comm (reachN ss i) s <;> simp
  rw [cutL_at2 s hi] at h1
  omega
theorem reads_snoc (ss : List ByteArray) {rs : List T2} {m : Nat} (h : m < rs.length) (i : Nat) : readsL ss (rs.take (m + 1)) i = readsL ss (rs.take m) i ++ (comm (reachN ss i) (nth2 rs m)).toList := by
  rw [nth2_take h]
  simp only [readsL, List.filterMap_append]
  cases h2 : comm (reachN ss i) (nth2 rs m) <;> simp [h2]
theorem writes_snoc (ss : List ByteArray) {ws : List Wr} {m : Nat} (h : m < ws.length) (i : Nat) : writesL ss (ws.take (m + 1)) i = writesL ss (ws.take m) i ++ if ownN ss (nthW ws m).key = i then [nthW ws m] else [] := by
  rw [nthW_take h]
  simp only [writesL, List.filter_append]
  congr 1
  by_cases h2 : ownN ss (nthW ws m).key = i <;> simp [h2]
theorem reads_le (ss : List ByteArray) (rs : List T2) (i : Nat) : (readsL ss rs i).length ≤ rs.length := List.length_filterMap_le _ _
theorem writes_le (ss : List ByteArray) (ws : List Wr) (i : Nat) : (writesL ss ws i).length ≤ ws.length := List.length_filter_le _ _

theorem infoSh : (Tryz.prog.info? 84).map (fun i => (i.zero, i.size, i.bytes)) = some (some (.agg #[.int .u32 0, .slice none 0 0, .slice none 0 0]), 3, 56) := by kernel_rfl
theorem makeSh (w : World) (n : Nat) (h : n ≤ 6) : (Instr.makeSlice 76 (.int .i64 (n : Int)) (.int .i64 (n : Int))).run Tryz.prog w = .ok (.slice (some ⟨w.heap.size, 0, none⟩) n n) (w.alloc (.cells (madeCells (Value.agg #[.int .u32 0, .slice none 0 0, .slice none 0 0]).cells (n * 3)) 84)) := by
  obtain ⟨i0, hi, hz0, hz1, hz2⟩ := info_ofR infoSh
  have := run_make (P := Tryz.prog) w 76 84 i0 _ Tryz.underlying76 hi hz0 .i64 .i64 n n (by omega) (by omega) (by rw [hz2]; omega) (by omega)
  rw [this, hz1]
  simp
theorem Tb.new (w : World) (n : Nat) : Tb (w.alloc (.cells (madeCells (Value.agg #[.int .u32 0, .slice none 0 0, .slice none 0 0]).cells (n * 3)) 84)) w.heap.size n (fun _ => .slice none 0 0) (fun _ => .slice none 0 0) (fun _ => []) (fun _ => []) := by
  refine ⟨fun i hi => ?_, fun i hi => World.ownsRow_nil _ _ _ _, fun i hi => World.ownsRow_nil _ _ _ _, fun _ _ _ _ _ => .inl rfl, fun _ _ _ _ _ => .inl rfl, fun o => by simp [go_sem], by simp⟩
  have h0 : i * 3 < n * 3 := by omega
  have h1 : i * 3 + 1 < n * 3 := by omega
  have h2 : i * 3 + 2 < n * 3 := by omega
  refine ⟨?_, ?_, ?_⟩
  · simp [go_sem, madeCells, h0]
  · simp [go_sem, madeCells, h1, Nat.add_mod]
  · simp [go_sem, madeCells, h2, Nat.add_mod]

end Go.Proofs.YthenfioddnkjbaaGreatDoor.Rt
/- taking: the shares that have something. -/
namespace Go.Proofs.YthenfioddnkjbaaGreatDoor.Rt
open Go.RowKit Go.Sort
set_option linter.unusedVariables false

theorem owR_slice {w : World} {G : Nat} {v : Value} {l : List T2} (h : OwR w G v l) : ∃ a c, v = .slice a l.length c := by
  rcases h.2 with ⟨hv, h0⟩ | ⟨g, cap, cur, hv, _⟩
  · exact ⟨none, 0, by rw [hv, h0]⟩
  · exact ⟨_, _, hv⟩
theorem owW_slice {w : World} {G : Nat} {v : Value} {l : List Wr} (h : OwW w G v l) : ∃ a c, v = .slice a l.length c := by
  rcases h.2 with ⟨hv, h0⟩ | ⟨g, cap, cur, hv, _⟩
  · exact ⟨none, 0, by rw [hv, h0]⟩
  · exact ⟨_, _, hv⟩
/-- a share as it lies: its shard, its two lists -/
abbrev Tk := Nat × Value × Value
def cellsS (p : Tk) : List Value := [.int .u32 (p.1 : Int), p.2.1, p.2.2]
def flatTk (l : List Tk) : List Value := l.flatMap cellsS
theorem flatTk_snoc (l : List Tk) (p : Tk) : flatTk (l ++ [p]) = flatTk l ++ cellsS p := by simp [flatTk]
def OwnS (w : World) (B : Nat) (v : Value) (l : List Tk) : Prop := w.ownsRow B 84 3 v l.length (flatTk l)
theorem OwnS.later {w w' : World} {B : Nat} {v : Value} {l : List Tk} (h : OwnS w B v l) (hb : Below w.heap.size w w') : OwnS w' B v l := owns_keep h fun g hg => hb.block g (World.ownsRow.lt h g hg).2
theorem OwnS.nil (w : World) (B : Nat) : OwnS w B (.slice none 0 0) [] := World.ownsRow_nil _ _ _ _
theorem OwnS.grown {w w' : World} {B : Nat} {v : Value} {l : List Tk} {a : World} (h : OwnS w B v l) (hg : w.grownBy w' v.ownBlock) (ha : Below B a w) (hB : B ≤ a.heap.size) : Below B a w' :=
  Below.grown ha hg (Nat.le_trans hB ha.size) (fun g hv => (World.ownsRow.lt h g hv).1)
theorem append_S {w : World} {ops : Array Oper} {rest : List Oper} {o : Oper} {a : Act} {Q : Exit → Act → World → Prop} (hg : o.guard = none) (s x : Operand)
    (hop : o.op = Op.call { callee := Callee.builtin Builtin.append, args := #[s, x], argTypes := #[76, 76] }) {B : Nat} {v : Value} {l : List Tk} (e : Tk) (hs : a.eval s = v) (hown : OwnS w B v l) (h1 : e.2.1.oneCell' = true) (h2 : e.2.2.oneCell' = true)
    {g : Nat} (hx : a.eval x = .slice (some ⟨g, 0, none⟩) 1 1) (c : w.cell? ⟨g, 0, none⟩ = some (.int .u32 (e.1 : Int)) ∧ w.cell? ⟨g, 1, none⟩ = some e.2.1 ∧ w.cell? ⟨g, 2, none⟩ = some e.2.2) (hl : (l.length + 1) * 64 ≤ 140737488355328) (hB : B ≤ w.heap.size)
    (hK : ∀ v' w', OwnS w' B v' (l ++ [e]) → w.grownBy w' v.ownBlock → wpList Tryz.prog ops Q rest (a.put o.dst v') w') : wpList Tryz.prog ops Q (o :: rest) a w := by
  obtain ⟨i0, hi, hz0, hz1, hz2⟩ := info_ofR infoSh
  refine wpList_append_own _ hg s x 76 hop B 84 i0 _ 3 56 Tryz.underlying76 hi hz0 hz1 hz2 rfl (by decide) v l.length (flatTk l) hs hown ⟨g, 0, none⟩ 1 1 (cellsS e) hx rfl ?_ ?_ (by unfold maxLen; omega) (by omega) hB ?_
  · intro j u hj
    match j, hj with
    | 0, hj => simp [cellsS] at hj; subst hj; exact c.1
    | 1, hj => simp [cellsS] at hj; subst hj; exact c.2.1
    | 2, hj => simp [cellsS] at hj; subst hj; exact c.2.2
    | j + 3, hj => simp [cellsS] at hj
  · intro u hu; simp [cellsS] at hu; rcases hu with rfl | rfl | rfl
    · rfl
    · exact h1
    · exact h2
  · intro v' w' ho hgr _
    refine hK v' w' ?_ hgr
    show w'.ownsRow B _ 3 v' (l ++ [e]).length (flatTk (l ++ [e]))
    rw [flatTk_snoc, List.length_append]
    exact ho
def tkN (vr vw : Nat → Value) (R : Nat → List T2) (V : Nat → List Wr) : Nat → List Tk
  | 0 => []
  | n + 1 => tkN vr vw R V n ++ if (R n).length + (V n).length = 0 then [] else [(n, vr n, vw n)]
theorem tk_len (vr vw : Nat → Value) (R : Nat → List T2) (V : Nat → List Wr) : ∀ n, (tkN vr vw R V n).length ≤ n
  | 0 => by simp [tkN]
  | n + 1 => by
    have := tk_len vr vw R V n
    rw [tkN, List.length_append]
    split <;> simp <;> omega
theorem newT (w : World) (z x y : Value) (t : TypeId) : (w.alloc (.cells #[z, x, y] t)).cell? ⟨w.heap.size, 0, none⟩ = some z ∧ (w.alloc (.cells #[z, x, y] t)).cell? ⟨w.heap.size, 1, none⟩ = some x ∧ (w.alloc (.cells #[z, x, y] t)).cell? ⟨w.heap.size, 2, none⟩ = some y := by
  have h := World.alloc_heap_new w (.cells #[z, x, y] t)
  exact ⟨by simp only [World.cell?, h]; rfl, by simp only [World.cell?, h]; rfl, by simp only [World.cell?, h]; rfl⟩

theorem newT2 (w : World) (o : Obj) (z x y : Value) (t : TypeId) : ((w.alloc o).alloc (.cells #[z, x, y] t)).cell? ⟨w.heap.size + 1, 0, none⟩ = some z ∧ ((w.alloc o).alloc (.cells #[z, x, y] t)).cell? ⟨w.heap.size + 1, 1, none⟩ = some x ∧ ((w.alloc o).alloc (.cells #[z, x, y] t)).cell? ⟨w.heap.size + 1, 2, none⟩ = some y := by
  have := newT (w.alloc o) z x y t
  simpa only [World.size_alloc] using this

set_option maxHeartbeats 4000000 in
set_option maxRecDepth 16000 in
theorem taking_is {w : World} {G N : Nat} {vr vw : Nat → Value} {R : Nat → List T2} {V : Nat → List Wr} (T : Tb w G N vr vw R V) (hN : N ≤ 6) (hR : ∀ i, i < N → (R i).length ≤ 4398046511104) (hV : ∀ i, i < N → (V i).length ≤ 4398046511104) :
    Calls Tryz.prog 82 #[.slice (some ⟨G, 0, none⟩) N N] w fun e w' => ∃ v, e = .returned v ∧ OwnS w' w.heap.size v (tkN vr vw R V N) ∧ Below w.heap.size w w' := by
  have HT := hid T
  have HR := hid hR
  have HV := hid hV
  clear T hR hV
  go_enter Tryz.func82, Tryz.ntmps82
  go_wp2_with fail
  go_loopg [3, 8] N (fun g s3 s8 wr => ∃ n : Nat, n ≤ N ∧ g = N - n ∧ s8 = .int .i64 n ∧ Hid (OwnS wr w.heap.size s3 (tkN vr vw R V n)) ∧ Hid (Below w.heap.size w wr))
  case atStart => exact ⟨0, by omega, by omega, rfl, hid (OwnS.nil _ _), hid (Below.refl _ _)⟩
  case round =>
    obtain ⟨n, hn, rfl, rfl, HO, HW⟩ := hrel
    obtain ⟨v5, hv5⟩ : ∃ v5, v5 = u3 := ⟨_, rfl⟩
    rw [← hv5] at HO
    rw [← hv5]
    clear hv5
    by_cases hlt : n < N
    · obtain ⟨g0, g1, g2⟩ := (HT.out.later HW.out).cells n hlt
      obtain ⟨ar, cr, er⟩ := owR_slice (HT.out.reads n hlt)
      obtain ⟨aw, cw, ew⟩ := owW_slice (HT.out.writes n hlt)
      have h1 := HR.out n hlt
      have h2 := HV.out n hlt
      have HS : Hid (tkN vr vw R V (n + 1) = tkN vr vw R V n ++ if (R n).length + (V n).length = 0 then [] else [(n, .slice ar (R n).length cr, .slice aw (V n).length cw)]) := hid (by rw [tkN, er, ew])
      rw [er] at g1
      rw [ew] at g2
      obtain ⟨lr, hlr⟩ : ∃ lr, lr = (R n).length := ⟨_, rfl⟩
      obtain ⟨lw, hlw⟩ : ∃ lw, lw = (V n).length := ⟨_, rfl⟩
      rw [← hlr] at g1 h1 HS
      rw [← hlw] at g2 h2 HS
      have hcl := tk_len vr vw R V n
      have hi1 : (n : Int) < (N : Int) := by omega
      have hw1 : IntKind.i64.wrap ((lr : Int) + (lw : Int)) = (lr : Int) + (lw : Int) := by rw [IntKind.wrap_i64]; omega
      clear er ew hlr hlw
      by_cases hz : lr + lw = 0
      · have hd1 : decide ((0 : Int) < (lr : Int) + (lw : Int)) = false := by simp; omega
        have HS' : Hid (tkN vr vw R V (n + 1) = tkN vr vw R V n) := hid (by rw [HS.out, if_pos hz, List.append_nil])
        clear HS hz h1 h2 hcl
        go_wp2_with fail
        go_roundg (N - (n + 1))
        case measure => omega
        case rel => exact ⟨n + 1, by omega, rfl, by go_num, hid (by rw [HS'.out]; exact HO.out.later (by (repeat (first | with_reducible exact Below.refl _ _ | with_reducible assumption | with_reducible refine Below.drew ?_ | with_reducible refine Below.al ?_ _ | with_reducible refine Below.setCell ?_ (by first | exact Nat.le_refl _ | (simp; omega) | (simp; done)) _ | with_reducible refine Below.on ?_ (by assumption))))), hid (Below.on HW.out (by (repeat (first | with_reducible exact Below.refl _ _ | with_reducible assumption | with_reducible refine Below.drew ?_ | with_reducible refine Below.al ?_ _ | with_reducible refine Below.setCell ?_ (by first | exact Nat.le_refl _ | (simp; omega) | (simp; done)) _ | with_reducible refine Below.on ?_ (by assumption)))))⟩
      · have hd1 : decide ((0 : Int) < (lr : Int) + (lw : Int)) = true := by simp; omega
        have HS' : Hid (tkN vr vw R V (n + 1) = tkN vr vw R V n ++ [(n, .slice ar lr cr, .slice aw lw cw)]) := hid (by rw [HS.out, if_neg hz])
        have hcv : IntKind.u32.wrap (n : Int) = (n : Int) := by rw [IntKind.wrap_u32]; omega
        have hL1 : Hid (((tkN vr vw R V n).length + 1) * 64 ≤ 140737488355328) := hid (by omega)
        clear HS hz h1 h2 hcl
        have HOX : Hid (∀ W, Below wr.heap.size wr W → OwnS W w.heap.size v5 (tkN vr vw R V n)) := hid (fun W hb => HO.out.later hb)
        have HBX : Hid (∀ W, Below wr.heap.size wr W → Below w.heap.size w W ∧ w.heap.size ≤ W.heap.size) := hid (fun W hb => ⟨Below.on HW.out hb, Nat.le_trans HW.out.size hb.size⟩)
        clear HO HW
        go_wp2_with (at_builtin; refine append_S rfl _ _ rfl (n, .slice ar lr cr, .slice aw lw cw) rfl (HOX.out _ (by (repeat (first | with_reducible exact Below.refl _ _ | with_reducible assumption | with_reducible refine Below.drew ?_ | with_reducible refine Below.al ?_ _ | with_reducible refine Below.setCell ?_ (by first | exact Nat.le_refl _ | (simp; omega) | (simp; done)) _ | with_reducible refine Below.on ?_ (by assumption))))) rfl rfl rfl (newT2 _ _ _ _ _ _) hL1.out (HBX.out _ (by (repeat (first | with_reducible exact Below.refl _ _ | with_reducible assumption | with_reducible refine Below.drew ?_ | with_reducible refine Below.al ?_ _ | with_reducible refine Below.setCell ?_ (by first | exact Nat.le_refl _ | (simp; omega) | (simp; done)) _ | with_reducible refine Below.on ?_ (by assumption))))).2 ?_; intro v6 w6 ho6 hg6; have HO6 := hid ho6; have HB6 := hid (OwnS.grown (HOX.out _ (by (repeat (first | with_reducible exact Below.refl _ _ | with_reducible assumption | with_reducible refine Below.drew ?_ | with_reducible refine Below.al ?_ _ | with_reducible refine Below.setCell ?_ (by first | exact Nat.le_refl _ | (simp; omega) | (simp; done)) _ | with_reducible refine Below.on ?_ (by assumption))))) hg6 (HBX.out _ (by (repeat (first | with_reducible exact Below.refl _ _ | with_reducible assumption | with_reducible refine Below.drew ?_ | with_reducible refine Below.al ?_ _ | with_reducible refine Below.setCell ?_ (by first | exact Nat.le_refl _ | (simp; omega) | (simp; done)) _ | with_reducible refine Below.on ?_ (by assumption))))).1 (Nat.le_refl _)); clear ho6 hg6)
        go_roundg (N - (n + 1))
        case measure => omega
        case rel => exact ⟨n + 1, by omega, rfl, by go_num, hid (by rw [HS'.out]; exact HO6.out), HB6⟩
    · obtain rfl : n = N := by omega
      have HF : Hid (OwnS wr w.heap.size v5 (tkN vr vw R V n) ∧ Below w.heap.size w wr) := hid ⟨HO.out, HW.out⟩
      clear HO HW
      go_wp2_with fail
      go_ret
      exact ⟨_, rfl, HF.out.1, HF.out.2⟩
end Go.Proofs.YthenfioddnkjbaaGreatDoor.Rt
