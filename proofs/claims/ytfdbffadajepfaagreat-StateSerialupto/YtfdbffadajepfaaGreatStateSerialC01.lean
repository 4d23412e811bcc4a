import Derived.Test.YtfdbffadajepfaaGreatB36
import Derived.Test.YtfdbffadajepfaaGreatB38
/- Read. -/
namespace Go.Proofs.YtfdbffadajepfaaGreat.Ys
open Go.RowKit Go.Sort
set_option linter.unusedVariables false

/-- a row of pairs of its own -/
def RdO (B : Nat) (w : World) (a : Option Addr) (n c : Nat) (l : Vs.Prs) : Prop := n = l.length ∧ Vs.OwnP w B (.slice a n c) l
section
variable {F : Nat → Prop} {w : World} {p : Nat} {m1 m2 m : Option Nat} {V : List Lk.Hv} {I : Lk.It} {s : Ps}
set_option maxHeartbeats 1000000 in
theorem sread_is (T : St F w p m1 m2 m V I s) (hn : Vs.countM s.M ≤ 268435456) (lo hi : ByteArray) (t : Vs.Sp) :
    Calls Tryz.prog 7 #[sp p, .agg #[.string lo, .string hi], .agg #[.int .u64 t.a, .int .u32 t.b, .int .u32 t.c]] w fun e w' => ∃ (a : Option Addr) (n c : Nat), e = .returned (.tuple #[.slice a n c, .int .i64 (Vs.rdE s.M s.wm lo hi t)]) ∧ Hid (RdO w.heap.size w' a n c (Vs.rdL s.M s.wm lo hi t)) ∧ Below w.heap.size w w' := by
  obtain ⟨wx, hwx⟩ : ∃ wx, wx = (w.alloc (.cells #[.string lo, .string hi] 25)).alloc (.cells #[.int .u64 t.a, .int .u32 t.b, .int .u32 t.c] 28) := ⟨_, rfl⟩
  have hbx : Below w.heap.size w wx := by rw [hwx]; exact Below.al (Below.al (Below.refl _ _) _) _
  have x0 : wx.cell? ⟨w.heap.size, 0, none⟩ = some (.string lo) := by rw [hwx]; simp [go_sem]
  have x1 : wx.cell? ⟨w.heap.size, 1, none⟩ = some (.string hi) := by rw [hwx]; simp [go_sem]
  have c0 : wx.cell? ⟨w.heap.size + 1, 0, none⟩ = some (.int .u64 t.a) := by rw [hwx]; simp [go_sem]
  have c1 : wx.cell? ⟨w.heap.size + 1, 1, none⟩ = some (.int .u32 t.b) := by rw [hwx]; simp [go_sem]
  have c2 : wx.cell? ⟨w.heap.size + 1, 2, none⟩ = some (.int .u32 t.c) := by rw [hwx]; simp [go_sem]
  have RD : Hid (∀ W, Below wx.heap.size wx W → Calls Tryz.prog 23 #[.pointer (some ⟨p, 5, none⟩), .agg #[.string lo, .string hi], .agg #[.int .u64 t.a, .int .u32 t.b, .int .u32 t.c]] W fun e w' => ∃ (a : Option Addr) (n c : Nat), e = .returned (.tuple #[.slice a n c, .int .i64 (Vs.rdE s.M s.wm lo hi t)]) ∧ Hid (RdO w.heap.size w' a n c (Vs.rdL s.M s.wm lo hi t)) ∧ Below W.heap.size W w') := hid fun W hb => by
    refine (Vs.read_is (T.later (Below.on hbx hb)).st lo hi t hn).mono ?_
    rintro e w' ⟨v, he, ho, hbw⟩
    obtain ⟨a, c, rfl⟩ := owns_slice ho
    exact ⟨a, _, c, he, hid ⟨rfl, Lk.owns_base ho (Below.on hbx hb).size⟩, hbw⟩
  obtain ⟨E, hE⟩ : ∃ E, Vs.rdE s.M s.wm lo hi t = E := ⟨_, rfl⟩
  obtain ⟨l, hl⟩ : ∃ l, Vs.rdL s.M s.wm lo hi t = l := ⟨_, rfl⟩
  rw [hE, hl] at RD ⊢
  have HBX := hid hbx
  clear T hn hbx hE hl
  go_enter Tryz.func7, Tryz.ntmps7
  go_wp2_with fail
  rw [← hwx]
  clear hwx
  go_region_held3 (fun w' => w'.cell? ⟨w.heap.size, 0, none⟩ = some (.string lo) ∧ w'.cell? ⟨w.heap.size, 1, none⟩ = some (.string hi) ∧ w'.cell? ⟨w.heap.size + 1, 0, none⟩ = some (.int .u64 t.a) ∧ w'.cell? ⟨w.heap.size + 1, 1, none⟩ = some (.int .u32 t.b) ∧ w'.cell? ⟨w.heap.size + 1, 2, none⟩ = some (.int .u32 t.c) ∧ Below wx.heap.size wx w')
    ((refine (fun (hB : Below wx.heap.size wx _) => ⟨cell_later hB x0, cell_later hB x1, cell_later hB c0, cell_later hB c1, cell_later hB c2, hB⟩) ?_; (repeat (first | with_reducible exact Below.refl _ _ | with_reducible assumption | with_reducible refine Below.drew ?_ | with_reducible refine Below.al ?_ _ | with_reducible refine Below.setCell ?_ (by first | exact Nat.le_refl _ | (simp; omega) | (simp; done)) _ | with_reducible refine Below.on ?_ (by assumption)))))
    (first | (go_at_call 23; refine (RD.out _ (by (repeat (first | with_reducible exact Below.refl _ _ | with_reducible assumption | with_reducible refine Below.drew ?_ | with_reducible refine Below.al ?_ _ | with_reducible refine Below.setCell ?_ (by first | exact Nat.le_refl _ | (simp; omega) | (simp; done)) _ | with_reducible refine Below.on ?_ (by assumption))))).mono ?_; rintro e w2 ⟨a, n, c, rfl, HG, hb2⟩; have hB2 : Below wx.heap.size wx w2 := (by refine Below.on ?_ hb2; (repeat (first | with_reducible exact Below.refl _ _ | with_reducible assumption | with_reducible refine Below.drew ?_ | with_reducible refine Below.al ?_ _ | with_reducible refine Below.setCell ?_ (by first | exact Nat.le_refl _ | (simp; omega) | (simp; done)) _ | with_reducible refine Below.on ?_ (by assumption))))))
  all_goals (try go_wp2_with fail)
  all_goals (refine bodyPost_ret (v := .tuple #[.slice a n c, .int .i64 E]) (by simp [results, Tryz.results7, go_sem]) rfl ⟨a, n, c, rfl, ?_, Below.on HBX.out (by (repeat (first | with_reducible exact Below.refl _ _ | with_reducible assumption | with_reducible refine Below.drew ?_ | with_reducible refine Below.al ?_ _ | with_reducible refine Below.setCell ?_ (by first | exact Nat.le_refl _ | (simp; omega) | (simp; done)) _ | with_reducible refine Below.on ?_ (by assumption))))⟩)
  all_goals exact HG
end
end Go.Proofs.YtfdbffadajepfaaGreat.Ys
/- samePairs. -/
namespace Go.Proofs.YtfdbffadajepfaaGreat.Vs
open Go.RowKit Go.Sort
set_option linter.unusedVariables false

def eqP (x y : T2) : Bool := decide (x = y)
theorem run_nePair (x y : T2) (w : World) : (binOp .neq 89 (.agg #[.string x.1, .string x.2]) (.agg #[.string y.1, .string y.2])).run Tryz.prog w = .ok (.bool (!eqP x y)) w := by
  obtain ⟨a, b⟩ := x
  obtain ⟨c, d⟩ := y
  by_cases h1 : a = c
  · by_cases h2 : b = d
    · subst h1 h2; simp [eqP, go_sem, Tryz.underlying89]
    · have q2 := toList_beq' (decide_eq_false h2)
      subst h1; simp [eqP, go_sem, Tryz.underlying89, h2, q2]
  · have q1 := toList_beq' (decide_eq_false h1)
    simp [eqP, go_sem, Tryz.underlying89, h1, q1]
/-- the first k are alike -/
def allP (xs ys : Prs) (k : Nat) : Bool := allB (fun i => eqP (nth2 xs i) (nth2 ys i)) k
theorem allP_eq {xs ys : Prs} (h : xs.length = ys.length) (ha : allP xs ys xs.length = true) : xs = ys := by
  have hi : ∀ n i, i < n → allB (fun i => eqP (nth2 xs i) (nth2 ys i)) n = true → nth2 xs i = nth2 ys i := by
    intro n
    induction n with
    | zero => intro i hi; omega
    | succ n ih =>
      intro i hi ha
      rw [allB, Bool.and_eq_true] at ha
      by_cases e : i = n
      · subst e; simpa [eqP] using ha.2
      · exact ih i (by omega) ha.1
  apply List.ext_getElem h
  intro i h1 h2
  have := hi _ i h1 ha
  simpa [nth2, h1, h2] using this
set_option maxHeartbeats 1000000 in
theorem samePairs_is {a b : Option Addr} {c d : Nat} {xs ys : Prs} {w : World} {u : Bool} (hu : decide (xs = ys) = u) (h : Row2 w a xs) (k : Row2 w b ys) (hl : xs.length ≤ 1152921504606846976) (hl2 : ys.length ≤ 1152921504606846976) :
    Calls Tryz.prog 12 #[.slice a xs.length c, .slice b ys.length d] w fun e w' => e = .returned (.bool u) ∧ Below w.heap.size w w' := by
  subst hu
  by_cases hne : xs.length = ys.length
  · have q0 : ((xs.length : Int) != (ys.length : Int)) = false := by simp [hne]
    obtain ⟨n, hn⟩ : ∃ n, n = xs.length := ⟨_, rfl⟩
    have hn2 : n = ys.length := hn.trans hne
    have HA := hid (show _ ∧ _ ∧ _ ∧ _ from ⟨h, k, hn, hn2⟩)
    rw [← hn, ← hn2] at q0
    rw [← hn] at hl ⊢
    rw [← hn2]
    clear h k hn hn2 hne hl2
    go_enter Tryz.func12, Tryz.ntmps12
    go_wp2_with fail
    go_loopg [5] n (fun g s5 wr => ∃ i : Nat, i ≤ n ∧ g = n - i ∧ s5 = .int .i64 i ∧ Hid (Below w.heap.size w wr) ∧ Hid (allP xs ys i = true))
    case atStart => exact ⟨0, by omega, by omega, rfl, Below.refl _ _, rfl⟩
    case round =>
      obtain ⟨i, hi, rfl, rfl, HB, HP⟩ := hrel
      by_cases hlt : i < n
      · obtain ⟨ba, oa, ea, a0, a1⟩ := (HA.out.1.later HB.out) i (by have := HA.out.2.2.1; omega)
        obtain ⟨bb, ob, eb, b0, b1⟩ := (HA.out.2.1.later HB.out) i (by have := HA.out.2.2.2; omega)
        subst ea eb
        obtain ⟨x, hx⟩ : ∃ x, x = nth2 xs i := ⟨_, rfl⟩
        obtain ⟨y, hy⟩ : ∃ y, y = nth2 ys i := ⟨_, rfl⟩
        rw [← hx] at a0 a1
        rw [← hy] at b0 b1
        obtain ⟨u, hu⟩ : ∃ u, eqP x y = u := ⟨_, rfl⟩
        have HU : Hid (eqP (nth2 xs i) (nth2 ys i) = u) := by show _ = _; rw [← hx, ← hy]; exact hu
        have hrun := fun w => run_nePair x y w
        rw [hu] at hrun
        have ka0 := cell_regrown a0; have ka1 := cell_regrown a1; have kb0 := cell_regrown b0; have kb1 := cell_regrown b1
        clear hx hy hu
        obtain ⟨x1, x2⟩ := x
        obtain ⟨y1, y2⟩ := y
        simp only at hrun a0 a1 b0 b1 ka0 ka1 kb0 kb1
        cases u with
        | true =>
          go_wp2_with fail
          go_quiet (fail)
          go_wp2_with fail
          go_roundg (n - (i + 1))
          case measure => omega
          case rel => exact ⟨i + 1, by omega, rfl, by go_num, Below.drewN HB.out _, allB_yes HP.out HU.out⟩
        | false =>
          have HE : Hid (decide (xs = ys) = false) := decide_eq_false fun e => by have := HU.out; rw [e] at this; simp [eqP] at this
          go_wp2_with fail
          go_quiet (fail)
          go_wp2_with fail
          go_ret
          exact ⟨ret_bool (by rw [HE.out]), Below.drewN HB.out _⟩
      · obtain rfl : i = n := by omega
        have HE : Hid (xs = ys) := allP_eq (HA.out.2.2.1.symm.trans HA.out.2.2.2) (by rw [← HA.out.2.2.1]; exact HP.out)
        go_wp2_with fail
        go_ret
        exact ⟨ret_bool (by rw [HE.out]; simp), HB.out⟩
  · have q0 : ((xs.length : Int) != (ys.length : Int)) = true := by simp; omega
    have HE : Hid (decide (xs = ys) = false) := decide_eq_false fun e => hne (by rw [e])
    clear hne
    go_enter Tryz.func12, Tryz.ntmps12
    go_wp2_with fail
    go_ret
    exact ⟨ret_bool (by rw [HE.out]), by (repeat (first | exact Below.refl _ _ | assumption | refine Below.drew ?_ | refine Below.al ?_ _ | refine Below.setCell ?_ (by first | exact Nat.le_refl _ | (simp; omega) | (simp; done)) _ | refine Below.on ?_ (by assumption)))⟩
end Go.Proofs.YtfdbffadajepfaaGreat.Vs
/- What Read answers, kept. -/
namespace Go.Proofs.YtfdbffadajepfaaGreat.Ys
open Go.RowKit Go.Sort
set_option linter.unusedVariables false

section
variable {B : Nat} {w : World} {p : Nat} {s : Ps}
theorem Sta.read (T : Sta B w p s) (hn : Vs.countM s.M ≤ 268435456) (lo hi : ByteArray) (t : Vs.Sp) :
    Calls Tryz.prog 7 #[sp p, .agg #[.string lo, .string hi], .agg #[.int .u64 t.a, .int .u32 t.b, .int .u32 t.c]] w fun e w' => ∃ (a : Option Addr) (n c : Nat), e = .returned (.tuple #[.slice a n c, .int .i64 (Vs.rdE s.M s.wm lo hi t)]) ∧ Hid (RdO w.heap.size w' a n c (Vs.rdL s.M s.wm lo hi t)) ∧ Below w.heap.size w w' := by
  obtain ⟨F, m1, m2, m, V, I, T, hl⟩ := T
  exact sread_is T hn lo hi t
end
theorem RdO.later {B : Nat} {w w' : World} {a : Option Addr} {n c : Nat} {l : Vs.Prs} (h : RdO B w a n c l) (hb : Below w.heap.size w w') : RdO B w' a n c l := ⟨h.1, h.2.later hb⟩
theorem RdO.chg {B B' : Nat} {w w' : World} {a : Option Addr} {n c : Nat} {l : Vs.Prs} (h : RdO B w a n c l) (hc : Chg B' w w') : RdO B w' a n c l := ⟨h.1, hc.owns h.2 (by decide) (by decide)⟩
theorem RdO.row {B : Nat} {w : World} {a : Option Addr} {n c : Nat} {l : Vs.Prs} (h : RdO B w a n c l) : Row2 w a l := by
  obtain ⟨e, h⟩ := h
  subst e
  exact h.row
/-- two lists that were read -/
theorem same_is {B B' : Nat} {w : World} {a b : Option Addr} {n m c d : Nat} {l : Vs.Prs} (h : RdO B w a n c l) (k : RdO B' w b m d l) (hl : l.length ≤ 1152921504606846976) :
    Calls Tryz.prog 12 #[.slice a n c, .slice b m d] w fun e w' => e = .returned (.bool true) ∧ Below w.heap.size w w' := by
  have := Vs.samePairs_is (c := c) (d := d) (u := true) (by simp) h.row k.row hl hl
  rw [h.1, k.1]
  exact this
theorem rd_512 (M : Vs.Mst) (mk : Vs.Sp) (lo hi : ByteArray) (t : Vs.Sp) : (Vs.rdL M mk lo hi t).length ≤ 512 := by
  unfold Vs.rdL
  split
  · rename_i h
    unfold Vs.rdE at h
    split at h
    · cases h
    · split at h
      · cases h
      · omega
  · simp
end Go.Proofs.YtfdbffadajepfaaGreat.Ys
/- put: a write laid on a map. -/
namespace Go.Proofs.YtfdbffadajepfaaGreat.Ys
open Go.RowKit Go.Sort
set_option linter.unusedVariables false

theorem put_eq {l : Vs.Prs} (h : Vs.Rising l) (x : Wr) : l.filter (fun e => lt e.1 x.key) ++ (if x.del then [] else [(x.key, x.val)]) ++ l.filter (fun e => lt x.key e.1) = putP l x := by
  refine Vs.rising_ext ?_ (putP_rising h x) fun e => ?_
  · refine List.pairwise_append.2 ⟨List.pairwise_append.2 ⟨h.filter _, by split <;> simp, fun a ha b hb => ?_⟩, h.filter _, fun a ha b hb => ?_⟩
    · split at hb
      · cases hb
      · rw [List.mem_singleton] at hb
        subst hb
        exact (List.mem_filter.1 ha).2
    · have hb' := (List.mem_filter.1 hb).2
      rcases List.mem_append.1 ha with ha | ha
      · exact lt_trans (List.mem_filter.1 ha).2 hb'
      · split at ha
        · cases ha
        · rw [List.mem_singleton] at ha
          subst ha
          exact hb'
  · rw [putP_mem h, List.mem_append, List.mem_append, List.mem_filter, List.mem_filter]
    constructor
    · rintro ((⟨h1, h2⟩ | h1) | ⟨h1, h2⟩)
      · exact .inr ⟨h1, lt_ne h2⟩
      · split at h1
        · cases h1
        · rename_i hd
          rw [List.mem_singleton] at h1
          exact .inl ⟨by simpa using hd, h1⟩
      · exact .inr ⟨h1, fun e => lt_ne h2 e.symm⟩
    · rintro (⟨h1, h2⟩ | ⟨h1, h2⟩)
      · exact .inl (.inr (by rw [h1, if_neg (by decide), h2]; simp))
      · rcases lt_tri e.1 x.key with h3 | h3 | h3
        · exact absurd h3 h2
        · exact .inl (.inl ⟨h1, h3⟩)
        · exact .inr ⟨h1, h3⟩
/-- the keys below come first -/
theorem take_low {l : Vs.Prs} (h : Vs.Rising l) {k : ByteArray} {i : Nat} (h1 : ∀ y ∈ l.take i, lt y.1 k = true) (h2 : ∀ y, l[i]? = some y → lt y.1 k = false) : l.filter (fun e => lt e.1 k) = l.take i := by
  have e : l = l.take i ++ l.drop i := (List.take_append_drop i l).symm
  conv => lhs; rw [e]
  rw [List.filter_append, List.filter_eq_self.2 h1]
  have : (l.drop i).filter (fun e => lt e.1 k) = [] := List.filter_eq_nil_iff.2 fun y hy => by
    cases hd : l.drop i with
    | nil => rw [hd] at hy; cases hy
    | cons z D =>
      have hz : l[i]? = some z := by rw [← List.head?_drop, hd]; rfl
      have h3 := h2 z hz
      rw [hd] at hy
      rcases List.mem_cons.1 hy with rfl | hy
      · simp [h3]
      · have hp : (l.drop i).Pairwise fun x y => lt x.1 y.1 = true := List.Pairwise.sublist (List.drop_sublist i l) h
        rw [hd] at hp
        have h4 := (List.pairwise_cons.1 hp).1 y hy
        cases h5 : lt y.1 k with
        | false => simp
        | true => have := lt_trans h4 h5; rw [h3] at this; cases this
  rw [this, List.append_nil]
def midP (l : Vs.Prs) (x : Wr) : Vs.Prs := l.filter (fun e => lt e.1 x.key) ++ (if x.del then [] else [(x.key, x.val)])
def outP (l : Vs.Prs) (x : Wr) (i : Nat) : Vs.Prs := midP l x ++ (l.take i).filter (fun e => lt x.key e.1)
theorem outP_zero (l : Vs.Prs) (x : Wr) : outP l x 0 = midP l x := by simp [outP]
theorem outP_no {l : Vs.Prs} {x : Wr} {i : Nat} {y : ByteArray × ByteArray} (h : l[i]? = some y) (hl : lt x.key y.1 = false) : outP l x (i + 1) = outP l x i := by
  unfold outP; rw [take_filter h, hl]; simp
theorem outP_yes {l : Vs.Prs} {x : Wr} {i : Nat} {y : ByteArray × ByteArray} (h : l[i]? = some y) (hl : lt x.key y.1 = true) : outP l x (i + 1) = outP l x i ++ [y] := by
  unfold outP; rw [take_filter h, hl]; simp
theorem outP_end {l : Vs.Prs} (h : Vs.Rising l) (x : Wr) : outP l x l.length = putP l x := by
  unfold outP; rw [List.take_length]; exact put_eq h x
theorem outP_len (l : Vs.Prs) (x : Wr) (i : Nat) : (outP l x i).length ≤ l.length + 1 + i := by
  have h2 : (l.filter (fun e => lt e.1 x.key)).length ≤ l.length := List.length_filter_le _ _
  have h3 : ((l.take i).filter (fun e => lt x.key e.1)).length ≤ (l.take i).length := List.length_filter_le _ _
  have h4 : (l.take i).length ≤ i := by rw [List.length_take]; omega
  have h5 : (if x.del then [] else [(x.key, x.val)] : Vs.Prs).length ≤ 1 := by split <;> simp
  unfold outP midP
  simp only [List.length_append]
  omega
theorem midP_del {l : Vs.Prs} {x : Wr} (h : x.del = true) : midP l x = l.filter (fun e => lt e.1 x.key) := by unfold midP; rw [h]; simp
theorem midP_put {l : Vs.Prs} {x : Wr} (h : x.del = false) : midP l x = l.filter (fun e => lt e.1 x.key) ++ [(x.key, x.val)] := by unfold midP; rw [h]; simp

set_option maxRecDepth 8000 in
set_option maxHeartbeats 4000000 in
theorem put_is {B : Nat} {w : World} {a : Option Addr} {n c : Nat} {l : Vs.Prs} (h : RdO B w a n c l) (hr : Vs.Rising l) (hl : n ≤ 67108864) (x : Wr) :
    Calls Tryz.prog 59 #[.slice a n c, .agg #[.string x.key, .bool x.del, .string x.val]] w fun e w' => ∃ (a2 : Option Addr) (m c2 : Nat), e = .returned (.slice a2 m c2) ∧ Hid (RdO w.heap.size w' a2 m c2 (putP l x)) ∧ Below w.heap.size w w' := by
  obtain ⟨wx, hwx⟩ : ∃ wx, wx = w.alloc (.cells #[.string x.key, .bool x.del, .string x.val] 97) := ⟨_, rfl⟩
  have hbx : Below w.heap.size w wx := by rw [hwx]; exact Below.al (Below.refl _ _) _
  have ob : wx.heap[w.heap.size]? = some (.cells #[.string x.key, .bool x.del, .string x.val] 97 (0, 0)) := by rw [hwx]; exact World.alloc_heap_new _ _
  have HX : Hid (wx.cell? ⟨w.heap.size, 0, none⟩ = some (.string x.key) ∧ wx.cell? ⟨w.heap.size, 1, none⟩ = some (.bool x.del) ∧ wx.cell? ⟨w.heap.size, 2, none⟩ = some (.string x.val)) := hid ⟨Vs.cell_of_obj ob rfl, Vs.cell_of_obj ob rfl, Vs.cell_of_obj ob rfl⟩
  have HR := hid (h.row.later hbx)
  have HN := hid h.1
  have HRI := hid hr
  have HBX := hid hbx
  have hszx : w.heap.size ≤ wx.heap.size := hbx.size
  clear h hbx ob hr
  go_enter Tryz.func59, Tryz.ntmps59
  go_wp2_with fail
  rw [← hwx]
  clear hwx
  go_loopg [5, 6] n (fun g s5 s6 wr => ∃ (i m c2 : Nat) (a2 : Option Addr), i ≤ n ∧ g = n - i ∧ s6 = .int .i64 i ∧ s5 = .slice a2 m c2 ∧ Hid (RdO wx.heap.size wr a2 m c2 (l.take i)) ∧ Hid (∀ y ∈ l.take i, lt y.1 x.key = true) ∧ Hid (Below wx.heap.size wx wr))
  case atStart => exact ⟨0, 0, 0, none, by omega, by omega, rfl, rfl, hid ⟨by simp, Vs.OwnP.nil _ _⟩, hid (by simp), hid (Below.refl _ _)⟩
  case round =>
    obtain ⟨i, m, c2, a2, hi, rfl, rfl, rfl, HM, HLW, HB⟩ := hrel
    have hml : m = i := by have h1 := HM.out.1; rw [List.length_take, ← HN.out] at h1; omega
    subst hml
    have x0 := cell_later HB.out HX.out.1; have x1 := cell_later HB.out HX.out.2.1; have x2 := cell_later HB.out HX.out.2.2
    have HREST : Hid (l.filter (fun e => lt e.1 x.key) = l.take m → True) := hid fun _ => trivial
    by_cases hlt : m < n
    · obtain ⟨b, off, rfl, a0, a1⟩ := HR.out m (by rw [← HN.out]; exact hlt)
      obtain ⟨y, hy⟩ : ∃ y, y = nth2 l m := ⟨_, rfl⟩
      rw [← hy] at a0 a1
      have d0 := cell_later HB.out a0
      have d1 := cell_later HB.out a1
      have hyl : l[m]? = some y := by rw [hy]; have : m < l.length := by rw [← HN.out]; exact hlt
                                      simp [nth2, this]
      have HYL := hid hyl
      have HTK : Hid (l.take (m + 1) = l.take m ++ [y]) := hid (by rw [nth2_take (by rw [← HN.out]; exact hlt), hy])
      have r0 := cell_regrown x0; have r1 := cell_regrown d0
      obtain ⟨L, hL⟩ : ∃ L, lt y.1 x.key = L := ⟨_, rfl⟩
      have hL' : Op.bytesLess y.1.toList x.key.toList = L := hL
      have HL := hid hL
      clear a0 a1 hy hL hyl
      go_wp2_with fail
      refine wp_region_quiet_below (by kernel_rfl) (by kernel_rfl) ?_
      repeat (go_big_quiet_step (fail))
      refine wpQuiet_nil ?_
      intro wq hq
      replace hq := below_of_regrown hq
      have HBQ := hid (Below.on HB.out hq)
      have HMQ := hid (HM.out.later hq)
      have d0 := cell_later hq d0; have d1 := cell_later hq d1; have x0 := cell_later hq x0; have x1 := cell_later hq x1; have x2 := cell_later hq x2
      clear r0 r1 hq hL'
      cases L
      · have HMF : Hid (RdO wx.heap.size wq a2 m c2 (l.filter (fun e => lt e.1 x.key))) := hid (by
          rw [take_low HRI.out HLW.out fun z hz => by rw [HYL.out] at hz; injection hz with hz; rw [← hz]; exact HL.out]
          exact HMQ.out)
        clear HM HMQ HLW HB
        by_cases hdl : x.del = true
        · have HD := hid hdl
          have HM2 : Hid (RdO wx.heap.size wq a2 m c2 (outP l x 0)) := hid (by rw [outP_zero, midP_del HD.out]; exact HMF.out)
          rw [hdl] at x1
          clear hdl HMF
          go_wp2_with fail
          go_loopg [5, 7] n (fun g s5 s7 wr => ∃ (i m c2 : Nat) (a2 : Option Addr), i ≤ n ∧ g = n - i ∧ s7 = .int .i64 i ∧ s5 = .slice a2 m c2 ∧ Hid (RdO wx.heap.size wr a2 m c2 (outP l x i)) ∧ Hid (Below wx.heap.size wx wr))
          case atStart => exact ⟨0, m, c2, a2, by omega, by omega, rfl, rfl, HM2, HBQ⟩
          case round =>
            obtain ⟨i, m, c2, a2, hi, rfl, rfl, rfl, HM, HB⟩ := hrel
            have x0 := cell_later HB.out HX.out.1
            by_cases hlt : i < n
            · obtain ⟨b, off, hab, a0, a1⟩ := HR.out i (by rw [← HN.out]; exact hlt)
              obtain ⟨y, hy⟩ : ∃ y, y = nth2 l i := ⟨_, rfl⟩
              rw [← hy] at a0 a1
              have d0 := cell_later HB.out a0
              have d1 := cell_later HB.out a1
              have hyl : l[i]? = some y := by rw [hy]; have : i < l.length := by rw [← HN.out]; exact hlt
                                              simp [nth2, this]
              have HYL := hid hyl
              have hmb : m ≤ 134217728 := by
                have h1 := HM.out.1
                have h2 := outP_len l x i
                have h6 := HN.out
                omega
              have r0 := cell_regrown x0; have r1 := cell_regrown d0
              clear a0 a1 hy hyl
              first | (injection hab with h1; injection h1 with h2 h3; subst h2; subst h3) | subst hab
              obtain ⟨yk, yv⟩ := y
              simp only at d0 d1 r1
              by_cases hgt : lt x.key yk = true
              · have q1 : Op.bytesLess yk.toList x.key.toList = false := lt_asymm hgt
                have q2 : (yk.toList == x.key.toList) = false := Vs.toList_beq' (decide_eq_false fun e => lt_ne hgt e.symm)
                have HTY := hid (outP_yes HYL.out hgt)
                clear hgt
                go_wp2_with fail
                refine wp_region_quiet_below (by kernel_rfl) (by kernel_rfl) ?_
                repeat (go_big_quiet_step (fail))
                refine wpQuiet_nil ?_
                intro wq hq
                replace hq := below_of_regrown hq
                have HBQ := hid (Below.on HB.out hq)
                have HMQ := hid (HM.out.later hq)
                have d0 := cell_later hq d0; have d1 := cell_later hq d1
                clear r0 r1 hq HM HB x0
                obtain ⟨w5, hw5⟩ : ∃ w5, w5 = wq.alloc (.cells #[.string yk, .string yv] 89) := ⟨_, rfl⟩
                have hb5 : Below wq.heap.size wq w5 := by rw [hw5]; exact Below.al (Below.refl _ _) _
                have HO5 : Hid (Vs.OwnP w5 wx.heap.size (.slice a2 m c2) (outP l x i)) := hid (HMQ.out.2.later hb5)
                have HB5 := hid (Below.on HBQ.out hb5)
                have hs5 : wx.heap.size ≤ w5.heap.size := HB5.out.size
                have HLN : Hid (((outP l x i).length + 1) * 64 ≤ 140737488355328) := hid (by have h1 := HMQ.out.1; have h2 : m ≤ 134217728 := hmb; omega)
                clear hb5
                go_wp2_with (at_builtin; refine Vs.append_P rfl _ _ rfl (yk, yv) rfl (by rw [← hw5]; exact HO5.out) rfl (Vs.new2P _ _ _ _) HLN.out (by rw [← hw5]; exact hs5) ?_)
                intro v2 w6 hown hgrow
                rw [← hw5] at hgrow
                obtain ⟨a3, c3, rfl⟩ := owns_slice hown
                have HB6 : Hid (Below wx.heap.size wx w6) := hid (Vs.OwnP.grown HO5.out hgrow HB5.out (Nat.le_refl _))
                have HM6 : Hid (RdO wx.heap.size w6 a3 (outP l x i ++ [(yk, yv)]).length c3 (outP l x i ++ [(yk, yv)])) := hid ⟨rfl, hown⟩
                obtain ⟨n6, hn6⟩ : ∃ n6, (outP l x i ++ [(yk, yv)]).length = n6 := ⟨_, rfl⟩
                rw [hn6] at HM6 ⊢
                clear hown hgrow HO5 HB5 hw5 hs5 HLN hn6
                have HM' : Hid (RdO wx.heap.size w6 a3 n6 c3 (outP l x (i + 1))) := hid (by rw [HTY.out]; exact HM6.out)
                go_wp2_with fail
                go_roundg (n - (i + 1))
                case measure => omega
                case rel => exact ⟨i + 1, n6, c3, a3, by omega, rfl, by go_num, rfl, HM', HB6⟩
              · have hgt' : lt x.key yk = false := by simpa using hgt
                have HTN := hid (outP_no HYL.out hgt')
                have hor : (Op.bytesLess yk.toList x.key.toList || yk.toList == x.key.toList) = true := by rw [leq_less]; show (!lt x.key yk) = true; rw [hgt']; rfl
                obtain ⟨B1, hB1⟩ : ∃ B1, Op.bytesLess yk.toList x.key.toList = B1 := ⟨_, rfl⟩
                rw [hB1] at hor
                clear hgt hgt'
                cases B1
                · have q2 : (yk.toList == x.key.toList) = true := by simpa using hor
                  clear hor
                  go_wp2_with fail
                  refine wp_region_quiet_below (by kernel_rfl) (by kernel_rfl) ?_
                  repeat (go_big_quiet_step (fail))
                  refine wpQuiet_nil ?_
                  intro wq hq
                  replace hq := below_of_regrown hq
                  have HBQ := hid (Below.on HB.out hq)
                  have HMQ := hid (HM.out.later hq)
                  have d0 := cell_later hq d0; have d1 := cell_later hq d1
                  clear r0 r1 hq HM HB x0
                  have HM' : Hid (RdO wx.heap.size wq a2 m c2 (outP l x (i + 1))) := hid (by rw [HTN.out]; exact HMQ.out)
                  go_wp2_with fail
                  go_roundg (n - (i + 1))
                  case measure => omega
                  case rel => exact ⟨i + 1, m, c2, a2, by omega, rfl, by go_num, rfl, HM', HBQ⟩
                · clear hor
                  go_wp2_with fail
                  refine wp_region_quiet_below (by kernel_rfl) (by kernel_rfl) ?_
                  repeat (go_big_quiet_step (fail))
                  refine wpQuiet_nil ?_
                  intro wq hq
                  replace hq := below_of_regrown hq
                  have HBQ := hid (Below.on HB.out hq)
                  have HMQ := hid (HM.out.later hq)
                  have d0 := cell_later hq d0; have d1 := cell_later hq d1
                  clear r0 r1 hq HM HB x0
                  have HM' : Hid (RdO wx.heap.size wq a2 m c2 (outP l x (i + 1))) := hid (by rw [HTN.out]; exact HMQ.out)
                  go_wp2_with fail
                  go_roundg (n - (i + 1))
                  case measure => omega
                  case rel => exact ⟨i + 1, m, c2, a2, by omega, rfl, by go_num, rfl, HM', HBQ⟩
            · obtain rfl : n = i := by omega
              have HF : Hid (RdO w.heap.size wr a2 m c2 (putP l x)) := hid (by
                have h1 := HM.out
                rw [HN.out, outP_end HRI.out x] at h1
                exact ⟨h1.1, h1.2.base hszx⟩)
              go_wp2_with fail
              go_ret
              exact ⟨a2, m, c2, rfl, HF, Below.on HBX.out HB.out⟩
        · have hdl' : x.del = false := by simpa using hdl
          have HD := hid hdl'
          rw [hdl'] at x1
          have hmb : m ≤ 134217728 := by omega
          clear hdl hdl'
          obtain ⟨w5, hw5⟩ : ∃ w5, w5 = wq.alloc (.cells #[.string x.key, .string x.val] 89) := ⟨_, rfl⟩
          have hb5 : Below wq.heap.size wq w5 := by rw [hw5]; exact Below.al (Below.refl _ _) _
          have HO5 : Hid (Vs.OwnP w5 wx.heap.size (.slice a2 m c2) (l.filter (fun e => lt e.1 x.key))) := hid (HMF.out.2.later hb5)
          have HB5 := hid (Below.on HBQ.out hb5)
          have hs5 : wx.heap.size ≤ w5.heap.size := HB5.out.size
          have HLN : Hid (((l.filter (fun e => lt e.1 x.key)).length + 1) * 64 ≤ 140737488355328) := hid (by have h1 := HMF.out.1; have h2 : m ≤ 134217728 := hmb; omega)
          clear hb5
          go_wp2_with (at_builtin; refine Vs.append_P rfl _ _ rfl (x.key, x.val) rfl (by rw [← hw5]; exact HO5.out) rfl (Vs.new2P _ _ _ _) HLN.out (by rw [← hw5]; exact hs5) ?_)
          intro v2 w6 hown hgrow
          rw [← hw5] at hgrow
          obtain ⟨a3, c3, rfl⟩ := owns_slice hown
          have HB6 : Hid (Below wx.heap.size wx w6) := hid (Vs.OwnP.grown HO5.out hgrow HB5.out (Nat.le_refl _))
          have HM6 : Hid (RdO wx.heap.size w6 a3 (l.filter (fun e => lt e.1 x.key) ++ [(x.key, x.val)]).length c3 (l.filter (fun e => lt e.1 x.key) ++ [(x.key, x.val)])) := hid ⟨rfl, hown⟩
          obtain ⟨n6, hn6⟩ : ∃ n6, (l.filter (fun e => lt e.1 x.key) ++ [(x.key, x.val)]).length = n6 := ⟨_, rfl⟩
          rw [hn6] at HM6 ⊢
          clear hown hgrow HO5 HB5 hw5 hs5 HLN hn6
          have HM2 : Hid (RdO wx.heap.size w6 a3 n6 c3 (outP l x 0)) := hid (by rw [outP_zero, midP_put HD.out]; exact HM6.out)
          clear HM6
          go_wp2_with fail
          go_loopg [5, 7] n (fun g s5 s7 wr => ∃ (i m c2 : Nat) (a2 : Option Addr), i ≤ n ∧ g = n - i ∧ s7 = .int .i64 i ∧ s5 = .slice a2 m c2 ∧ Hid (RdO wx.heap.size wr a2 m c2 (outP l x i)) ∧ Hid (Below wx.heap.size wx wr))
          case atStart => exact ⟨0, n6, c3, a3, by omega, by omega, rfl, rfl, HM2, HB6⟩
          case round =>
            obtain ⟨i, m, c2, a2, hi, rfl, rfl, rfl, HM, HB⟩ := hrel
            have x0 := cell_later HB.out HX.out.1
            by_cases hlt : i < n
            · obtain ⟨b, off, hab, a0, a1⟩ := HR.out i (by rw [← HN.out]; exact hlt)
              obtain ⟨y, hy⟩ : ∃ y, y = nth2 l i := ⟨_, rfl⟩
              rw [← hy] at a0 a1
              have d0 := cell_later HB.out a0
              have d1 := cell_later HB.out a1
              have hyl : l[i]? = some y := by rw [hy]; have : i < l.length := by rw [← HN.out]; exact hlt
                                              simp [nth2, this]
              have HYL := hid hyl
              have hmb : m ≤ 134217728 := by
                have h1 := HM.out.1
                have h2 := outP_len l x i
                have h6 := HN.out
                omega
              have r0 := cell_regrown x0; have r1 := cell_regrown d0
              clear a0 a1 hy hyl
              first | (injection hab with h1; injection h1 with h2 h3; subst h2; subst h3) | subst hab
              obtain ⟨yk, yv⟩ := y
              simp only at d0 d1 r1
              by_cases hgt : lt x.key yk = true
              · have q1 : Op.bytesLess yk.toList x.key.toList = false := lt_asymm hgt
                have q2 : (yk.toList == x.key.toList) = false := Vs.toList_beq' (decide_eq_false fun e => lt_ne hgt e.symm)
                have HTY := hid (outP_yes HYL.out hgt)
                clear hgt
                go_wp2_with fail
                refine wp_region_quiet_below (by kernel_rfl) (by kernel_rfl) ?_
                repeat (go_big_quiet_step (fail))
                refine wpQuiet_nil ?_
                intro wq hq
                replace hq := below_of_regrown hq
                have HBQ := hid (Below.on HB.out hq)
                have HMQ := hid (HM.out.later hq)
                have d0 := cell_later hq d0; have d1 := cell_later hq d1
                clear r0 r1 hq HM HB x0
                obtain ⟨w5, hw5⟩ : ∃ w5, w5 = wq.alloc (.cells #[.string yk, .string yv] 89) := ⟨_, rfl⟩
                have hb5 : Below wq.heap.size wq w5 := by rw [hw5]; exact Below.al (Below.refl _ _) _
                have HO5 : Hid (Vs.OwnP w5 wx.heap.size (.slice a2 m c2) (outP l x i)) := hid (HMQ.out.2.later hb5)
                have HB5 := hid (Below.on HBQ.out hb5)
                have hs5 : wx.heap.size ≤ w5.heap.size := HB5.out.size
                have HLN : Hid (((outP l x i).length + 1) * 64 ≤ 140737488355328) := hid (by have h1 := HMQ.out.1; have h2 : m ≤ 134217728 := hmb; omega)
                clear hb5
                go_wp2_with (at_builtin; refine Vs.append_P rfl _ _ rfl (yk, yv) rfl (by rw [← hw5]; exact HO5.out) rfl (Vs.new2P _ _ _ _) HLN.out (by rw [← hw5]; exact hs5) ?_)
                intro v2 w6 hown hgrow
                rw [← hw5] at hgrow
                obtain ⟨a3, c3, rfl⟩ := owns_slice hown
                have HB6 : Hid (Below wx.heap.size wx w6) := hid (Vs.OwnP.grown HO5.out hgrow HB5.out (Nat.le_refl _))
                have HM6 : Hid (RdO wx.heap.size w6 a3 (outP l x i ++ [(yk, yv)]).length c3 (outP l x i ++ [(yk, yv)])) := hid ⟨rfl, hown⟩
                obtain ⟨n6, hn6⟩ : ∃ n6, (outP l x i ++ [(yk, yv)]).length = n6 := ⟨_, rfl⟩
                rw [hn6] at HM6 ⊢
                clear hown hgrow HO5 HB5 hw5 hs5 HLN hn6
                have HM' : Hid (RdO wx.heap.size w6 a3 n6 c3 (outP l x (i + 1))) := hid (by rw [HTY.out]; exact HM6.out)
                go_wp2_with fail
                go_roundg (n - (i + 1))
                case measure => omega
                case rel => exact ⟨i + 1, n6, c3, a3, by omega, rfl, by go_num, rfl, HM', HB6⟩
              · have hgt' : lt x.key yk = false := by simpa using hgt
                have HTN := hid (outP_no HYL.out hgt')
                have hor : (Op.bytesLess yk.toList x.key.toList || yk.toList == x.key.toList) = true := by rw [leq_less]; show (!lt x.key yk) = true; rw [hgt']; rfl
                obtain ⟨B1, hB1⟩ : ∃ B1, Op.bytesLess yk.toList x.key.toList = B1 := ⟨_, rfl⟩
                rw [hB1] at hor
                clear hgt hgt'
                cases B1
                · have q2 : (yk.toList == x.key.toList) = true := by simpa using hor
                  clear hor
                  go_wp2_with fail
                  refine wp_region_quiet_below (by kernel_rfl) (by kernel_rfl) ?_
                  repeat (go_big_quiet_step (fail))
                  refine wpQuiet_nil ?_
                  intro wq hq
                  replace hq := below_of_regrown hq
                  have HBQ := hid (Below.on HB.out hq)
                  have HMQ := hid (HM.out.later hq)
                  have d0 := cell_later hq d0; have d1 := cell_later hq d1
                  clear r0 r1 hq HM HB x0
                  have HM' : Hid (RdO wx.heap.size wq a2 m c2 (outP l x (i + 1))) := hid (by rw [HTN.out]; exact HMQ.out)
                  go_wp2_with fail
                  go_roundg (n - (i + 1))
                  case measure => omega
                  case rel => exact ⟨i + 1, m, c2, a2, by omega, rfl, by go_num, rfl, HM', HBQ⟩
                · clear hor
                  go_wp2_with fail
                  refine wp_region_quiet_below (by kernel_rfl) (by kernel_rfl) ?_
                  repeat (go_big_quiet_step (fail))
                  refine wpQuiet_nil ?_
                  intro wq hq
                  replace hq := below_of_regrown hq
                  have HBQ := hid (Below.on HB.out hq)
                  have HMQ := hid (HM.out.later hq)
                  have d0 := cell_later hq d0; have d1 := cell_later hq d1
                  clear r0 r1 hq HM HB x0
                  have HM' : Hid (RdO wx.heap.size wq a2 m c2 (outP l x (i + 1))) := hid (by rw [HTN.out]; exact HMQ.out)
                  go_wp2_with fail
                  go_roundg (n - (i + 1))
                  case measure => omega
                  case rel => exact ⟨i + 1, m, c2, a2, by omega, rfl, by go_num, rfl, HM', HBQ⟩
            · obtain rfl : n = i := by omega
              have HF : Hid (RdO w.heap.size wr a2 m c2 (putP l x)) := hid (by
                have h1 := HM.out
                rw [HN.out, outP_end HRI.out x] at h1
                exact ⟨h1.1, h1.2.base hszx⟩)
              go_wp2_with fail
              go_ret
              exact ⟨a2, m, c2, rfl, HF, Below.on HBX.out HB.out⟩
      · obtain ⟨yk, yv⟩ := y
        simp only at d0 d1
        have hmb : m ≤ 134217728 := by omega
        obtain ⟨w5, hw5⟩ : ∃ w5, w5 = wq.alloc (.cells #[.string yk, .string yv] 89) := ⟨_, rfl⟩
        have hb5 : Below wq.heap.size wq w5 := by rw [hw5]; exact Below.al (Below.refl _ _) _
        have HO5 : Hid (Vs.OwnP w5 wx.heap.size (.slice a2 m c2) (l.take m)) := hid (HMQ.out.2.later hb5)
        have HB5 := hid (Below.on HBQ.out hb5)
        have hs5 : wx.heap.size ≤ w5.heap.size := HB5.out.size
        have HLN : Hid (((l.take m).length + 1) * 64 ≤ 140737488355328) := hid (by have h1 := HMQ.out.1; have h2 : m ≤ 134217728 := hmb; omega)
        clear hb5
        go_wp2_with (at_builtin; refine Vs.append_P rfl _ _ rfl (yk, yv) rfl (by rw [← hw5]; exact HO5.out) rfl (Vs.new2P _ _ _ _) HLN.out (by rw [← hw5]; exact hs5) ?_)
        intro v2 w6 hown hgrow
        rw [← hw5] at hgrow
        obtain ⟨a3, c3, rfl⟩ := owns_slice hown
        have HB6 : Hid (Below wx.heap.size wx w6) := hid (Vs.OwnP.grown HO5.out hgrow HB5.out (Nat.le_refl _))
        have HM6 : Hid (RdO wx.heap.size w6 a3 (l.take m ++ [(yk, yv)]).length c3 (l.take m ++ [(yk, yv)])) := hid ⟨rfl, hown⟩
        obtain ⟨n6, hn6⟩ : ∃ n6, (l.take m ++ [(yk, yv)]).length = n6 := ⟨_, rfl⟩
        rw [hn6] at HM6 ⊢
        clear hown hgrow HO5 HB5 hw5 hs5 HLN hn6
        have HM' : Hid (RdO wx.heap.size w6 a3 n6 c3 (l.take (m + 1))) := hid (by rw [HTK.out]; exact HM6.out)
        have HLW' : Hid (∀ z ∈ l.take (m + 1), lt z.1 x.key = true) := hid fun z hz => by
          rw [HTK.out] at hz
          rcases List.mem_append.1 hz with hz | hz
          · exact HLW.out z hz
          · rw [List.mem_singleton] at hz; rw [hz]; exact HL.out
        go_wp2_with fail
        go_roundg (n - (m + 1))
        case measure => omega
        case rel => exact ⟨m + 1, n6, c3, a3, by omega, rfl, by go_num, rfl, HM', HLW', HB6⟩
    · obtain rfl : n = m := by omega
      have HMF : Hid (RdO wx.heap.size wr a2 n c2 (l.filter (fun e => lt e.1 x.key))) := hid (by
        rw [take_low HRI.out HLW.out fun z hz => by have := (List.getElem?_eq_some_iff.1 hz).1; have := HN.out; omega]
        exact HM.out)
      go_wp2_with fail
      refine wp_region_quiet_below (by kernel_rfl) (by kernel_rfl) ?_
      repeat (go_big_quiet_step (fail))
      refine wpQuiet_nil ?_
      intro wq hq
      replace hq := below_of_regrown hq
      have HBQ := hid (Below.on HB.out hq)
      have HMF := hid (HMF.out.later hq)
      have x0 := cell_later hq x0; have x1 := cell_later hq x1; have x2 := cell_later hq x2
      clear hq
      clear HM HLW HB
      by_cases hdl : x.del = true
      · have HD := hid hdl
        have HM2 : Hid (RdO wx.heap.size wq a2 n c2 (outP l x 0)) := hid (by rw [outP_zero, midP_del HD.out]; exact HMF.out)
        rw [hdl] at x1
        clear hdl HMF
        go_wp2_with fail
        go_loopg [5, 7] n (fun g s5 s7 wr => ∃ (i m c2 : Nat) (a2 : Option Addr), i ≤ n ∧ g = n - i ∧ s7 = .int .i64 i ∧ s5 = .slice a2 m c2 ∧ Hid (RdO wx.heap.size wr a2 m c2 (outP l x i)) ∧ Hid (Below wx.heap.size wx wr))
        case atStart => exact ⟨0, n, c2, a2, by omega, by omega, rfl, rfl, HM2, HBQ⟩
        case round =>
          obtain ⟨i, m, c2, a2, hi, rfl, rfl, rfl, HM, HB⟩ := hrel
          have x0 := cell_later HB.out HX.out.1
          by_cases hlt : i < n
          · obtain ⟨b, off, hab, a0, a1⟩ := HR.out i (by rw [← HN.out]; exact hlt)
            obtain ⟨y, hy⟩ : ∃ y, y = nth2 l i := ⟨_, rfl⟩
            rw [← hy] at a0 a1
            have d0 := cell_later HB.out a0
            have d1 := cell_later HB.out a1
            have hyl : l[i]? = some y := by rw [hy]; have : i < l.length := by rw [← HN.out]; exact hlt
                                            simp [nth2, this]
            have HYL := hid hyl
            have hmb : m ≤ 134217728 := by
              have h1 := HM.out.1
              have h2 := outP_len l x i
              have h6 := HN.out
              omega
            have r0 := cell_regrown x0; have r1 := cell_regrown d0
            clear a0 a1 hy hyl
            first | (injection hab with h1; injection h1 with h2 h3; subst h2; subst h3) | subst hab
            obtain ⟨yk, yv⟩ := y
            simp only at d0 d1 r1
            by_cases hgt : lt x.key yk = true
            · have q1 : Op.bytesLess yk.toList x.key.toList = false := lt_asymm hgt
              have q2 : (yk.toList == x.key.toList) = false := Vs.toList_beq' (decide_eq_false fun e => lt_ne hgt e.symm)
              have HTY := hid (outP_yes HYL.out hgt)
              clear hgt
              go_wp2_with fail
              refine wp_region_quiet_below (by kernel_rfl) (by kernel_rfl) ?_
              repeat (go_big_quiet_step (fail))
              refine wpQuiet_nil ?_
              intro wq hq
              replace hq := below_of_regrown hq
              have HBQ := hid (Below.on HB.out hq)
              have HMQ := hid (HM.out.later hq)
              have d0 := cell_later hq d0; have d1 := cell_later hq d1
              clear r0 r1 hq HM HB x0
              obtain ⟨w5, hw5⟩ : ∃ w5, w5 = wq.alloc (.cells #[.string yk, .string yv] 89) := ⟨_, rfl⟩
              have hb5 : Below wq.heap.size wq w5 := by rw [hw5]; exact Below.al (Below.refl _ _) _
              have HO5 : Hid (Vs.OwnP w5 wx.heap.size (.slice a2 m c2) (outP l x i)) := hid (HMQ.out.2.later hb5)
              have HB5 := hid (Below.on HBQ.out hb5)
              have hs5 : wx.heap.size ≤ w5.heap.size := HB5.out.size
              have HLN : Hid (((outP l x i).length + 1) * 64 ≤ 140737488355328) := hid (by have h1 := HMQ.out.1; have h2 : m ≤ 134217728 := hmb; omega)
              clear hb5
              go_wp2_with (at_builtin; refine Vs.append_P rfl _ _ rfl (yk, yv) rfl (by rw [← hw5]; exact HO5.out) rfl (Vs.new2P _ _ _ _) HLN.out (by rw [← hw5]; exact hs5) ?_)
              intro v2 w6 hown hgrow
              rw [← hw5] at hgrow
              obtain ⟨a3, c3, rfl⟩ := owns_slice hown
              have HB6 : Hid (Below wx.heap.size wx w6) := hid (Vs.OwnP.grown HO5.out hgrow HB5.out (Nat.le_refl _))
              have HM6 : Hid (RdO wx.heap.size w6 a3 (outP l x i ++ [(yk, yv)]).length c3 (outP l x i ++ [(yk, yv)])) := hid ⟨rfl, hown⟩
              obtain ⟨n6, hn6⟩ : ∃ n6, (outP l x i ++ [(yk, yv)]).length = n6 := ⟨_, rfl⟩
              rw [hn6] at HM6 ⊢
              clear hown hgrow HO5 HB5 hw5 hs5 HLN hn6
              have HM' : Hid (RdO wx.heap.size w6 a3 n6 c3 (outP l x (i + 1))) := hid (by rw [HTY.out]; exact HM6.out)
              go_wp2_with fail
              go_roundg (n - (i + 1))
              case measure => omega
              case rel => exact ⟨i + 1, n6, c3, a3, by omega, rfl, by go_num, rfl, HM', HB6⟩
            · have hgt' : lt x.key yk = false := by simpa using hgt
              have HTN := hid (outP_no HYL.out hgt')
              have hor : (Op.bytesLess yk.toList x.key.toList || yk.toList == x.key.toList) = true := by rw [leq_less]; show (!lt x.key yk) = true; rw [hgt']; rfl
              obtain ⟨B1, hB1⟩ : ∃ B1, Op.bytesLess yk.toList x.key.toList = B1 := ⟨_, rfl⟩
              rw [hB1] at hor
              clear hgt hgt'
              cases B1
              · have q2 : (yk.toList == x.key.toList) = true := by simpa using hor
                clear hor
                go_wp2_with fail
                refine wp_region_quiet_below (by kernel_rfl) (by kernel_rfl) ?_
                repeat (go_big_quiet_step (fail))
                refine wpQuiet_nil ?_
                intro wq hq
                replace hq := below_of_regrown hq
                have HBQ := hid (Below.on HB.out hq)
                have HMQ := hid (HM.out.later hq)
                have d0 := cell_later hq d0; have d1 := cell_later hq d1
                clear r0 r1 hq HM HB x0
                have HM' : Hid (RdO wx.heap.size wq a2 m c2 (outP l x (i + 1))) := hid (by rw [HTN.out]; exact HMQ.out)
                go_wp2_with fail
                go_roundg (n - (i + 1))
                case measure => omega
                case rel => exact ⟨i + 1, m, c2, a2, by omega, rfl, by go_num, rfl, HM', HBQ⟩
              · clear hor
                go_wp2_with fail
                refine wp_region_quiet_below (by kernel_rfl) (by kernel_rfl) ?_
                repeat (go_big_quiet_step (fail))
                refine wpQuiet_nil ?_
                intro wq hq
                replace hq := below_of_regrown hq
                have HBQ := hid (Below.on HB.out hq)
                have HMQ := hid (HM.out.later hq)
                have d0 := cell_later hq d0; have d1 := cell_later hq d1
                clear r0 r1 hq HM HB x0
                have HM' : Hid (RdO wx.heap.size wq a2 m c2 (outP l x (i + 1))) := hid (by rw [HTN.out]; exact HMQ.out)
                go_wp2_with fail
                go_roundg (n - (i + 1))
                case measure => omega
                case rel => exact ⟨i + 1, m, c2, a2, by omega, rfl, by go_num, rfl, HM', HBQ⟩
          · obtain rfl : n = i := by omega
            have HF : Hid (RdO w.heap.size wr a2 m c2 (putP l x)) := hid (by
              have h1 := HM.out
              rw [HN.out, outP_end HRI.out x] at h1
              exact ⟨h1.1, h1.2.base hszx⟩)
            go_wp2_with fail
            go_ret
            exact ⟨a2, m, c2, rfl, HF, Below.on HBX.out HB.out⟩
      · have hdl' : x.del = false := by simpa using hdl
        have HD := hid hdl'
        rw [hdl'] at x1
        have hmb : n ≤ 134217728 := by omega
        clear hdl hdl'
        obtain ⟨w5, hw5⟩ : ∃ w5, w5 = wq.alloc (.cells #[.string x.key, .string x.val] 89) := ⟨_, rfl⟩
        have hb5 : Below wq.heap.size wq w5 := by rw [hw5]; exact Below.al (Below.refl _ _) _
        have HO5 : Hid (Vs.OwnP w5 wx.heap.size (.slice a2 n c2) (l.filter (fun e => lt e.1 x.key))) := hid (HMF.out.2.later hb5)
        have HB5 := hid (Below.on HBQ.out hb5)
        have hs5 : wx.heap.size ≤ w5.heap.size := HB5.out.size
        have HLN : Hid (((l.filter (fun e => lt e.1 x.key)).length + 1) * 64 ≤ 140737488355328) := hid (by have h1 := HMF.out.1; have h2 : n ≤ 134217728 := hmb; omega)
        clear hb5
        go_wp2_with (at_builtin; refine Vs.append_P rfl _ _ rfl (x.key, x.val) rfl (by rw [← hw5]; exact HO5.out) rfl (Vs.new2P _ _ _ _) HLN.out (by rw [← hw5]; exact hs5) ?_)
        intro v2 w6 hown hgrow
        rw [← hw5] at hgrow
        obtain ⟨a3, c3, rfl⟩ := owns_slice hown
        have HB6 : Hid (Below wx.heap.size wx w6) := hid (Vs.OwnP.grown HO5.out hgrow HB5.out (Nat.le_refl _))
        have HM6 : Hid (RdO wx.heap.size w6 a3 (l.filter (fun e => lt e.1 x.key) ++ [(x.key, x.val)]).length c3 (l.filter (fun e => lt e.1 x.key) ++ [(x.key, x.val)])) := hid ⟨rfl, hown⟩
        obtain ⟨n6, hn6⟩ : ∃ n6, (l.filter (fun e => lt e.1 x.key) ++ [(x.key, x.val)]).length = n6 := ⟨_, rfl⟩
        rw [hn6] at HM6 ⊢
        clear hown hgrow HO5 HB5 hw5 hs5 HLN hn6
        have HM2 : Hid (RdO wx.heap.size w6 a3 n6 c3 (outP l x 0)) := hid (by rw [outP_zero, midP_put HD.out]; exact HM6.out)
        clear HM6
        go_wp2_with fail
        go_loopg [5, 7] n (fun g s5 s7 wr => ∃ (i m c2 : Nat) (a2 : Option Addr), i ≤ n ∧ g = n - i ∧ s7 = .int .i64 i ∧ s5 = .slice a2 m c2 ∧ Hid (RdO wx.heap.size wr a2 m c2 (outP l x i)) ∧ Hid (Below wx.heap.size wx wr))
        case atStart => exact ⟨0, n6, c3, a3, by omega, by omega, rfl, rfl, HM2, HB6⟩
        case round =>
          obtain ⟨i, m, c2, a2, hi, rfl, rfl, rfl, HM, HB⟩ := hrel
          have x0 := cell_later HB.out HX.out.1
          by_cases hlt : i < n
          · obtain ⟨b, off, hab, a0, a1⟩ := HR.out i (by rw [← HN.out]; exact hlt)
            obtain ⟨y, hy⟩ : ∃ y, y = nth2 l i := ⟨_, rfl⟩
            rw [← hy] at a0 a1
            have d0 := cell_later HB.out a0
            have d1 := cell_later HB.out a1
            have hyl : l[i]? = some y := by rw [hy]; have : i < l.length := by rw [← HN.out]; exact hlt
                                            simp [nth2, this]
            have HYL := hid hyl
            have hmb : m ≤ 134217728 := by
              have h1 := HM.out.1
              have h2 := outP_len l x i
              have h6 := HN.out
              omega
            have r0 := cell_regrown x0; have r1 := cell_regrown d0
            clear a0 a1 hy hyl
            first | (injection hab with h1; injection h1 with h2 h3; subst h2; subst h3) | subst hab
            obtain ⟨yk, yv⟩ := y
            simp only at d0 d1 r1
            by_cases hgt : lt x.key yk = true
            · have q1 : Op.bytesLess yk.toList x.key.toList = false := lt_asymm hgt
              have q2 : (yk.toList == x.key.toList) = false := Vs.toList_beq' (decide_eq_false fun e => lt_ne hgt e.symm)
              have HTY := hid (outP_yes HYL.out hgt)
              clear hgt
              go_wp2_with fail
              refine wp_region_quiet_below (by kernel_rfl) (by kernel_rfl) ?_
              repeat (go_big_quiet_step (fail))
              refine wpQuiet_nil ?_
              intro wq hq
              replace hq := below_of_regrown hq
              have HBQ := hid (Below.on HB.out hq)
              have HMQ := hid (HM.out.later hq)
              have d0 := cell_later hq d0; have d1 := cell_later hq d1
              clear r0 r1 hq HM HB x0
              obtain ⟨w5, hw5⟩ : ∃ w5, w5 = wq.alloc (.cells #[.string yk, .string yv] 89) := ⟨_, rfl⟩
              have hb5 : Below wq.heap.size wq w5 := by rw [hw5]; exact Below.al (Below.refl _ _) _
              have HO5 : Hid (Vs.OwnP w5 wx.heap.size (.slice a2 m c2) (outP l x i)) := hid (HMQ.out.2.later hb5)
              have HB5 := hid (Below.on HBQ.out hb5)
              have hs5 : wx.heap.size ≤ w5.heap.size := HB5.out.size
              have HLN : Hid (((outP l x i).length + 1) * 64 ≤ 140737488355328) := hid (by have h1 := HMQ.out.1; have h2 : m ≤ 134217728 := hmb; omega)
              clear hb5
              go_wp2_with (at_builtin; refine Vs.append_P rfl _ _ rfl (yk, yv) rfl (by rw [← hw5]; exact HO5.out) rfl (Vs.new2P _ _ _ _) HLN.out (by rw [← hw5]; exact hs5) ?_)
              intro v2 w6 hown hgrow
              rw [← hw5] at hgrow
              obtain ⟨a3, c3, rfl⟩ := owns_slice hown
              have HB6 : Hid (Below wx.heap.size wx w6) := hid (Vs.OwnP.grown HO5.out hgrow HB5.out (Nat.le_refl _))
              have HM6 : Hid (RdO wx.heap.size w6 a3 (outP l x i ++ [(yk, yv)]).length c3 (outP l x i ++ [(yk, yv)])) := hid ⟨rfl, hown⟩
              obtain ⟨n6, hn6⟩ : ∃ n6, (outP l x i ++ [(yk, yv)]).length = n6 := ⟨_, rfl⟩
              rw [hn6] at HM6 ⊢
              clear hown hgrow HO5 HB5 hw5 hs5 HLN hn6
              have HM' : Hid (RdO wx.heap.size w6 a3 n6 c3 (outP l x (i + 1))) := hid (by rw [HTY.out]; exact HM6.out)
              go_wp2_with fail
              go_roundg (n - (i + 1))
              case measure => omega
              case rel => exact ⟨i + 1, n6, c3, a3, by omega, rfl, by go_num, rfl, HM', HB6⟩
            · have hgt' : lt x.key yk = false := by simpa using hgt
              have HTN := hid (outP_no HYL.out hgt')
              have hor : (Op.bytesLess yk.toList x.key.toList || yk.toList == x.key.toList) = true := by rw [leq_less]; show (!lt x.key yk) = true; rw [hgt']; rfl
              obtain ⟨B1, hB1⟩ : ∃ B1, Op.bytesLess yk.toList x.key.toList = B1 := ⟨_, rfl⟩
              rw [hB1] at hor
              clear hgt hgt'
              cases B1
              · have q2 : (yk.toList == x.key.toList) = true := by simpa using hor
                clear hor
                go_wp2_with fail
                refine wp_region_quiet_below (by kernel_rfl) (by kernel_rfl) ?_
                repeat (go_big_quiet_step (fail))
                refine wpQuiet_nil ?_
                intro wq hq
                replace hq := below_of_regrown hq
                have HBQ := hid (Below.on HB.out hq)
                have HMQ := hid (HM.out.later hq)
                have d0 := cell_later hq d0; have d1 := cell_later hq d1
                clear r0 r1 hq HM HB x0
                have HM' : Hid (RdO wx.heap.size wq a2 m c2 (outP l x (i + 1))) := hid (by rw [HTN.out]; exact HMQ.out)
                go_wp2_with fail
                go_roundg (n - (i + 1))
                case measure => omega
                case rel => exact ⟨i + 1, m, c2, a2, by omega, rfl, by go_num, rfl, HM', HBQ⟩
              · clear hor
                go_wp2_with fail
                refine wp_region_quiet_below (by kernel_rfl) (by kernel_rfl) ?_
                repeat (go_big_quiet_step (fail))
                refine wpQuiet_nil ?_
                intro wq hq
                replace hq := below_of_regrown hq
                have HBQ := hid (Below.on HB.out hq)
                have HMQ := hid (HM.out.later hq)
                have d0 := cell_later hq d0; have d1 := cell_later hq d1
                clear r0 r1 hq HM HB x0
                have HM' : Hid (RdO wx.heap.size wq a2 m c2 (outP l x (i + 1))) := hid (by rw [HTN.out]; exact HMQ.out)
                go_wp2_with fail
                go_roundg (n - (i + 1))
                case measure => omega
                case rel => exact ⟨i + 1, m, c2, a2, by omega, rfl, by go_num, rfl, HM', HBQ⟩
          · obtain rfl : n = i := by omega
            have HF : Hid (RdO w.heap.size wr a2 m c2 (putP l x)) := hid (by
              have h1 := HM.out
              rw [HN.out, outP_end HRI.out x] at h1
              exact ⟨h1.1, h1.2.base hszx⟩)
            go_wp2_with fail
            go_ret
            exact ⟨a2, m, c2, rfl, HF, Below.on HBX.out HB.out⟩
end Go.Proofs.YtfdbffadajepfaaGreat.Ys
