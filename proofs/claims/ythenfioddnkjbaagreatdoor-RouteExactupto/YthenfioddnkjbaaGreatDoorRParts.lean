import Derived.Test.YthenfioddnkjbaaGreatDoorRCut
import Derived.RangeFuncBox
import Derived.Laws.AppendOwn
import Derived.Test.YthenfioddnkjbaaGreatDoorLItoa
/- The common part of two spans. -/
namespace Go.Proofs.YthenfioddnkjbaaGreatDoor.Rt
open Go.RowKit Go.Sort
set_option linter.unusedVariables false

theorem run_maxT (a b : ByteArray) (ts : Array TypeId) (ty : TypeId) (w : World) : (Builtin.max_ ts ty #[.string a, .string b]).run Tryz.prog w = .ok (.string (maxT a b)) w := by
  cases h : Op.bytesLess a.toList b.toList <;> simp [Builtin.max_, Builtin.max2, Op.stringOp, maxT, ltS, asBool, h]
/-- what common answers -/
def commA (a b : T2) : T2 × Bool := match comm a b with
  | none => ((mt, mt), false)
  | some s => (s, true)

set_option maxHeartbeats 4000000 in
theorem common_is (a b : T2) (w : World) :
    Calls Tryz.prog 103 #[spv a, spv b] w fun e w' => e = .returned (.tuple #[spv (commA a b).1, .bool (commA a b).2]) ∧ Below w.heap.size w w' := by
  obtain ⟨alo, ahi⟩ := a
  obtain ⟨blo, bhi⟩ := b
  obtain ⟨w0, hw0⟩ : ∃ w0, w0 = ((w.alloc (.cells #[.string alo, .string ahi] 49)).alloc (.cells #[.string blo, .string bhi] 49)).alloc (.cells #[.string ⟨#[]⟩, .string ⟨#[]⟩] 49) := ⟨_, rfl⟩
  have hb0 : Below w.heap.size w w0 := by rw [hw0]; (repeat (first | exact Below.refl _ _ | assumption | refine Below.drew ?_ | refine Below.al ?_ _ | refine Below.setCell ?_ (by first | exact Nat.le_refl _ | (simp; omega) | (simp; done)) _ | refine Below.on ?_ (by assumption)))
  have a0 : w0.cell? ⟨w.heap.size, 0, none⟩ = some (.string alo) := by rw [hw0]; simp [go_sem]
  have a1 : w0.cell? ⟨w.heap.size, 1, none⟩ = some (.string ahi) := by rw [hw0]; simp [go_sem]
  have b0 : w0.cell? ⟨w.heap.size + 1, 0, none⟩ = some (.string blo) := by rw [hw0]; simp [go_sem]
  have b1 : w0.cell? ⟨w.heap.size + 1, 1, none⟩ = some (.string bhi) := by rw [hw0]; simp [go_sem]
  have r0 : w0.cell? ⟨w.heap.size + 1 + 1, 0, none⟩ = some (.string ⟨#[]⟩) := by rw [hw0]; simp [go_sem]
  have r1 : w0.cell? ⟨w.heap.size + 1 + 1, 1, none⟩ = some (.string ⟨#[]⟩) := by rw [hw0]; simp [go_sem]
  have rf : ∀ o, w0.frozen? ⟨w.heap.size + 1 + 1, o, none⟩ = false := fun o => by rw [hw0]; simp [go_sem]
  have hz : w.heap.size + 1 + 1 < w0.heap.size := by rw [hw0]; simp
  obtain ⟨m, hm⟩ : ∃ m, m = maxT alo blo := ⟨_, rfl⟩
  obtain ⟨h, hh⟩ : ∃ h, h = lesH ahi bhi := ⟨_, rfl⟩
  have hr : ∀ (ts : Array TypeId) (ty : TypeId) (w : World), (Builtin.max_ ts ty #[.string alo, .string blo]).run Tryz.prog w = .ok (.string m) w := fun ts ty w => by rw [run_maxT, hm]
  have HL : Hid (∀ w, Calls Tryz.prog 120 #[.string ahi, .string bhi] w fun e w' => e = .returned (.string h) ∧ Below w.heap.size w w') := hid (by rw [hh]; exact lesser_is _ _)
  have HJ : Hid (commA (alo, ahi) (blo, bhi) = if void (m, h) then ((mt, mt), false) else ((m, h), true)) := hid (by
    rw [commA, comm, join, ← hm, ← hh]
    cases hv : void (m, h) <;> rfl)
  have HB0 := hid hb0
  clear hm hh hb0
  go_enter Tryz.func103, Tryz.ntmps103
  go_wp2_with fail
  rw [← hw0]
  clear hw0
  go_cut [6] (fun s6 wx => ∃ q : Nat, s6 = .pointer (some ⟨q, 0, none⟩) ∧ wx.cell? ⟨q, 0, none⟩ = some (.string m) ∧ wx.cell? ⟨q, 1, none⟩ = some (.string h) ∧ w0.heap.size ≤ q ∧ Below w0.heap.size w0 wx)
  case first =>
    go_region_held3 (fun w' => w'.cell? ⟨w.heap.size, 0, none⟩ = some (.string alo) ∧ w'.cell? ⟨w.heap.size, 1, none⟩ = some (.string ahi) ∧ w'.cell? ⟨w.heap.size + 1, 0, none⟩ = some (.string blo) ∧ w'.cell? ⟨w.heap.size + 1, 1, none⟩ = some (.string bhi) ∧ Below w0.heap.size w0 w')
      ((refine (fun (hB : Below w0.heap.size w0 _) => ⟨cell_later hB a0, cell_later hB a1, cell_later hB b0, cell_later hB b1, hB⟩) ?_; (repeat (first | with_reducible exact Below.refl _ _ | with_reducible assumption | with_reducible refine Below.drew ?_ | with_reducible refine Below.al ?_ _ | with_reducible refine Below.setCell ?_ (by first | exact Nat.le_refl _ | (simp; omega) | (simp; done)) _ | with_reducible refine Below.on ?_ (by assumption)))))
      (first | (go_at_call 120; refine (HL.out _).mono ?_; rintro e w1 ⟨rfl, hb1⟩; obtain ⟨hc1, hf1⟩ := bcell hb1; have hz1 := hb1.size))
    all_goals (try go_wp2_with fail)
    all_goals go_meet
    all_goals (refine ⟨_, rfl, ?_, ?_, ?_, ?_⟩)
    all_goals (first | (simp [go_sem, hc1]; done) | (simp at *; omega) | (repeat (first | exact Below.refl _ _ | assumption | refine Below.drew ?_ | refine Below.al ?_ _ | refine Below.setCell ?_ (by first | exact Nat.le_refl _ | (simp; omega) | (simp; done)) _ | refine Below.on ?_ (by assumption))))
  case rest =>
    obtain ⟨q, rfl, q0, q1, hq, hbx⟩ := hcut
    have r0 := cell_later hbx r0
    have r1 := cell_later hbx r1
    have rf : ∀ o, wc.frozen? ⟨w.heap.size + 1 + 1, o, none⟩ = false := fun o => (hbx.frozen (p := ⟨w.heap.size + 1 + 1, o, none⟩) hz).trans (rf o)
    have HBX := hid (Below.on HB0.out hbx)
    have hle : (Op.bytesLess h.toList m.toList || h.toList == m.toList) = !ltS m h := leq_less _ _
    clear HL hr hbx a0 a1 b0 b1
    cases h1 : emS h
    · have h1' : h.toList.isEmpty = false := h1
      cases h2 : ltS m h
      · have hv : void (m, h) = true := by simp [void, h1, h2]
        rw [h2, Bool.not_false] at hle
        go_wp2_with fail
        refine bodyPost_ret (v := .tuple #[spv (mt, mt), .bool false]) (by simp [results, Tryz.results103, go_sem, r0, r1]) rfl ⟨by rw [HJ.out, hv]; rfl, ?_⟩
        have hB := HBX.out
        (repeat (first | exact Below.refl _ _ | assumption | refine Below.drew ?_ | refine Below.al ?_ _ | refine Below.setCell ?_ (by first | exact Nat.le_refl _ | (simp; omega) | (simp; done)) _ | refine Below.on ?_ (by assumption)))
      · have hv : void (m, h) = false := by simp [void, h1, h2]
        rw [h2, Bool.not_true] at hle
        go_wp2_with fail
        refine bodyPost_ret (v := .tuple #[spv (m, h), .bool true]) (by simp [results, Tryz.results103, go_sem, r0, r1]) rfl ⟨by rw [HJ.out, hv]; rfl, ?_⟩
        have hB := HBX.out
        (repeat (first | exact Below.refl _ _ | assumption | refine Below.drew ?_ | refine Below.al ?_ _ | refine Below.setCell ?_ (by first | exact Nat.le_refl _ | (simp; omega) | (simp; done)) _ | refine Below.on ?_ (by assumption)))
    · have h1' : h.toList.isEmpty = true := h1
      have hv : void (m, h) = false := by simp [void, h1]
      go_wp2_with fail
      refine bodyPost_ret (v := .tuple #[spv (m, h), .bool true]) (by simp [results, Tryz.results103, go_sem, r0, r1]) rfl ⟨by rw [HJ.out, hv]; rfl, ?_⟩
      have hB := HBX.out
      (repeat (first | exact Below.refl _ _ | assumption | refine Below.drew ?_ | refine Below.al ?_ _ | refine Below.setCell ?_ (by first | exact Nat.le_refl _ | (simp; omega) | (simp; done)) _ | refine Below.on ?_ (by assumption)))

end Go.Proofs.YthenfioddnkjbaaGreatDoor.Rt
/- Cut: the parts of a span. -/
namespace Go.Proofs.YthenfioddnkjbaaGreatDoor.Rt
open Go.RowKit Go.Sort
set_option linter.unusedVariables false

theorem infoPt : (Tryz.prog.info? 129).map (fun i => (i.zero, i.size, i.bytes)) = some (some (.agg #[.int .u32 0, .string ⟨#[]⟩, .string ⟨#[]⟩]), 3, 40) := by kernel_rfl
def cellsP (p : Pt) : List Value := [.int .u32 (p.1 : Int), .string p.2.1, .string p.2.2]
def flatP (l : List Pt) : List Value := l.flatMap cellsP
theorem flatP_snoc (l : List Pt) (p : Pt) : flatP (l ++ [p]) = flatP l ++ cellsP p := by simp [flatP]
/-- a row of parts of one's own -/
def OwnP (w : World) (B : Nat) (v : Value) (l : List Pt) : Prop := w.ownsRow B 129 3 v l.length (flatP l)
theorem OwnP.later {w w' : World} {B : Nat} {v : Value} {l : List Pt} (h : OwnP w B v l) (hb : Below w.heap.size w w') : OwnP w' B v l := owns_keep h fun g hg => hb.block g (World.ownsRow.lt h g hg).2
theorem OwnP.nil (w : World) (B : Nat) : OwnP w B (.slice none 0 0) [] := World.ownsRow_nil _ _ _ _
theorem OwnP.grown {w w' : World} {B : Nat} {v : Value} {l : List Pt} {a : World} (h : OwnP w B v l) (hg : w.grownBy w' v.ownBlock) (ha : Below B a w) (hB : B ≤ a.heap.size) : Below B a w' :=
  Below.grown ha hg (Nat.le_trans hB ha.size) (fun g hv => (World.ownsRow.lt h g hv).1)
theorem OwnP.base {w : World} {B B' : Nat} {v : Value} {l : List Pt} (h : OwnP w B v l) (hB : B' ≤ B) : OwnP w B' v l := by
  obtain ⟨h1, h2 | ⟨g, cap, cur, hv, hg, r⟩⟩ := h
  · exact ⟨h1, .inl h2⟩
  · exact ⟨h1, .inr ⟨g, cap, cur, hv, Nat.le_trans hB hg, r⟩⟩
theorem newP (w : World) (n : Nat) (x y : ByteArray) (t : TypeId) : (w.alloc (.cells #[.int .u32 (n : Int), .string x, .string y] t)).cell? ⟨w.heap.size, 0, none⟩ = some (.int .u32 (n : Int)) ∧ (w.alloc (.cells #[.int .u32 (n : Int), .string x, .string y] t)).cell? ⟨w.heap.size, 1, none⟩ = some (.string x) ∧ (w.alloc (.cells #[.int .u32 (n : Int), .string x, .string y] t)).cell? ⟨w.heap.size, 2, none⟩ = some (.string y) := by
  have h := World.alloc_heap_new w (.cells #[.int .u32 (n : Int), .string x, .string y] t)
  exact ⟨by simp only [World.cell?, h]; rfl, by simp only [World.cell?, h]; rfl, by simp only [World.cell?, h]; rfl⟩
theorem append_P {w : World} {ops : Array Oper} {rest : List Oper} {o : Oper} {a : Act} {Q : Exit → Act → World → Prop} (hg : o.guard = none) (s x : Operand)
    (hop : o.op = Op.call { callee := Callee.builtin Builtin.append, args := #[s, x], argTypes := #[70, 70] }) {B : Nat} {v : Value} {l : List Pt} (e : Pt) (hs : a.eval s = v) (hown : OwnP w B v l)
    {g : Nat} (hx : a.eval x = .slice (some ⟨g, 0, none⟩) 1 1) (c : w.cell? ⟨g, 0, none⟩ = some (.int .u32 (e.1 : Int)) ∧ w.cell? ⟨g, 1, none⟩ = some (.string e.2.1) ∧ w.cell? ⟨g, 2, none⟩ = some (.string e.2.2)) (hl : (l.length + 1) * 64 ≤ 140737488355328) (hB : B ≤ w.heap.size)
    (hK : ∀ v' w', OwnP w' B v' (l ++ [e]) → w.grownBy w' v.ownBlock → wpList Tryz.prog ops Q rest (a.put o.dst v') w') : wpList Tryz.prog ops Q (o :: rest) a w := by
  obtain ⟨i0, hi, hz0, hz1, hz2⟩ := info_ofR infoPt
  refine wpList_append_own _ hg s x 70 hop B 129 i0 _ 3 40 Tryz.underlying70 hi hz0 hz1 hz2 rfl (by decide) v l.length (flatP l) hs hown ⟨g, 0, none⟩ 1 1 (cellsP e) hx rfl ?_ ?_ (by unfold maxLen; omega) (by omega) hB ?_
  · intro j u hj
    match j, hj with
    | 0, hj => simp [cellsP] at hj; subst hj; exact c.1
    | 1, hj => simp [cellsP] at hj; subst hj; exact c.2.1
    | 2, hj => simp [cellsP] at hj; subst hj; exact c.2.2
    | j + 3, hj => simp [cellsP] at hj
  · intro u hu; simp [cellsP] at hu; rcases hu with rfl | rfl | rfl <;> rfl
  · intro v' w' ho hgr _
    refine hK v' w' ?_ hgr
    show w'.ownsRow B _ 3 v' (l ++ [e]).length (flatP (l ++ [e]))
    rw [flatP_snoc, List.length_append]
    exact ho
theorem ownP_slice {w : World} {B : Nat} {v : Value} {l : List Pt} (h : OwnP w B v l) : ∃ a c, v = .slice a l.length c := by
  rcases h.2 with ⟨hv, h0⟩ | ⟨g, cap, cur, hv, _⟩
  · exact ⟨none, 0, by rw [hv, h0]⟩
  · exact ⟨_, _, hv⟩

theorem newSp (w : World) (x y : ByteArray) (t : TypeId) : (w.alloc (.cells #[.string x, .string y] t)).cell? ⟨w.heap.size, 0, none⟩ = some (.string x) ∧ (w.alloc (.cells #[.string x, .string y] t)).cell? ⟨w.heap.size, 1, none⟩ = some (.string y) ∧ ∀ o, (w.alloc (.cells #[.string x, .string y] t)).frozen? ⟨w.heap.size, o, none⟩ = false := by
  refine ⟨by simp [go_sem], by simp [go_sem], fun o => by simp [go_sem]⟩
/-- what a new span's box holds behind a call -/
theorem newSp_later {w w1 : World} {x y : ByteArray} {t : TypeId} (hb : Below (w.alloc (.cells #[.string x, .string y] t)).heap.size (w.alloc (.cells #[.string x, .string y] t)) w1) : (w1.cell? ⟨w.heap.size, 0, none⟩ = some (.string x) ∧ w1.cell? ⟨w.heap.size, 1, none⟩ = some (.string y) ∧ ∀ o, w1.frozen? ⟨w.heap.size, o, none⟩ = false) ∧ w.heap.size < w1.heap.size := by
  obtain ⟨h1, h2, h3⟩ := newSp w x y t
  have hz := hb.size
  rw [World.size_alloc] at hz
  exact ⟨⟨cell_later hb h1, cell_later hb h2, fun o => (hb.frozen (p := ⟨w.heap.size, o, none⟩) (by rw [World.size_alloc]; exact Nat.lt_succ_self _)).trans (h3 o)⟩, by omega⟩
theorem newSp_drew {w w1 : World} {x y : ByteArray} {t : TypeId} (hb : Below (w.alloc (.cells #[.string x, .string y] t)).drew.heap.size (w.alloc (.cells #[.string x, .string y] t)).drew w1) : (w1.cell? ⟨w.heap.size, 0, none⟩ = some (.string x) ∧ w1.cell? ⟨w.heap.size, 1, none⟩ = some (.string y) ∧ ∀ o, w1.frozen? ⟨w.heap.size, o, none⟩ = false) ∧ w.heap.size < w1.heap.size :=
  newSp_later ⟨hb.os, hb.tape, hb.output, hb.size, hb.block⟩
theorem cells_on {w w1 : World} {g : Nat} {x y : ByteArray} (h : (w.cell? ⟨g, 0, none⟩ = some (.string x) ∧ w.cell? ⟨g, 1, none⟩ = some (.string y) ∧ ∀ o, w.frozen? ⟨g, o, none⟩ = false) ∧ g < w.heap.size) (hb : Below w.heap.size w w1) : (w1.cell? ⟨g, 0, none⟩ = some (.string x) ∧ w1.cell? ⟨g, 1, none⟩ = some (.string y) ∧ ∀ o, w1.frozen? ⟨g, o, none⟩ = false) ∧ g < w1.heap.size :=
  ⟨⟨cell_later hb h.1.1, cell_later hb h.1.2.1, fun o => (hb.frozen (p := ⟨g, o, none⟩) h.2).trans (h.1.2.2 o)⟩, Nat.lt_of_lt_of_le h.2 hb.size⟩

theorem cutN_succ (ss : List ByteArray) (s : T2) (n : Nat) : cutN ss s (n + 1) = cutN ss s n ++ if (commA (reachN ss n) s).2 then [(n, (commA (reachN ss n) s).1)] else [] := by
  rw [cutN, commA]
  cases comm (reachN ss n) s <;> rfl

set_option maxHeartbeats 4000000 in
theorem cut_is {c : Cf} {w : World} (h : c.Ok w) (hl : c.ss.length ≤ 5) (hsh : c.sh = c.ss.length + 1) (s : T2) :
    Calls Tryz.prog 78 #[c.val, spv s] w fun e w' => ∃ v, e = .returned v ∧ OwnP w' w.heap.size v (cutL c.ss s) ∧ Below w.heap.size w w' := by
  obtain ⟨lo, hi⟩ := s
  obtain ⟨w0, hw0⟩ : ∃ w0, w0 = (w.alloc (.cells #[.int .i64 c.sh, .int .i64 c.cl, .slice c.a c.ss.length c.cp, .int .i64 c.ca, .int .i64 c.pk, .int .u64 c.wi] 26)).alloc (.cells #[.string lo, .string hi] 49) := ⟨_, rfl⟩
  have hb0 : Below w.heap.size w w0 := by rw [hw0]; (repeat (first | exact Below.refl _ _ | assumption | refine Below.drew ?_ | refine Below.al ?_ _ | refine Below.setCell ?_ (by first | exact Nat.le_refl _ | (simp; omega) | (simp; done)) _ | refine Below.on ?_ (by assumption)))
  have HC : Hid (BoxC w0 w.heap.size c) := hid (by rw [hw0]; exact (BoxC.new w c _).later (Below.al (Below.refl _ _) _))
  have HS : Hid (w0.cell? ⟨w.heap.size + 1, 0, none⟩ = some (.string lo) ∧ w0.cell? ⟨w.heap.size + 1, 1, none⟩ = some (.string hi)) := hid (by rw [hw0]; constructor <;> simp [go_sem])
  have H := hid (h.later hb0)
  have HB0 := hid hb0
  have hz0 := hb0.size
  obtain ⟨N, hN⟩ : ∃ N, N = c.ss.length + 1 := ⟨_, rfl⟩
  have HSH : Hid (c.sh = (N : Int)) := hid (by rw [hsh, hN]; simp)
  have HN := hid hN
  have hN6 : N ≤ 6 := by omega
  clear h hb0 hsh hN
  go_enter Tryz.func78, Tryz.ntmps78
  go_wp2_with fail
  rw [← hw0]
  clear hw0
  rw [HSH.out]
  go_loopg [5, 11] N (fun g s5 s11 wr => ∃ n : Nat, n ≤ N ∧ g = N - n ∧ s11 = .int .i64 n ∧ Hid (OwnP wr w0.heap.size s5 (cutN c.ss (lo, hi) n)) ∧ Hid (Below w0.heap.size w0 wr))
  case atStart => exact ⟨0, by omega, by omega, rfl, hid (OwnP.nil _ _), hid (Below.refl _ _)⟩
  case round =>
    obtain ⟨n, hn, rfl, rfl, HO, HW⟩ := hrel
    obtain ⟨v5, hv5⟩ : ∃ v5, v5 = u5 := ⟨_, rfl⟩
    rw [← hv5] at HO
    rw [← hv5]
    clear hv5
    by_cases hlt : n < N
    · obtain ⟨c0, c1, c2, c3, c4, c5⟩ := HC.out.later HW.out
      have s0 := cell_later HW.out HS.out.1
      have s1 := cell_later HW.out HS.out.2
      obtain ⟨t, hb⟩ : ∃ t, t = commA (reachN c.ss n) (lo, hi) := ⟨_, rfl⟩
      obtain ⟨⟨tl, th⟩, tb⟩ := t
      have HT : Hid (cutN c.ss (lo, hi) (n + 1) = cutN c.ss (lo, hi) n ++ if tb then [(n, (tl, th))] else []) := hid (by rw [cutN_succ, ← hb])
      have hcl := cut_len c.ss (lo, hi) n
      obtain ⟨r, hr⟩ : ∃ r, r = reachN c.ss n := ⟨_, rfl⟩
      obtain ⟨rl, rh⟩ := r
      have HR : Hid (∀ W, Below wr.heap.size wr W → Calls Tryz.prog 104 #[c.val, .int .i64 (n : Int)] W fun e w' => e = .returned (spv (rl, rh)) ∧ Below W.heap.size W w') := hid (fun W hW => by rw [hr]; exact reach_is (H.out.later (Below.on HW.out hW)) hl (by have := HN.out; omega))
      have HM : Hid (∀ W, Calls Tryz.prog 103 #[spv (rl, rh), spv (lo, hi)] W fun e w' => e = .returned (.tuple #[spv (tl, th), .bool tb]) ∧ Below W.heap.size W w') := hid (fun W => by
        have := common_is (rl, rh) (lo, hi) W
        have e : commA (rl, rh) (lo, hi) = ((tl, th), tb) := by rw [hr, hb]
        rw [e] at this
        exact this)
      clear hb hr
      go_wp2_with fail
      go_cut [7, 8] (fun s7 s8 wx => ∃ q : Nat, s7 = .pointer (some ⟨q, 0, none⟩) ∧ s8 = .bool tb ∧ wx.cell? ⟨q, 0, none⟩ = some (.string tl) ∧ wx.cell? ⟨q, 1, none⟩ = some (.string th) ∧ Below wr.heap.size wr wx)
      case first =>
        go_region_held3 (fun w' => w'.cell? ⟨w.heap.size, 0, none⟩ = some (.int .i64 c.sh) ∧ w'.cell? ⟨w.heap.size, 1, none⟩ = some (.int .i64 c.cl) ∧ w'.cell? ⟨w.heap.size, 2, none⟩ = some (.slice c.a c.ss.length c.cp) ∧ w'.cell? ⟨w.heap.size, 3, none⟩ = some (.int .i64 c.ca) ∧ w'.cell? ⟨w.heap.size, 4, none⟩ = some (.int .i64 c.pk) ∧ w'.cell? ⟨w.heap.size, 5, none⟩ = some (.int .u64 c.wi) ∧ w'.cell? ⟨w.heap.size + 1, 0, none⟩ = some (.string lo) ∧ w'.cell? ⟨w.heap.size + 1, 1, none⟩ = some (.string hi) ∧ Below wr.heap.size wr w')
          ((refine (fun (hB : Below wr.heap.size wr _) => ⟨cell_later hB c0, cell_later hB c1, cell_later hB c2, cell_later hB c3, cell_later hB c4, cell_later hB c5, cell_later hB s0, cell_later hB s1, hB⟩) ?_; (repeat (first | with_reducible exact Below.refl _ _ | with_reducible assumption | with_reducible refine Below.drew ?_ | with_reducible refine Below.al ?_ _ | with_reducible refine Below.setCell ?_ (by first | exact Nat.le_refl _ | (have hz := HZ1.out; simp at hz ⊢; omega) | (simp; omega) | (simp; done)) _ | with_reducible refine Below.on ?_ (by assumption)))))
          (first | (go_at_call 104; refine (HR.out _ (by (repeat (first | with_reducible exact Below.refl _ _ | with_reducible assumption | with_reducible refine Below.drew ?_ | with_reducible refine Below.al ?_ _ | with_reducible refine Below.setCell ?_ (by first | exact Nat.le_refl _ | (simp; omega) | (simp; done)) _ | with_reducible refine Below.on ?_ (by assumption))))).mono ?_; rintro e w1 ⟨rfl, hb1⟩; have HZ1 := hid hb1.size; try (have HG := hid (newSp_drew (w := wr) hb1))) | (go_at_call 103; refine (HM.out _).mono ?_; rintro e w2 ⟨rfl, hb2⟩; have hz2 := hb2.size; first | (have hG := cells_on HG.out hb2; obtain ⟨⟨g0, g1, g2⟩, g3⟩ := hG) | (obtain ⟨hc2, hf2⟩ := bcell hb2)))
        all_goals (try go_wp2_with fail)
        all_goals go_meet
        all_goals (have hz1 := HZ1.out; simp only [World.size_drew, World.size_alloc] at hz1)
        all_goals (refine ⟨_, rfl, rfl, ?_, ?_, ?_⟩)
        all_goals (first | (simp [go_sem, hc2]; done) | (simp [go_sem, g0, g1]; done) | (repeat (first | exact Below.refl _ _ | assumption | refine Below.drew ?_ | refine Below.al ?_ _ | refine Below.setCell ?_ (by first | exact Nat.le_refl _ | (simp; omega) | (simp; done)) _ | refine Below.on ?_ (by assumption))))
      case rest =>
        obtain ⟨q, rfl, rfl, q0, q1, hbx⟩ := hcut
        have HBX := hid hbx
        have HOX := hid (HO.out.later hbx)
        have HWX := hid (Below.on HW.out hbx)
        clear hbx c0 c1 c2 c3 c4 c5 s0 s1 HR HM HO
        cases tb
        · go_wp2_with fail
          go_roundg (N - (n + 1))
          case measure => omega
          case rel => exact ⟨n + 1, by omega, rfl, by go_num, hid (by rw [HT.out]; simpa using HOX.out), HWX⟩
        · have hL1 : Hid (((cutN c.ss (lo, hi) n).length + 1) * 64 ≤ 140737488355328) := hid (by omega)
          go_wp2_with (at_builtin; refine append_P rfl _ _ rfl (n, (tl, th)) rfl (HOX.out.later (Below.al (Below.refl _ _) _)) rfl (newP _ _ _ _ _) hL1.out (by have := HWX.out.size; simp at this ⊢; omega) ?_; intro v6 w6 ho6 hg6; have ho6 := hid ho6; have hb6 := hid (OwnP.grown (HOX.out.later (Below.al (Below.refl _ _) (.cells #[.int .u32 (n : Int), .string tl, .string th] 129))) hg6 (Below.al HWX.out _) (Nat.le_refl _)); clear hg6)
          go_roundg (N - (n + 1))
          case measure => omega
          case rel => exact ⟨n + 1, by omega, rfl, by go_num, hid (by rw [HT.out]; simpa using ho6.out), hb6⟩
    · obtain rfl : n = N := by omega
      go_wp2_with fail
      go_ret
      exact ⟨_, rfl, by rw [cutL, ← HN.out]; exact HO.out.base hz0, Below.on HB0.out HW.out⟩

end Go.Proofs.YthenfioddnkjbaaGreatDoor.Rt
