import Derived.Test.YtmhpakbkmddfeabIFoldS
namespace Go.Proofs.Ytmhpakbkmddfeab
open Go.RowKit Go.Sort
set_option linter.unusedVariables false

abbrev firstT : ByteArray := ⟨#[102, 105, 114, 115, 116]⟩
/-- an entry, in a block -/
def EnAt (w : World) (b : Nat) (k : ByteArray) (v : Int) : Prop := w.heap[b]? = some (.cells #[.string k, .int .i64 v] 41 (0, 0))
theorem EnAt.lt {w : World} {b : Nat} {k : ByteArray} {v : Int} (h : EnAt w b k v) : b < w.heap.size := (Array.getElem?_eq_some_iff.1 h).1
theorem EnAt.c0 {w : World} {b : Nat} {k : ByteArray} {v : Int} (h : EnAt w b k v) : w.cell? ⟨b, 0, none⟩ = some (.string k) := cell_of_obj h rfl
theorem EnAt.c1 {w : World} {b : Nat} {k : ByteArray} {v : Int} (h : EnAt w b k v) : w.cell? ⟨b, 1, none⟩ = some (.int .i64 v) := cell_of_obj h rfl
theorem EnAt.f {w : World} {b : Nat} {k : ByteArray} {v : Int} (h : EnAt w b k v) (j : Nat) : w.frozen? ⟨b, j, none⟩ = false := by simp only [World.frozen?, show w.heap[b]? = _ from h]; rfl
theorem EnAt.later {w w' : World} {b : Nat} {k : ByteArray} {v : Int} (h : EnAt w b k v) (hb : Below w.heap.size w w') : EnAt w' b k v := (hb.block b h.lt).trans h
theorem EnAt.s0 {w : World} {b : Nat} {k : ByteArray} {v : Int} (h : EnAt w b k v) (u : ByteArray) : EnAt (w.setCell ⟨b, 0, none⟩ (.string u)) b u v := heap_setCell_same w b 0 _ _ _ h
theorem EnAt.s1 {w : World} {b : Nat} {k : ByteArray} {v : Int} (h : EnAt w b k v) (u : Int) : EnAt (w.setCell ⟨b, 1, none⟩ (.int .i64 u)) b k u := heap_setCell_same w b 1 _ _ _ h
theorem nthE_succ (x : En) (E : List En) (i : Nat) : nthE (x :: E) (i + 1) = nthE E i := rfl
theorem nthE_zero (x : En) (E : List En) : nthE (x :: E) 0 = x := rfl
/-- a list of one entry, written out -/
theorem own_lit {w : World} {B : Nat} (k : ByteArray) (v : Int) (hB : B ≤ w.heap.size) : OwnE (w.alloc (.cells #[.string k, .int .i64 v] 41)) B (.slice (some ⟨w.heap.size, 0, none⟩) 1 1) [(k, v)] :=
  World.ownsRow_lit w #[.string k, .int .i64 v] 1 hB (by unfold maxLen; omega) rfl
theorem foldG_one {w : World} {x B blk : Nat} {k : ByteArray} {v : Int} {l E : List En} {T : Nat} (h : Xi w x l) (ho : OwnE w B (.slice (some ⟨blk, 0, none⟩) 1 1) [(k, v)]) (lo hi : ByteArray) (hE : rangeX l lo hi = E) (hT : E.length = T) (hl : (l.length + 3) * 64 ≤ 140737488355328) (hB : B ≤ w.heap.size) :
    Calls Try.prog 21 #[pt x, .agg #[.string lo, .string hi], .slice (some ⟨blk, 0, none⟩) 1 1, fnv 22] w fun e w' => ∃ ga gc, e = .returned (.slice ga (T + 1) gc) ∧ Hid (OwnE w' B (.slice ga (T + 1) gc) ((k, v) :: E)) ∧ Below B w w' := by
  refine (foldG_is h ho lo hi (Nat.le_trans (Nat.mul_le_mul_right 64 (Nat.le_of_eq rfl)) hl) hB).mono ?_
  rintro e w' ⟨v', he, ho', hb'⟩
  rw [hE] at ho'
  obtain ⟨ga, gc, rfl⟩ : ∃ ga gc, v' = .slice ga (T + 1) gc := by
    have h2 := ho'; unfold OwnE at h2; rw [show ([(k, v)] ++ E).length = T + 1 from by rw [← hT]; rfl] at h2
    exact owns_slice h2
  exact ⟨ga, gc, he, ho', hb'⟩
theorem foldS_one {w : World} {x B blk : Nat} {k : ByteArray} {v : Int} {l E : List En} {T : Nat} (h : Xi w x l) (ho : OwnE w B (.slice (some ⟨blk, 0, none⟩) 1 1) [(k, v)]) (lo hi : ByteArray) (hE : rangeX l lo hi = E) (hT : E.length = T) (hl : (l.length + 3) * 64 ≤ 140737488355328) (hl3 : (l.length + l.length + l.length + 3) * 64 ≤ 140737488355328) (hB : B ≤ w.heap.size) (hks : ∀ e ∈ E, e.1.size + 1 ≤ 9223372036854775807) :
    Calls Try.prog 18 #[pt x, .agg #[.string lo, .string hi], .agg #[pt x, .slice (some ⟨blk, 0, none⟩) 1 1], fnv 19] w fun e w' => ∃ ga gc, e = .returned (.agg #[pt x, .slice ga (T + 1) gc]) ∧ Hid (OwnE w' B (.slice ga (T + 1) gc) ((k, v) :: E)) ∧ Hid (Xi w' x (E.foldl stirX l)) ∧ Onl (fun b => b = x ∨ B ≤ b) w w' := by
  subst hE
  refine (foldS_is h ho lo hi (Nat.le_trans (Nat.mul_le_mul_right 64 (Nat.le_of_eq rfl)) hl) hl3 hB hks).mono ?_
  rintro e w' ⟨v', he, ho', hx', hb'⟩
  obtain ⟨ga, gc, rfl⟩ : ∃ ga gc, v' = .slice ga (T + 1) gc := by
    have h2 := ho'; unfold OwnE at h2; rw [show ([(k, v)] ++ rangeX l lo hi).length = T + 1 from by rw [← hT]; rfl] at h2
    exact owns_slice h2
  exact ⟨ga, gc, he, ho', hx', hb'⟩
theorem own_ne_ri {w : World} {B d n c : Nat} {a : Option Addr} {v : Value} {E : List En} {log : List Ch} (h : OwnE w B (.slice a n c) E) (k : Ri w d v log) {g : Nat} (hg : OwnB (.slice a n c) g) : ¬ Ri.has d v g := by
  have h' := h
  obtain ⟨hl, ⟨he, _⟩ | ⟨g', cap, cur, he, _, hgb, _⟩⟩ := h'
  · cases he; simp [OwnB, Value.ownBlock] at hg
  · cases he
    have e2 : g' = g := by simpa [OwnB, Value.ownBlock] using hg
    subst e2
    rintro (e | e)
    · subst e
      have h1 := hgb.symm.trans k.box
      simp at h1
    · obtain ⟨hl2, ⟨rfl, _⟩ | ⟨g2, cap2, cur2, rfl, _, hgb2, _⟩⟩ := k.own
      · simp [Value.ownBlock] at e
      · have e3 : g2 = g' := by simpa [Value.ownBlock] using e
        subst e3
        rw [hgb] at hgb2
        simp at hgb2
theorem kp_x {w w' : World} {x : Nat} {l : List En} (h : Xi w x l) (ho : Onl (fun b => b = x ∨ w.heap.size ≤ b) w w') : Kp w w' := by
  obtain ⟨u, hb⟩ := h.box
  refine Kp.of_onl ho fun b cs t z hf hob ht => ?_
  rcases hf with hf | hf
  · rw [hf, show w.heap[x]? = _ from hb] at hob; cases hob; exact not_ixt (by rfl) ht
  · have := (Array.getElem?_eq_some_iff.1 hob).1; omega
theorem field_stirred (p : Value) (a : Option Addr) (n c : Nat) (w : World) : (Instr.field 48 (.agg #[p, .slice a n c]) 1).run Try.prog w = .ok (.slice a n c) w := by kernel_rfl
/-- the document's index is brought along -/
structure Sti (wc wr : World) (d : Nat) (v vi : Value) (l : List Ch) : Prop where
  ri : Ri wr d vi l
  onl : Onl (Ri.has d v) wc wr
  own : ∀ g, vi.ownBlock = some g → v.ownBlock = some g ∨ wc.heap.size ≤ g
  kp : Kp wc wr
theorem Sti.step {wc wr w' : World} {d : Nat} {v vi v' : Value} {l l' : List Ch} (h : Sti wc wr d v vi l) (hr : Ri w' d v' l') (ho : Onl (Ri.has d vi) wr w') (hv : ∀ g, v'.ownBlock = some g → vi.ownBlock = some g ∨ wr.heap.size ≤ g) : Sti wc w' d v v' l' := by
  refine ⟨hr, h.onl.fresh ho (fun i hi => ?_), fun g hg => ?_, h.kp.trans (h.ri.kp ho)⟩
  · rcases hi with hi | hi
    · exact .inl (.inl hi)
    · exact (h.own i hi).imp (fun e => .inr e) id
  · rcases hv g hg with e | e
    · exact h.own g e
    · exact .inr (Nat.le_trans h.onl.size e)
theorem Sti.later {wc wr w' : World} {d : Nat} {v vi : Value} {l : List Ch} (h : Sti wc wr d v vi l) (hb : Below wr.heap.size wr w') : Sti wc w' d v vi l := ⟨h.ri.later hb, h.onl.on hb, h.own, h.kp.trans (Kp.of_below hb)⟩
theorem Moved.later {L o x d x' d' : Nat} {v v' : Value} {w w' w2 : World} (m : Moved L o x d v x' d' v' w w') (hL : L < w'.heap.size) (hb : Below w'.heap.size w' w2) : Moved L o x d v x' d' v' w w2 :=
  ⟨m.onl.on hb, m.kp.trans (Kp.of_below hb), m.foot, fun j h1 h2 => (World.cell?_of_block (a := ⟨L, j, none⟩) (hb.block L hL)).trans (m.rest j h1 h2)⟩
theorem sti_del {wc W : World} {d : Nat} {v vi : Value} {l : List Ch} (h : Sti wc W d v vi l) (k : ByteArray) (hl : (l.length + 2) * 64 ≤ 140737488355328) :
    Calls Try.prog 15 #[.pointer (some ⟨d, 0, none⟩), .string k] W fun e w' => ∃ (u : Bool) (v' : Value), e = .returned (.bool u) ∧ Hid (Sti wc w' d v v' (l ++ [⟨k, 0, true⟩])) ∧ Onl (Ri.has d v) wc w' :=
  (refdel_is h.ri k hl).mono fun e w' ⟨v', he, hr, ho, hv⟩ => ⟨_, v', he, h.step hr ho hv, (h.step hr ho hv).onl⟩
theorem sti_set {wc W : World} {d : Nat} {v vi : Value} {l : List Ch} (h : Sti wc W d v vi l) (k : ByteArray) (n : Int) (hl : (l.length + 2) * 64 ≤ 140737488355328) :
    Calls Try.prog 13 #[.pointer (some ⟨d, 0, none⟩), .string k, .int .i64 n] W fun e w' => ∃ (u : Bool) (v' : Value), e = .returned (.bool u) ∧ Hid (Sti wc w' d v v' (l ++ [⟨k, n, false⟩])) ∧ Onl (Ri.has d v) wc w' :=
  (refset_is h.ri k n hl).mono fun e w' ⟨v', he, hr, ho, hv⟩ => ⟨_, v', he, h.step hr ho hv, (h.step hr ho hv).onl⟩
theorem sti_top {wc W : World} {d : Nat} {v vi : Value} {l : List Ch} (h : Sti wc W d v vi l) (hl : (ixL l).length ≤ 9223372036854775806) :
    Calls Try.prog 20 #[.pointer (some ⟨d, 0, none⟩), .string ⟨#[255, 255, 255, 255]⟩] W fun e w' => e = .returned (firV (topX (ixL l))) ∧ Hid (Sti wc w' d v vi l) ∧ Onl (Ri.has d v) wc w' :=
  (reffloor_is h.ri hiT hl).mono fun e w' ⟨he, hb⟩ => ⟨he, h.later hb, (h.later hb).onl⟩
theorem stirC_none {log : List Ch} {y : En} (h : topX (ixL (log ++ [⟨y.1, 0, true⟩] ++ [⟨zb y.1, y.2, false⟩])) = none) : stirC log y = log ++ [⟨y.1, 0, true⟩] ++ [⟨zb y.1, y.2, false⟩] := by unfold stirC; rw [h]; rfl
theorem stirC_some {log : List Ch} {y z : En} (h : topX (ixL (log ++ [⟨y.1, 0, true⟩] ++ [⟨zb y.1, y.2, false⟩])) = some z) : stirC log y = log ++ [⟨y.1, 0, true⟩] ++ [⟨zb y.1, y.2, false⟩] ++ [⟨z.1, -1, false⟩] := by unfold stirC; rw [h]; rfl
theorem take_stir {E : List En} {i : Nat} {y : En} (hi : i < E.length) (hy : y = nthE E i) (log : List Ch) : (E.take (i + 1)).foldl stirC log = stirC ((E.take i).foldl stirC log) y := by
  rw [nthE_take hi, List.foldl_append, hy]; rfl
theorem take_room {E : List En} {i : Nat} (hi : i < E.length) (hE : E.length ≤ 300000) {log : List Ch} (hl : (log.length + 900002) * 64 ≤ 140737488355328) : (((E.take i).foldl stirC log).length + 5) * 64 ≤ 140737488355328 := by
  have h1 := stirC_len_all (E.take i) log
  have h2 : (E.take i).length ≤ i := List.length_take_le i E
  have h3 : ((E.take i).foldl stirC log).length + 5 ≤ log.length + 900002 := by omega
  exact Nat.le_trans (Nat.mul_le_mul_right 64 h3) hl
theorem nthE_in {E : List En} {i : Nat} (hi : i < E.length) : nthE E i ∈ E := by
  rw [nthE, List.getElem?_eq_getElem hi]; exact List.getElem_mem hi
theorem room_of {a b : Nat} (h : a ≤ b) (hb : b * 64 ≤ 140737488355328) : a * 64 ≤ 140737488355328 := Nat.le_trans (Nat.mul_le_mul_right 64 h) hb
theorem room_ix {l : List Ch} (h : (l.length + 3) * 64 ≤ 140737488355328) : (ixL l).length ≤ 9223372036854775806 := by
  have h1 := ixL_len l
  have h2 : l.length + 3 ≤ 140737488355328 := Nat.le_trans (Nat.le_mul_of_pos_right _ (by decide)) h
  omega
/-- both have changed alike -/
theorem folded_end {w w1 w3 wc wd : World} {B L o x d : Nat} {v vd : Value} {log log' : List Ch} (hL : LT w L) (hp : PairAt w B L o x d v log) (hB : B ≤ w.heap.size) (hb1 : Below w.heap.size w w1) (hb3 : Below w1.heap.size w1 w3)
    (ho : Onl (fun b => b = x ∨ w3.heap.size ≤ b) w3 wc) (hx : Xi wc x (ixL log')) (hs : Sti wc wd d v vd log') : LT wd L ∧ PairAt wd B L o x d vd log' ∧ Moved L o x d v x d vd w wd := by
  have hb := Below.on hb1 hb3
  have hs3 := hb.size
  have hLl := hL.lt
  have hxl := hp.xi.lt
  have hxd : ¬ Ri.has d v x := hp.xi.ne_ri hp.ri
  have hnF := LT.not_foot hL hp
  have oF : Onl (fun k => Foot x d v k ∨ k = L) w wd := by
    refine Onl.fresh (Onl.fresh (Onl.of_below hb) ho (fun i hi => ?_)) hs.onl (fun i hi => .inl (.inl (.inr hi)))
    rcases hi with rfl | hi
    · exact .inl (.inl (.inl rfl))
    · exact .inr (by omega)
  have hLd : wd.heap[L]? = w.heap[L]? := by
    refine (hs.onl.block L (Nat.lt_of_lt_of_le hLl (Nat.le_trans hs3 ho.size)) (fun e => hnF (.inr e))).trans ((ho.block L (by omega) ?_).trans (hb.block L hLl))
    rintro (e | e)
    · exact hnF (.inl e)
    · omega
  have kp : Kp w wd := ((Kp.of_below hb).trans (kp_x (hp.xi.later hb) ho)).trans hs.kp
  refine ⟨hL.keep hLd, ⟨(World.cell?_of_block (a := ⟨L, o, none⟩) hLd).trans hp.cx, (World.cell?_of_block (a := ⟨L, o + 1, none⟩) hLd).trans hp.cd, hx.keep hs.kp (hs.onl.block x hx.lt hxd), hs.ri, fun k hk => ?_⟩, ⟨oF, kp, fun k hk => ?_, fun j _ _ => World.cell?_of_block (a := ⟨L, j, none⟩) hLd⟩⟩
  · rcases hk with rfl | rfl | hk
    · exact hp.bx _ (.inl rfl)
    · exact hp.bx _ (.inr (.inl rfl))
    · rcases hs.own k hk with e | e
      · exact hp.bx _ (.inr (.inr e))
      · have := ho.size; omega
  · rcases hk with rfl | rfl | hk
    · exact .inl (.inl rfl)
    · exact .inl (.inr (.inl rfl))
    · rcases hs.own k hk with e | e
      · exact .inl (.inr (.inr e))
      · exact .inr (by have := ho.size; omega)
/-- where it lay is still there -/
theorem own_row {w : World} {B : Nat} {a : Option Addr} {n c : Nat} {E : List En} (h : OwnE w B (.slice a n c) E) : RowE w a E := by
  obtain ⟨a', c', hv, hr⟩ := rowE_of_owns h
  cases hv
  exact hr

set_option maxRecDepth 100000 in
set_option maxHeartbeats 4000000 in
theorem folded_gather {w : World} {B L o x d : Nat} {v : Value} {log : List Ch} {op : Ao} (hst : ¬ 0 < op.st) (hp : PairAt w B L o x d v log) (hl : (log.length + 900002) * 64 ≤ 140737488355328) :
    Calls Try.prog 7 #[.pointer (some ⟨L, o, none⟩), opV op] w fun e w' => e = .returned (.bool true) ∧ Below w.heap.size w w' := by
  obtain ⟨E, hE⟩ : ∃ E, rangeX (ixL log) op.key op.hi = E := ⟨_, rfl⟩
  have hEl : E.length ≤ (ixL log).length := by rw [← hE]; exact List.length_filter_le _ _
  have hll := ixL_len log
  obtain ⟨T, hT⟩ : ∃ T, E.length = T := ⟨_, rfl⟩
  rw [hT] at hEl
  obtain ⟨w1, hw1⟩ : ∃ w1, w1 = (w.alloc (.cells (opC op) 31)).alloc (.cells #[.string firstT, .int .i64 op.v] 41) := ⟨_, rfl⟩
  have hb1 : Below w.heap.size w w1 := by rw [hw1]; exact Below.al (Below.al (Below.refl _ _) _) _
  have hop : OpAt w1 w.heap.size op := by rw [hw1]; exact (Below.heap_alloc _ _ _ (by simp)).trans (op_new w op)
  have hen : EnAt w1 (w.heap.size + 1) firstT op.v := by
    have := World.alloc_heap_new (w.alloc (.cells (opC op) 31)) (.cells #[.string firstT, .int .i64 op.v] 41)
    rw [World.size_alloc] at this; rw [hw1]; exact this
  have r4 : (w.alloc (.cells (opC op) 31)).cell? ⟨w.heap.size, 4, none⟩ = some (.int .i64 op.v) := OpAt.c4 (op_new w op)
  have HEN := hid hen
  clear hen
  have hp1 := hp.later hb1
  have cx := hp1.cx
  have cd := hp1.cd
  have q0 := hop.c0; have q1 := hop.c1; have q2 := hop.c2; have q3 := hop.c3; have q4 := hop.c4; have q5 := hop.c5
  have SP : Hid (∀ W', Calls Try.prog 17 #[opV op] W' fun e w' => e = .returned (.agg #[.string op.key, .string op.hi]) ∧ Below W'.heap.size W' w') := fun W' => span_is W' op
  have EN : Hid (∀ W', Below w1.heap.size w1 W' → Calls Try.prog 16 #[.pointer (some ⟨d, 0, none⟩), .agg #[.string op.key, .string op.hi]] W' fun e w' => ∃ ea ec, e = .returned (.slice ea T ec) ∧ Hid (OwnE w' w1.heap.size (.slice ea T ec) E) ∧ Below W'.heap.size W' w') := fun W' hb =>
    (refentries_is (hp1.ri.later hb) op.key op.hi).mono fun e w' ⟨v', he, ho, hb'⟩ => by
      rw [hE] at ho
      obtain ⟨ea, ec, rfl⟩ : ∃ ea ec, v' = .slice ea T ec := by
        have h2 := ho; unfold OwnE at h2; rw [hT] at h2
        exact owns_slice h2
      exact ⟨ea, ec, he, ho.base hb.size, hb'⟩
  have hst' : decide (0 < op.st) = false := decide_eq_false hst
  have HBW := hid hb1
  have HE := hid hE
  have HT := hid hT
  have hl1 : (ixL log).length + 3 ≤ log.length + 900002 := by omega
  have HL := hid (Nat.le_trans (Nat.mul_le_mul_right 64 hl1) hl)
  have hl2 : T + 3 ≤ log.length + 900002 := by omega
  have hl4 := Nat.le_trans (Nat.mul_le_mul_right 64 hl2) hl
  have HT2 : Hid (T + 3 ≤ 140737488355328) := Nat.le_trans (Nat.le_mul_of_pos_right _ (by decide)) hl4
  clear hp hl hst hEl hll hb1 hop hE hT hl1 hl2 hl4
  go_enter Try.func7, Try.ntmps7
  go_wp2_with fail
  rw [← hw1]
  clear hw1 r4
  go_region_held3 (fun w' => w'.cell? ⟨L, o + 1, none⟩ = some (.pointer (some ⟨d, 0, none⟩)) ∧ w'.cell? ⟨w.heap.size, 0, none⟩ = some (.int .i64 op.k) ∧ w'.cell? ⟨w.heap.size, 1, none⟩ = some (.int .i64 op.pl) ∧ w'.cell? ⟨w.heap.size, 2, none⟩ = some (.string op.key) ∧ w'.cell? ⟨w.heap.size, 3, none⟩ = some (.string op.hi) ∧ w'.cell? ⟨w.heap.size, 4, none⟩ = some (.int .i64 op.v) ∧ w'.cell? ⟨w.heap.size, 5, none⟩ = some (.int .i64 op.st) ∧ Below w1.heap.size w1 w')
    ((refine (fun (hB : Below w1.heap.size w1 _) => ⟨cell_later hB cd, cell_later hB q0, cell_later hB q1, cell_later hB q2, cell_later hB q3, cell_later hB q4, cell_later hB q5, hB⟩) ?_; (repeat (first | exact Below.refl _ _ | assumption | refine Below.drew ?_ | refine Below.al ?_ _ | refine Below.setCell ?_ (by first | exact Nat.le_refl _ | (simp; omega) | (simp; done)) _ | refine Below.on ?_ (by assumption)))))
    (first
      | (go_at_call 17; refine (SP.out _).mono ?_; rintro e w2 ⟨rfl, hc2⟩)
      | (go_at_call 16; refine (EN.out _ ?_).mono ?_; ((repeat (first | exact Below.refl _ _ | assumption | refine Below.drew ?_ | refine Below.al ?_ _ | refine Below.setCell ?_ (by first | exact Nat.le_refl _ | (simp; omega) | (simp; done)) _ | refine Below.on ?_ (by assumption)))); rintro e w3 ⟨ea, ec, rfl, ho3, hc3⟩))
  have hb3 : Below w1.heap.size w1 w3 := by (repeat (first | exact Below.refl _ _ | assumption | refine Below.drew ?_ | refine Below.al ?_ _ | refine Below.setCell ?_ (by first | exact Nat.le_refl _ | (simp; omega) | (simp; done)) _ | refine Below.on ?_ (by assumption)))
  have XI3 : Hid (Xi w3 x (ixL log)) := hp1.xi.later hb3
  clear hp1
  have FO : Hid (∀ W' blk, Below w3.heap.size w3 W' → OwnE W' w3.heap.size (.slice (some ⟨blk, 0, none⟩) 1 1) [(firstT, op.v)] → Calls Try.prog 21 #[pt x, .agg #[.string op.key, .string op.hi], .slice (some ⟨blk, 0, none⟩) 1 1, fnv 22] W' fun e w' => ∃ ga gc, e = .returned (.slice ga (T + 1) gc) ∧ Hid (OwnE w' w3.heap.size (.slice ga (T + 1) gc) ((firstT, op.v) :: E)) ∧ Below w3.heap.size w3 w') := fun W' blk hb hr =>
    (foldG_one (XI3.out.later hb) hr op.key op.hi HE.out HT.out HL.out hb.size).mono fun e w' ⟨ga, gc, he, ho, hb'⟩ => ⟨ga, gc, he, ho, hb.trans hb'⟩
  have HEN3 := HEN.out.later hb3
  have m0 := HEN3.c0
  have m1 := HEN3.c1
  have HEN3 := hid HEN3
  have c3 := cell_later hb3 cx
  replace q0 := cell_later hb3 q0; replace q1 := cell_later hb3 q1; replace q2 := cell_later hb3 q2; replace q3 := cell_later hb3 q3; replace q4 := cell_later hb3 q4; replace q5 := cell_later hb3 q5
  have HB3 := hid hb3
  clear hb3 hc2 hc3 cx cd EN HEN
  go_wp2_with fail
  go_cut [7] from 89 to 97 (fun s7 wx => ∃ ga gc, s7 = .slice ga (T + 1) gc ∧ Hid (OwnE wx w3.heap.size (.slice ga (T + 1) gc) ((firstT, op.v) :: E)) ∧ Hid (Below w3.heap.size w3 wx))
  case first =>
    go_region_held3 (fun w' => w'.cell? ⟨L, o, none⟩ = some (.pointer (some ⟨x, 0, none⟩)) ∧ w'.cell? ⟨w.heap.size + 1, 0, none⟩ = some (.string firstT) ∧ w'.cell? ⟨w.heap.size + 1, 1, none⟩ = some (.int .i64 op.v) ∧ w'.cell? ⟨w.heap.size, 0, none⟩ = some (.int .i64 op.k) ∧ w'.cell? ⟨w.heap.size, 1, none⟩ = some (.int .i64 op.pl) ∧ w'.cell? ⟨w.heap.size, 2, none⟩ = some (.string op.key) ∧ w'.cell? ⟨w.heap.size, 3, none⟩ = some (.string op.hi) ∧ w'.cell? ⟨w.heap.size, 4, none⟩ = some (.int .i64 op.v) ∧ w'.cell? ⟨w.heap.size, 5, none⟩ = some (.int .i64 op.st) ∧ Below w3.heap.size w3 w')
      ((refine (fun (hB : Below w3.heap.size w3 _) => ⟨cell_later hB c3, cell_later hB m0, cell_later hB m1, cell_later hB q0, cell_later hB q1, cell_later hB q2, cell_later hB q3, cell_later hB q4, cell_later hB q5, hB⟩) ?_; (repeat (first | exact Below.refl _ _ | assumption | refine Below.drew ?_ | refine Below.al ?_ _ | refine Below.setCell ?_ (by first | exact Nat.le_refl _ | (simp; omega) | (simp; done)) _ | refine Below.on ?_ (by assumption)))))
      (first
        | (go_at_call 17; refine (SP.out _).mono ?_; rintro e w4 ⟨rfl, hc4⟩)
        | (go_at_call 21; refine (FO.out _ _ ?_ ?_).mono ?_; ((repeat (first | exact Below.refl _ _ | assumption | refine Below.drew ?_ | refine Below.al ?_ _ | refine Below.setCell ?_ (by first | exact Nat.le_refl _ | (simp; omega) | (simp; done)) _ | refine Below.on ?_ (by assumption)))); (first | exact own_lit _ _ hc4.size | exact (own_lit _ _ (Nat.le_refl _)).later (Below.on (Below.drew (Below.refl _ _)) hc4)); rintro e w5 ⟨ga, gc, rfl, ho5, hb5⟩; have hb5 := hid hb5))
    all_goals go_wp2_with fail
    all_goals go_meet
    all_goals exact ⟨ga, gc, rfl, ho5, hb5⟩
  case rest =>
    obtain ⟨ga, gc, rfl, HG, HW⟩ := hcut
    have HRE : Hid (RowE wc ea E) := (own_row ho3.out).later HW.out
    have HRG : Hid (RowE wc ga ((firstT, op.v) :: E)) := own_row HG.out
    have hen := HEN3.out.later HW.out
    have n0 := hen.c0
    have n1 := hen.c1
    have HBc : Hid (Below w.heap.size w wc) := Below.on (Below.on HBW.out HB3.out) HW.out
    clear hen HEN3 m0 m1 c3 q0 q1 q2 q3 q4 q5 SP FO XI3 ho3 HG HW HB3 HBW HE HL
    obtain ⟨gb, goff, rfl, g0, g1⟩ := HRG.out 0 (by simp)
    rw [nthE_zero] at g0 g1
    simp only [Nat.zero_mul, Nat.add_zero] at g0 g1
    have hT2 : T + 1 ≤ 9223372036854775807 := by have := HT2.out; omega
    have hwT : IntKind.i64.wrap ((T : Int) + 1) = (T : Int) + 1 := by rw [IntKind.wrap_i64]; omega
    go_wp2_with fail
    go_quiet (fail)
    go_wp2_with fail
    go_loopg [113] T (fun g s113 wr => ∃ i : Nat, i ≤ T ∧ g = T - i ∧ s113 = .int .i64 i ∧ Hid (Below wc.heap.size wc wr))
    case atStart => exact ⟨0, by omega, by omega, rfl, Below.drewN (Below.refl _ _) _⟩
    case round =>
      obtain ⟨i, hi, rfl, rfl, HBt⟩ := hrel
      by_cases hlt : i < T
      · have hil : i < E.length := by have := HT.out; omega
        obtain ⟨eb, eoff, rfl, e0, e1⟩ := HRE.out i hil
        obtain ⟨gb', goff', hgg, f0, f1⟩ := HRG.out (i + 1) (by simpa using hil)
        cases hgg
        rw [nthE_succ] at f0 f1
        replace e0 := cell_later HBt.out e0
        replace e1 := cell_later HBt.out e1
        replace f0 := cell_later HBt.out f0
        replace f1 := cell_later HBt.out f1
        obtain ⟨y, hy⟩ : ∃ y, y = nthE E i := ⟨_, rfl⟩
        rw [← hy] at e0 e1 f0 f1
        clear hy hil
        have hwi : IntKind.i64.wrap ((i : Int) + 1) = (i : Int) + 1 := by rw [IntKind.wrap_i64]; omega
        go_wp2_with fail
        go_quiet (fail)
        go_wp2_with fail
        go_roundg (T - (i + 1))
        case measure => omega
        case rel => exact ⟨i + 1, by omega, rfl, by go_num, Below.drewN HBt.out _⟩
      · obtain rfl : i = T := by omega
        clear hlt hi
        go_wp2_with fail
        go_ret
        exact ⟨rfl, Below.on HBc.out HBt.out⟩

end Go.Proofs.Ytmhpakbkmddfeab
