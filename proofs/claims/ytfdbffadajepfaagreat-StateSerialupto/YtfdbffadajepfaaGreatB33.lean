import Derived.Test.YtfdbffadajepfaaGreatB32
/- The rule of a decision. -/
namespace Go.Proofs.YtfdbffadajepfaaGreat.Ys
open Go.RowKit Go.Sort
set_option linter.unusedVariables false

def dcdE (s : Ps) (r : Rg) : Int := if (Lg.outM s.E (r.c, r.s)).isSome then 130 else if r.oc = 1 then cmtE s r else 0
def dcdS (s : Ps) (r : Rg) : Ps := if (Lg.outM s.E (r.c, r.s)).isSome then s else if r.oc = 1 then cmtS s r else setS s r
set_option maxHeartbeats 1000000 in
theorem decide_is {F : Nat → Prop} {w : World} {p : Nat} {m1 m2 m : Option Nat} {V : List Lk.Hv} {I : Lk.It} {s : Ps} (T : St F w p m1 m2 m V I s) (r : Rg) (hn : (Vs.countM s.M + 17) * 64 ≤ 140737488355328) :
    Calls Tryz.prog 28 #[sp p, r.val] w fun e w' => e = .returned (.int .i64 (dcdE s r)) ∧ Aft F w p m1 m2 m (dcdS s r) w' := by
  obtain ⟨wx, hwx⟩ : ∃ wx, wx = w.alloc (.cells r.cells 48) := ⟨_, rfl⟩
  have hbx : Below w.heap.size w wx := by rw [hwx]; exact Below.al (Below.refl _ _) _
  have BX : BoxG wx w.heap.size r := by rw [hwx]; exact boxG w r _
  have HX := hid BX
  have k2 := cell_regrown BX.c2; have k3 := cell_regrown BX.c3
  have HT := hid (T.later hbx)
  have HBX := hid hbx
  have HN := hid hn
  obtain ⟨D, hD⟩ : ∃ D, (Lg.outM s.E (r.c, r.s)).isSome = D := ⟨_, rfl⟩
  have DC : Hid (∀ W, Below wx.heap.size wx W → Calls Tryz.prog 36 #[.pointer (some ⟨p, 1, none⟩), .agg #[.int .u32 r.c, .int .u32 r.s]] W fun e w' => e = .returned (.bool D) ∧ Below W.heap.size W w') := hid fun W hb => by
    have := decided_is (HT.out.later hb) (r.c, r.s)
    rw [hD] at this
    exact this
  have HE : Hid (dcdE s r = if D then 130 else if r.oc = 1 then cmtE s r else 0) := hid (by rw [dcdE, hD])
  have HS : Hid (dcdS s r = if D then s else if r.oc = 1 then cmtS s r else setS s r) := hid (by rw [dcdS, hD])
  clear T hbx BX hn hD
  go_enter Tryz.func28, Tryz.ntmps28
  go_wp2_with fail
  rw [← hwx]
  clear hwx
  refine wp_region_quiet_below (by kernel_rfl) (by kernel_rfl) ?_
  repeat (go_big_quiet_step ((go_at_call 36; exact Calls.regrown_of (DC.out _ (below_regrown _ _ _)))))
  refine wpQuiet_nil ?_
  intro wq hq
  replace hq := below_of_regrown hq
  have BG := HX.out.later hq
  have d0 := BG.c0
  have d1 := BG.c1
  have d2 := BG.c2
  have d3 := BG.c3
  have d4 := BG.c4
  have d5 := BG.c5
  have d6 := BG.c6
  have d7 := BG.c7
  have d8 := BG.c8
  have d9 := BG.c9
  have d10 := BG.c10
  have d11 := BG.c11
  have HTQ := hid (HT.out.later hq)
  have HBQ := hid (Below.on HBX.out hq)
  clear k2 k3 DC BG hq
  cases D
  · by_cases ho : r.oc = 1
    · have ho' : (r.oc == 1) = true := by simpa using ho
      have HE' : Hid (dcdE s r = cmtE s r ∧ dcdS s r = cmtS s r) := hid ⟨by rw [HE.out]; simp [ho], by rw [HS.out]; simp [ho]⟩
      have CM := hid (commit_is HTQ.out r HN.out)
      clear ho
      go_wp2_with fail
      refine CM.out.mono ?_
      rintro e w6 ⟨rfl, F', m', V', I', h1, h2, h3, h4⟩
      have HP : Hid (Aft F w p m1 m2 m (dcdS s r) w6) := hid ⟨F', m', V', I', by rw [HE'.out.2]; exact h1, fun b hb => (h2 b hb).imp id fun k => Nat.le_trans HBQ.out.size k, h3.imp id fun ⟨b, h, k⟩ => ⟨b, h, Nat.le_trans HBQ.out.size k⟩, (Onl.of_below HBQ.out).trans h4⟩
      clear h1 h2 h3 h4 CM
      go_wp2_with fail
      go_ret
      exact ⟨by rw [HE'.out.1]; rfl, HP.out⟩
    · have ho' : (r.oc == 1) = false := by simpa using ho
      have HE' : Hid (dcdE s r = 0 ∧ dcdS s r = setS s r) := hid ⟨by rw [HE.out]; simp [ho], by rw [HS.out]; simp [ho]⟩
      have SE := hid (settle_is HTQ.out r)
      clear ho
      go_wp2_with fail
      refine SE.out.mono ?_
      rintro e w6 ⟨rfl, m', V', I', h1, h2, h3⟩
      have HP : Hid (Aft F w p m1 m2 m (dcdS s r) w6) := hid ⟨F, m', V', I', by rw [HE'.out.2]; exact h1, fun b hb => .inl hb, h2.imp id fun ⟨b, h, k⟩ => ⟨b, h, Nat.le_trans HBQ.out.size k⟩, (Onl.of_below HBQ.out).trans (h3.mono fun b h => .inr h)⟩
      clear h1 h2 h3 SE
      go_wp2_with fail
      go_ret
      exact ⟨by rw [HE'.out.1]; rfl, HP.out⟩
  · have HE' : Hid (dcdE s r = 130 ∧ dcdS s r = s) := hid ⟨by rw [HE.out]; rfl, by rw [HS.out]; rfl⟩
    go_wp2_with fail
    go_ret
    exact ⟨by rw [HE'.out.1]; rfl, by rw [HE'.out.2]; exact ⟨F, m, V, I, HTQ.out, fun b hb => .inl hb, .inl rfl, Onl.of_below HBQ.out⟩⟩
end Go.Proofs.YtfdbffadajepfaaGreat.Ys
/- A serial run on a plain map, and what a store reads. -/
namespace Go.Proofs.YtfdbffadajepfaaGreat.Ys
open Go.RowKit Go.Sort
set_option linter.unusedVariables false

/-- a commit: its stamp, what it wrote -/
structure Cm where
  t : Vs.Sp
  ws : List Wr
theorem sp_eq {a b : Vs.Sp} (h : a.lt b = false) (k : b.lt a = false) : a = b := by
  obtain ⟨a1, a2, a3⟩ := a
  obtain ⟨b1, b2, b3⟩ := b
  unfold Vs.Sp.lt at h k
  rw [lessB_iff_false] at h k
  simp only at h k
  have e1 : a1 = b1 := by omega
  have e2 : a2 = b2 := by omega
  have e3 : a3 = b3 := by omega
  subst e1 e2 e3; rfl
/-- a write laid on a map -/
def putP (m : Vs.Prs) (x : Wr) : Vs.Prs := if x.del then Vs.delX m x.key else Vs.setX m x.key x.val
def layP (m : Vs.Prs) (ws : List Wr) : Vs.Prs := ws.foldl putP m
def layC (m : Vs.Prs) (C : List Cm) : Vs.Prs := C.foldl (fun m c => layP m c.ws) m
/-- the serial run of the commits at or below t -/
def ser (C : List Cm) (t : Vs.Sp) : Vs.Prs := layC [] (C.filter fun c => !t.lt c.t)
theorem putP_rising {m : Vs.Prs} (h : Vs.Rising m) (x : Wr) : Vs.Rising (putP m x) := by
  unfold putP; split
  · exact Vs.delX_rising h _
  · exact Vs.setX_rising h _ _
theorem layP_rising : ∀ (ws : List Wr) {m : Vs.Prs}, Vs.Rising m → Vs.Rising (layP m ws)
  | [], _, h => h
  | x :: ws, m, h => layP_rising ws (putP_rising h x)
theorem layC_rising : ∀ (C : List Cm) {m : Vs.Prs}, Vs.Rising m → Vs.Rising (layC m C)
  | [], _, h => h
  | c :: C, m, h => layC_rising C (layP_rising c.ws h)
theorem ser_rising (C : List Cm) (t : Vs.Sp) : Vs.Rising (ser C t) := layC_rising _ List.Pairwise.nil
theorem putP_mem {m : Vs.Prs} (h : Vs.Rising m) (x : Wr) (e : ByteArray × ByteArray) : e ∈ putP m x ↔ (x.del = false ∧ e = (x.key, x.val)) ∨ (e ∈ m ∧ e.1 ≠ x.key) := by
  unfold putP
  cases hd : x.del with
  | true => rw [if_pos rfl, Vs.delX_mem]; simp
  | false => rw [if_neg (by decide), Vs.setX_mem h]; simp
theorem put_comm {m : Vs.Prs} (h : Vs.Rising m) {x y : Wr} (hk : x.key ≠ y.key) : putP (putP m x) y = putP (putP m y) x := by
  refine Vs.rising_ext (putP_rising (putP_rising h x) y) (putP_rising (putP_rising h y) x) fun e => ?_
  rw [putP_mem (putP_rising h x), putP_mem h, putP_mem (putP_rising h y), putP_mem h]
  constructor
  · rintro (⟨h1, rfl⟩ | ⟨⟨h1, rfl⟩ | ⟨h1, h2⟩, h3⟩)
    · exact .inr ⟨.inl ⟨h1, rfl⟩, fun e => hk e.symm⟩
    · exact .inl ⟨h1, rfl⟩
    · exact .inr ⟨.inr ⟨h1, h3⟩, h2⟩
  · rintro (⟨h1, rfl⟩ | ⟨⟨h1, rfl⟩ | ⟨h1, h2⟩, h3⟩)
    · exact .inr ⟨.inl ⟨h1, rfl⟩, hk⟩
    · exact .inl ⟨h1, rfl⟩
    · exact .inr ⟨.inr ⟨h1, h3⟩, h2⟩
theorem lay_put {x : Wr} : ∀ (ws : List Wr) {m : Vs.Prs}, Vs.Rising m → (∀ y ∈ ws, x.key ≠ y.key) → layP (putP m x) ws = putP (layP m ws) x
  | [], _, _, _ => rfl
  | y :: ws, m, h, hk => by
    show layP (putP (putP m x) y) ws = putP (layP (putP m y) ws) x
    rw [put_comm h (hk y (by simp))]
    exact lay_put ws (putP_rising h y) fun z hz => hk z (by simp [hz])
theorem lay_comm {ws : List Wr} : ∀ (vs : List Wr) {m : Vs.Prs}, Vs.Rising m → (∀ x ∈ vs, ∀ y ∈ ws, x.key ≠ y.key) → layP (layP m ws) vs = layP (layP m vs) ws
  | [], _, _, _ => rfl
  | v :: vs, m, h, hk => by
    show layP (putP (layP m ws) v) vs = layP (layP (putP m v) vs) ws
    rw [← lay_put ws h (hk v (by simp))]
    exact lay_comm vs (putP_rising h v) fun x hx => hk x (by simp [hx])
theorem layC_comm {ws : List Wr} : ∀ (D : List Cm) {m : Vs.Prs}, Vs.Rising m → (∀ d ∈ D, ∀ x ∈ d.ws, ∀ y ∈ ws, x.key ≠ y.key) → layC (layP m ws) D = layP (layC m D) ws
  | [], _, _, _ => rfl
  | d :: D, m, h, hk => by
    show layC (layP (layP m ws) d.ws) D = layP (layC (layP m d.ws) D) ws
    rw [lay_comm d.ws h (hk d (by simp))]
    exact layC_comm D (layP_rising d.ws h) fun e he => hk e (by simp [he])
theorem layC_app (m : Vs.Prs) (C D : List Cm) : layC m (C ++ D) = layC (layC m C) D := List.foldl_append ..
/-- commits by rising stamps -/
def Ord (C : List Cm) : Prop := C.Pairwise fun a b => b.t.lt a.t = false
/-- one more, in its place -/
def laidC (C : List Cm) (c : Cm) : List Cm := C.filter (fun b => !c.t.lt b.t) ++ c :: C.filter (fun b => c.t.lt b.t)
theorem ord_split {a : Vs.Sp} : ∀ {C : List Cm}, Ord C → C.filter (fun b => !a.lt b.t) ++ C.filter (fun b => a.lt b.t) = C
  | [], _ => rfl
  | c :: C, h => by
    have h' := List.pairwise_cons.1 h
    cases hc : a.lt c.t with
    | false => simp only [List.filter_cons, hc, Bool.not_false, if_true, Bool.false_eq_true, if_false, List.cons_append]; rw [ord_split h'.2]
    | true =>
      have hall : ∀ b ∈ C, a.lt b.t = true := fun b hb => Vs.Sp.lt_le hc (h'.1 b hb)
      have e1 : (c :: C).filter (fun b => !a.lt b.t) = [] := List.filter_eq_nil_iff.2 fun b hb => by
        rcases List.mem_cons.1 hb with rfl | hb
        · simp [hc]
        · simp [hall b hb]
      have e2 : (c :: C).filter (fun b => a.lt b.t) = c :: C := List.filter_eq_self.2 fun b hb => by
        rcases List.mem_cons.1 hb with rfl | hb
        · exact hc
        · exact hall b hb
      rw [e1, e2]; rfl
theorem laid_mem {C : List Cm} {c b : Cm} : b ∈ laidC C c ↔ b = c ∨ b ∈ C := by
  unfold laidC
  rw [List.mem_append, List.mem_cons, List.mem_filter, List.mem_filter]
  cases hb : c.t.lt b.t with
  | true => simp
  | false => simp; exact Or.comm
theorem laid_len {C : List Cm} (h : Ord C) (c : Cm) : (laidC C c).length = C.length + 1 := by
  have := congrArg List.length (ord_split (a := c.t) h)
  rw [List.length_append] at this
  unfold laidC
  rw [List.length_append, List.length_cons]
  omega
theorem laid_ord {C : List Cm} (h : Ord C) (c : Cm) : Ord (laidC C c) := by
  unfold laidC Ord
  refine List.pairwise_append.2 ⟨h.filter _, List.pairwise_cons.2 ⟨fun d hd => Vs.Sp.lt_asymm (List.mem_filter.1 hd).2, h.filter _⟩, fun a ha b hb => ?_⟩
  have ha' : c.t.lt a.t = false := by simpa using (List.mem_filter.1 ha).2
  rcases List.mem_cons.1 hb with rfl | hb
  · exact ha'
  · have hb' := (List.mem_filter.1 hb).2
    cases hx : b.t.lt a.t with
    | false => rfl
    | true => have := Vs.Sp.trans hb' hx; rw [ha'] at this; cases this
theorem ser_low {C : List Cm} {c : Cm} {t : Vs.Sp} (h : t.lt c.t = true) : ser (laidC C c) t = ser C t := by
  unfold ser laidC
  rw [List.filter_append, List.filter_cons, if_neg (by simp [h]), List.filter_filter, List.filter_filter]
  have e1 : C.filter (fun b => (!t.lt b.t) && !c.t.lt b.t) = C.filter (fun b => !t.lt b.t) := List.filter_congr fun b _ => by
    cases hb : t.lt b.t with
    | true => rfl
    | false =>
      have : c.t.lt b.t = false := by
        cases hx : c.t.lt b.t with
        | false => rfl
        | true => have := Vs.Sp.trans h hx; rw [hb] at this; cases this
      rw [this]; rfl
  have e2 : C.filter (fun b => (!t.lt b.t) && c.t.lt b.t) = [] := List.filter_eq_nil_iff.2 fun b _ => by
    cases hx : c.t.lt b.t with
    | false => simp
    | true => simp [Vs.Sp.trans h hx]
  rw [e1, e2, List.append_nil]
theorem ser_high {C : List Cm} (ho : Ord C) {c : Cm} {t : Vs.Sp} (h : t.lt c.t = false) (hd : ∀ d ∈ C, c.t.lt d.t = true → ∀ x ∈ d.ws, ∀ y ∈ c.ws, x.key ≠ y.key) : ser (laidC C c) t = layP (ser C t) c.ws := by
  have e : C.filter (fun b => !t.lt b.t) = (C.filter (fun b => !c.t.lt b.t)).filter (fun b => !t.lt b.t) ++ (C.filter (fun b => c.t.lt b.t)).filter (fun b => !t.lt b.t) := by
    rw [← List.filter_append, ord_split ho]
  unfold ser
  rw [e]
  unfold laidC
  rw [List.filter_append, List.filter_cons, if_pos (by simp [h]), layC_app, layC_app]
  show layC (layP _ c.ws) _ = _
  refine layC_comm _ (layC_rising _ List.Pairwise.nil) fun d hd' => ?_
  have h2 := List.mem_filter.1 (List.mem_filter.1 hd').1
  exact hd d h2.1 h2.2
theorem inst_rising {M : Vs.Mst} (h : Vs.Rising M) (ws : List Wr) (t : Vs.Sp) : Vs.Rising (Vs.instM M ws t) := (Vs.instM_count h ws t).2
theorem read_above {M : Vs.Mst} (h : Vs.Rising M) {a t : Vs.Sp} (ha : t.lt a = true) (ws : List Wr) : Vs.readAll (Vs.instM M ws a) t = Vs.readAll M t := by
  induction ws using snoc_ind with
  | nil => rfl
  | snoc ws x ih => rw [Vs.instM_snoc, Vs.readAll_add_high (inst_rising h ws a) ha, ih]
theorem read_from {M : Vs.Mst} (h : Vs.Rising M) {a t : Vs.Sp} (ha : t.lt a = false) (ws : List Wr) : Vs.readAll (Vs.instM M ws a) t = layP (Vs.readAll M t) ws := by
  induction ws using snoc_ind with
  | nil => rfl
  | snoc ws x ih =>
    rw [Vs.instM_snoc, Vs.readAll_add_low (inst_rising h ws a) ha, ih]
    unfold layP
    rw [List.foldl_append]
    rfl
theorem inst_dump {M : Vs.Mst} (h : Vs.Rising M) (a : Vs.Sp) (ws : List Wr) (e : Vs.Kv) : e ∈ Vs.dumpM (Vs.instM M ws a) → (∃ x ∈ ws, e = (x.key, Vs.Wr.ver x a)) ∨ e ∈ Vs.dumpM M := by
  induction ws using snoc_ind with
  | nil => exact .inr
  | snoc ws x ih =>
    rw [Vs.instM_snoc, Vs.add_dump_mem (inst_rising h ws a)]
    rintro (rfl | h1)
    · exact .inl ⟨x, by simp, rfl⟩
    · rcases ih h1 with ⟨y, hy, h2⟩ | h2
      · exact .inl ⟨y, by simp [hy], h2⟩
      · exact .inr h2
theorem prune_dump {M : Vs.Mst} {t : Vs.Sp} {k : ByteArray} {v : Vs.Ver} (h : (k, v) ∈ Vs.dumpM (Vs.pruneM M t)) : (k, v) ∈ Vs.dumpM M := by
  obtain ⟨cs, hc, hv⟩ := Vs.dump_mem.1 h
  obtain ⟨x, hx, hxe⟩ := List.mem_filterMap.1 hc
  split at hxe
  · cases hxe
  · injection hxe with hxe
    injection hxe with e1 e2
    subst e1 e2
    exact Vs.dump_mem.2 ⟨x.2, hx, List.mem_of_mem_drop hv⟩
/-- a version of a key outside of a span is not read there -/
theorem range_put {m : Vs.Prs} (h : Vs.Rising m) {lo hi : ByteArray} {x : Wr} (hx : inS lo hi x.key = false) : Vs.rangeX (putP m x) lo hi = Vs.rangeX m lo hi := by
  refine Vs.rising_ext (Vs.rangeX_rising (putP_rising h x) lo hi) (Vs.rangeX_rising h lo hi) fun e => ?_
  unfold Vs.rangeX
  rw [List.mem_filter, List.mem_filter, putP_mem h]
  constructor
  · rintro ⟨⟨_, rfl⟩ | ⟨h1, _⟩, h2⟩
    · rw [hx] at h2; cases h2
    · exact ⟨h1, h2⟩
  · rintro ⟨h1, h2⟩
    exact ⟨.inr ⟨h1, fun e' => by rw [e', hx] at h2; cases h2⟩, h2⟩
theorem range_lay {lo hi : ByteArray} : ∀ (ws : List Wr) {m : Vs.Prs}, Vs.Rising m → (∀ x ∈ ws, inS lo hi x.key = false) → Vs.rangeX (layP m ws) lo hi = Vs.rangeX m lo hi
  | [], _, _, _ => rfl
  | x :: ws, m, h, hx => by
    show Vs.rangeX (layP (putP m x) ws) lo hi = _
    rw [range_lay ws (putP_rising h x) fun y hy => hx y (by simp [hy]), range_put h (hx x (by simp))]
theorem setX_len (m : Vs.Prs) (k v : ByteArray) : (Vs.setX m k v).length ≤ m.length + 1 := by
  induction m with
  | nil => simp [Vs.setX]
  | cons e m ih =>
    unfold Vs.setX
    split
    · simp only [List.length_cons]; omega
    · split <;> simp
theorem putP_len (m : Vs.Prs) (x : Wr) : (putP m x).length ≤ m.length + 1 := by
  unfold putP; split
  · exact Nat.le_trans (List.length_filter_le _ _) (Nat.le_succ _)
  · exact setX_len m _ _
theorem layP_len : ∀ (ws : List Wr) (m : Vs.Prs), (layP m ws).length ≤ m.length + ws.length
  | [], m => Nat.le_refl _
  | x :: ws, m => by
    have h1 := layP_len ws (putP m x)
    have h2 := putP_len m x
    show (layP (putP m x) ws).length ≤ _
    rw [List.length_cons]; omega
end Go.Proofs.YtfdbffadajepfaaGreat.Ys
