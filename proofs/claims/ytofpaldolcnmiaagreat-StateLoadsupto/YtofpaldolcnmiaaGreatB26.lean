import Derived.Test.YtofpaldolcnmiaaGreatB25
set_option linter.unusedVariables false
namespace Go.Proofs.YtofpaldolcnmiaaGreat
namespace Vs
open Go.RowKit Go.Sort Go.Shelf
attribute [local go_sem] Oper.semAt_some
end Vs
namespace Ig
open Go.RowKit Go.Sort Go.Shelf Ys
abbrev Jt := List (ByteArray × Vs.Sp)
def ovW (J : Jt) (t : Vs.Sp) (ws : List Wr) : Jt := ws.foldl (fun J x => Lk.putA J x.key t) J
def ovJ (l : List Lk.Hd) : Jt := l.foldl (fun J h => ovW J (atHd h) h.ws) []
def getJ (J : Jt) (k : ByteArray) : Option Vs.Sp := (J.find? fun p => decide (p.1 = k)).map (·.2)
def ovV (J : Jt) (v : Vs.Kv) : Bool := match getJ J v.1 with
 | some t => !v.2.s.lt t
 | none => false
def ovT (vs : List Vs.Kv) (hs : List Lk.Hd) : Bool := vs.any (ovV (ovJ hs))
theorem getJ_some {J : Jt} (hn : (J.map (·.1)).Nodup) {k : ByteArray} {t : Vs.Sp} (h : (k, t) ∈ J) : getJ J k = some t := by
 unfold getJ; cases hf : J.find? (fun p => decide (p.1 = k)) with
 | none => exact absurd (List.find?_eq_none.1 hf _ h) (by simp)
 | some q =>
  have h1 := List.find?_some hf; have h2 := List.mem_of_find?_eq_some hf; have := Lk.nodup_inj hn h2 h (by simpa using h1); rw [this]; rfl
theorem getJ_none {J : Jt} {k : ByteArray} (h : k ∉ J.map (·.1)) : getJ J k = none := by
 unfold getJ; rw [List.find?_eq_none.2]
 ·rfl
 ·intro q hq; simp only [decide_eq_true_eq]; exact fun e => h (List.mem_map.2 ⟨q, hq, e⟩)
theorem zero_st (W : World) : (zeroValue 36).run Tryz.prog W = .ok (Vs.sv ⟨0, 0, 0⟩) W := by kernel_rfl
theorem contV_nil (a : Option Addr) (c : Nat) (f : Value) (w : World) :
  Calls Tryz.prog 161 #[.slice a 0 c, f] w fun e w' => e = .returned (.bool false) ∧ Below w.heap.size w w' := by
 have IX : ∀ W, Calls Tryz.prog 210 #[.slice a 0 c, f] W fun e w' => e = .returned (.int .i64 (-1)) ∧ w' = W := fun W => by
  go_enter Tryz.func210, Tryz.ntmps210
  go_wp2_with fail
  go_loopg [5, 8] 0 (fun g s5 s8 wr => s8 = .int .i64 0 ∧ wr = W)
  case atStart => exact ⟨rfl, rfl⟩
  case round =>
   obtain ⟨rfl, rfl⟩ := hrel; go_wp2_with fail
   go_ret
   exact ⟨rfl, rfl⟩
 go_enter Tryz.func161, Tryz.ntmps161
 go_wp2_with (go_at_call 210; refine (IX _).mono ?_; rintro e w1 ⟨rfl, rfl⟩)
 go_ret
 exact ⟨rfl, Below.refl _ _⟩
theorem predV_is {w : World} {bM bX : Nat} {J : Jt} (hM : Lk.MapO Value.string Vs.sv w (some bM) J) (hX : w.cell? ⟨bX, 0, none⟩ = some (.map (some bM))) (W : World) (v : Vs.Kv) (hb : Below w.heap.size w W) :
  Calls Tryz.prog 162 #[.agg #[.string v.1, .int .u64 v.2.s.a, .int .u32 v.2.s.b, .int .u32 v.2.s.c, .bool v.2.del, .string v.2.val], .pointer (some ⟨bX, 0, none⟩)] W fun e w' => e = .returned (.bool (ovV J v)) ∧ Below w.heap.size w w' := by
 obtain ⟨wx, hwx⟩ : ∃ wx, wx = W.alloc (.cells #[.string v.1, .int .u64 v.2.s.a, .int .u32 v.2.s.b, .int .u32 v.2.s.c, .bool v.2.del, .string v.2.val] 108) := ⟨_, rfl⟩; have hbx : Below w.heap.size w wx := by rw [hwx]; exact Below.al hb _
 have hbw : Below W.heap.size W wx := by rw [hwx]; exact Below.al (Below.refl _ _) _
 have hsx : W.heap.size < wx.heap.size := by rw [hwx]; simp
 have kx : wx.heap[W.heap.size]? = some (.cells #[.string v.1, .int .u64 v.2.s.a, .int .u32 v.2.s.b, .int .u32 v.2.s.c, .bool v.2.del, .string v.2.val] 108 (0, 0)) := by rw [hwx]; exact World.alloc_heap_new _ _
 have hMx := hM.later hbx; have hnd := hM.nodup (P := Tryz.prog) Lk.keysS; obtain ⟨⟨ta, tb, tc⟩, ok, hyes, hno, hlook⟩ := hMx.lookT (P := Tryz.prog) Lk.keysS Tryz.underlying215 zero_st v.1; have hl := hlook wx (fun _ _ => rfl); simp only [Vs.sv] at hl; have x0 := cell_later hbx hX; have HLK := hid hlook; have HBX := hid hbx; have HK := hid kx; have y0 := Vs.cob (o := 0) kx rfl; have y1 := Vs.cob (o := 1) kx rfl; have y2 := Vs.cob (o := 2) kx rfl; have y3 := Vs.cob (o := 3) kx rfl; obtain ⟨u, hu⟩ : ∃ u, lessB v.2.s.a v.2.s.b v.2.s.c ta tb tc = u := ⟨_, rfl⟩; have LS := hid (fun W => less_is hu W); have hE : ovV J v = (ok && !u) := by
  unfold ovV; cases ok with
  | true =>
   rw [getJ_some hnd (hyes rfl)]; show (!Vs.Sp.lt v.2.s ⟨ta, tb, tc⟩) = _
   unfold Vs.Sp.lt; rw [hu]; rfl
  | false => rw [getJ_none (hno rfl).1]; rfl
 rw [hE]; rw [hwx] at x0 y0 y1 y2 y3 hl; obtain ⟨wy, hwy⟩ : ∃ wy, wy = wx.alloc (.cells #[.int .u64 ta, .int .u32 tb, .int .u32 tc] 36) := ⟨_, rfl⟩; have HBY : Hid (Below w.heap.size w wy) := by rw [hwy]; exact hid (Below.al hbx _)
 clear hM hX hb hbx hbw hMx hnd hyes hno hlook hu kx hE; cases ok with
 | true =>
  go_enter Tryz.func162, Tryz.ntmps162
  go_wp2_with (go_at_call 70; rw [← hwx, ← hwy]; refine (LS.out _).mono ?_; rintro e w3 ⟨rfl, hb3⟩)
  go_ret
  exact ⟨rtb (by simp), Below.on HBY.out hb3⟩
 | false =>
  go_enter Tryz.func162, Tryz.ntmps162
  go_wp2_with fail
  go_ret
  rw [← hwx, ← hwy]; exact ⟨rfl, HBY.out⟩
theorem contV_is {w : World} {bM bX : Nat} {J : Jt} (hM : Lk.MapO Value.string Vs.sv w (some bM) J) (hX : w.cell? ⟨bX, 0, none⟩ = some (.map (some bM))) {a : Option Addr} {c : Nat} {l : List Vs.Kv} (hr : RowG c6 6 w a l) (hl : l.length ≤ 9223372036854775807) :
  Calls Tryz.prog 161 #[.slice a l.length c, .func (.func 162) #[] #[.pointer (some ⟨bX, 0, none⟩)]] w fun e w' => e = .returned (.bool (l.any (ovV J))) ∧ Below w.heap.size w w' := by
 by_cases h0 : l.length = 0
 ·rw [h0, List.eq_nil_of_length_eq_zero h0]; exact contV_nil a c _ _
 ·letI : Inhabited Vs.Kv := ⟨(⟨#[]⟩, ⟨⟨0, 0, 0⟩, false, ⟨#[]⟩⟩)⟩
  have eg : ∀ args w, (callFunc 162 args).run Tryz.prog w = .ok (.enter 162 args) w := enters_of Tryz.func162 (by kernel_rfl) rfl; obtain ⟨b, off, rfl, hc⟩ : ∃ b off, a = some ⟨b, off, none⟩ ∧ ∀ j, j < l.length → ∀ i v, (c6 l[j]!)[i]? = some v → w.cell? ⟨b, off + j * 6 + i, none⟩ = some v := by
   obtain ⟨b, off, e, _⟩ := hr 0 (l[0]'(by omega)) (List.getElem?_eq_getElem (by omega)); refine ⟨b, off, e, fun j hj i v hv => ?_⟩; obtain ⟨b', off', e', h'⟩ := hr j l[j]! (by rw [getElem!_pos l j hj, List.getElem?_eq_getElem hj]); rw [e] at e'; injection e' with e'
   injection e' with e1 e2
   subst e1 e2; exact h' i v hv
  have hlt : b < w.heap.size := World.block_lt_of_cell? _ _ (hc 0 (by omega) 0 _ rfl); have hcon := AnyQ.slices_ContainsFunc Tryz.contV 6 Tryz.isAgg108 Tryz.sizeOf108 c6 (fun _ => rfl) (ovV J) 162 #[.pointer (some ⟨bX, 0, none⟩)] eg b off l.length c l w
   (fun W x hb => predV_is hM hX W x hb) (by omega) hl hlt hc
  change Calls Tryz.prog 161 _ _ _ at hcon
  rw [List.take_of_length_le (by omega)] at hcon; exact hcon
open Go.Proofs.YtofpaldolcnmiaaGreat Ys
theorem tN_all {α : Type} {t : Ds → α × Ds} {P : α → Prop} {B : Nat} (hs : Shrinks t) (h : ∀ d, d.left.length ≤ B → P (t d).1) : ∀ (n : Nat) (d : Ds), d.left.length ≤ B → ∀ x ∈ (tN t n d).1, P x
 | 0, d, _, x, hx => by cases hx
 | n + 1, d, hd, x, hx => by
  rw [tN] at hx; split at hx
  ·cases hx
  ·rcases List.mem_cons.1 hx with rfl | hx
   ·exact h d hd
   ·exact tN_all hs h n _ (Nat.le_trans (hs d) hd) x hx
theorem tL_all {α : Type} {t : Ds → α × Ds} {P : α → Prop} {B : Nat} (hs : Shrinks t) (h : ∀ d, d.left.length ≤ B → P (t d).1) (d : Ds) (hd : d.left.length ≤ B) : ∀ x ∈ (tL t d).1, P x :=
 tN_all hs h _ _ (Nat.le_trans (var_sh _ d) hd)
theorem st_ok (d : Ds) : (tStamp d).1.ok := by
 have hz : zSm.ok := ⟨⟨by decide, by decide⟩, ⟨by decide, by decide⟩, by decide, by decide⟩; cases d with
 | stop e => exact hz
 | «at» s =>
  by_cases h : s.length < 16
  ·simp only [tStamp, if_pos h]; exact hz
  ·simp only [tStamp, if_neg h]; exact unS_ok (by rw [List.length_take]; omega)
theorem tS_ok (d : Ds) : okS (tS d).1 := st_ok d
theorem tU_ok (m : Nat) (d : Ds) : okU m (tU m d).1 := ⟨Int.natCast_nonneg _, by have := var_le m d; show (((tVar m d).1 : Nat) : Int) ≤ _; omega⟩
theorem tTxn_ok (d : Ds) : okTxn (tTxn d).1 := ⟨tU_ok _ _, tU_ok _ _, tU_ok _ _⟩
theorem tEntry_r (d : Ds) : EnR (tEntry d).1 := by
 have h1 := tTxn_ok d; have h2 := tS_ok (tB (tTxn d).2).2; exact ⟨h1.2.1.1, ⟨h2.1.1, h2.1.2⟩⟩
structure HdR (h : Lk.Hd) : Prop where
 s : 0 ≤ h.id.2
 w : 0 ≤ h.w ∧ h.w ≤ 18446744073709551615
 rl : h.rs.length ≤ 1099511627776
 wl : h.ws.length ≤ 1099511627776
theorem tHeld_r (d : Ds) (hd : d.left.length ≤ 1099511627776) : HdR (tHeld d).1 := by
 have h1 := tTxn_ok d; have h2 := tS_ok (tTxn d).2; have h3 := tL_left span_eat (tS (tTxn d).2).2; have h4 := tL_left write_eat (tL tSpan (tS (tTxn d).2).2).2; have h5 : (tS (tTxn d).2).2.left.length ≤ d.left.length := Nat.le_trans (stamp_sh _) (txn_sh d); have h6 : (tL tSpan (tS (tTxn d).2).2).2.left.length ≤ d.left.length := Nat.le_trans (l_sh span_sh _) h5; exact ⟨h1.2.1.1, ⟨h2.1.1, h2.1.2⟩, Nat.le_trans h3 (Nat.le_trans h5 hd), Nat.le_trans h4 (Nat.le_trans h6 hd)⟩
def fillP (n c : Int) (k : Vs.Sp) (hs : List Lk.Hd) (es : List Lg.En) (vs : List Vs.Kv) : Option Ps :=
 if fvB c vs k then (match feS ⟨n, c, [], [], Vs.loadM vs, k, false, ⟨0, 0, 0⟩⟩ es with
  | none => none
  | some s1 => match fhS s1 hs with
   | none => none
   | some s2 => if ovT vs hs then none else some s2) else none
def takeP (n : Int) (d : Ds) : Option Ps := if (tImg d).1.1 = n then fillP n (tImg d).1.2.1 (tImg d).1.2.2.1 (tImg d).1.2.2.2.1 (tImg d).1.2.2.2.2.1 (tImg d).1.2.2.2.2.2 else none
theorem st_empty {w : World} {p : Nat} {n c : Int} (kb : w.heap[p]? = some (.cells (scs ⟨n, c, [], [], [], ⟨0, 0, 0⟩, false, ⟨0, 0, 0⟩⟩ none none none none) SS (0, 0))) : Ys.St (fun b => b = p) w p none none none [] [] ⟨n, c, [], [], [], ⟨0, 0, 0⟩, false, ⟨0, 0, 0⟩⟩ :=
 ⟨⟨none, kb⟩, ⟨⟨_, kb, rfl, rfl⟩, bare13 kb, rfl, rfl, by simp, Lk.ok_nil, by simp, by simp⟩, ⟨⟨_, kb, rfl⟩, rfl⟩, ⟨[], ⟨⟨_, kb, rfl, rfl, rfl⟩, stT_state, ⟨.nil, _, _, kb, stT_state.1, rfl, trivial, rfl, List.Pairwise.nil⟩, fun e he => (by cases he), List.Pairwise.nil, Vs.Good.nil, rfl, fun e he => (by cases he), by rintro b rfl; exact ⟨_, _, _, kb, .inl rfl⟩⟩, rfl⟩, rfl, by simp, by simp⟩
open Go.Proofs.YtofpaldolcnmiaaGreat
abbrev Ix := Lk.Ix
def ltX (i j : Ix) : Bool := decide (i.1 < j.1) || (decide (i.1 = j.1) && decide (i.2 < j.2))
theorem ltX_iff {i j : Ix} : ltX i j = true ↔ i.1 < j.1 ∨ (i.1 = j.1 ∧ i.2 < j.2) := by simp [ltX]
theorem ltX_no {i j : Ix} : ltX i j = false ↔ ¬ (i.1 < j.1 ∨ (i.1 = j.1 ∧ i.2 < j.2)) := by rw [← ltX_iff]; simp
theorem ltX_irr (i : Ix) : ltX i i = false := by rw [ltX_no]; omega
theorem ltX_trans {i j k : Ix} (h : ltX i j = true) (h' : ltX j k = true) : ltX i k = true := by rw [ltX_iff] at *; omega
theorem ltX_tri {i j : Ix} (h : ltX i j = false) (hne : i ≠ j) : ltX j i = true := by
 rw [ltX_no] at h; rw [ltX_iff]; have : ¬ (i.1 = j.1 ∧ i.2 = j.2) := fun e => hne (Prod.ext e.1 e.2)
 omega
section
variable {α : Type} (f : α → Ix)
def Up (l : List α) : Prop := l.Pairwise fun x y => ltX (f x) (f y) = true
def insX (x : α) : List α → List α
 | [] => [x]
 | y :: l => if ltX (f y) (f x) then y :: insX x l else x :: y :: l
def srt (l : List α) : List α := l.foldr (insX f) []
variable {f}
theorem up_ext : ∀ {l m : List α}, Up f l → Up f m → (∀ e, e ∈ l ↔ e ∈ m) → l = m
 | [], [], _, _, _ => rfl
 | [], y :: m, _, _, h => absurd ((h y).2 (List.mem_cons_self ..)) (by simp)
 | x :: l, [], _, _, h => absurd ((h x).1 (List.mem_cons_self ..)) (by simp)
 | x :: l, y :: m, hl, hm, h => by
  have hl' := List.pairwise_cons.1 hl; have hm' := List.pairwise_cons.1 hm; have hxy : x = y := by
   rcases List.mem_cons.1 ((h x).1 (List.mem_cons_self ..)) with e | e
   ·exact e
   ·rcases List.mem_cons.1 ((h y).2 (List.mem_cons_self ..)) with e' | e'
    ·exact e'.symm
    ·exact absurd (ltX_trans (hm'.1 x e) (hl'.1 y e')) (by rw [ltX_irr]; decide)
  subst hxy; congr 1
  refine up_ext hl'.2 hm'.2 fun e => ⟨fun he => ?_, fun he => ?_⟩
  ·rcases List.mem_cons.1 ((h e).1 (List.mem_cons_of_mem _ he)) with e1 | e1
   ·subst e1; exact absurd (hl'.1 _ he) (by rw [ltX_irr]; decide)
   ·exact e1
  ·rcases List.mem_cons.1 ((h e).2 (List.mem_cons_of_mem _ he)) with e1 | e1
   ·subst e1; exact absurd (hm'.1 _ he) (by rw [ltX_irr]; decide)
   ·exact e1
theorem insX_perm (x : α) : ∀ l : List α, (insX f x l).Perm (x :: l)
 | [] => List.Perm.refl _
 | y :: l => by
  rw [insX]; split
  ·exact ((insX_perm x l).cons y).trans (List.Perm.swap x y l)
  ·exact List.Perm.refl _
theorem srt_perm : ∀ l : List α, (srt f l).Perm l
 | [] => List.Perm.refl _
 | x :: l => (insX_perm x (srt f l)).trans ((srt_perm l).cons x)
theorem insX_up {x : α} : ∀ {l : List α}, Up f l → f x ∉ l.map f → Up f (insX f x l)
 | [], _, _ => List.pairwise_singleton _ _
 | y :: l, h, hn => by
  have h' := List.pairwise_cons.1 h; rw [List.map_cons, List.mem_cons] at hn; rw [insX]; split
  ·rename_i hlt; refine List.pairwise_cons.2 ⟨fun z hz => ?_, insX_up h'.2 fun hm => hn (.inr hm)⟩; rcases List.mem_cons.1 ((insX_perm x l).mem_iff.1 hz) with rfl | hz
   ·exact hlt
   ·exact h'.1 z hz
  ·rename_i hlt; have hxy : ltX (f x) (f y) = true := ltX_tri (by simpa using hlt) (fun e => hn (.inl e.symm)); refine List.pairwise_cons.2 ⟨fun z hz => ?_, h⟩; rcases List.mem_cons.1 hz with rfl | hz
   ·exact hxy
   ·exact ltX_trans hxy (h'.1 z hz)
theorem srt_up : ∀ {l : List α}, (l.map f).Nodup → Up f (srt f l)
 | [], _ => List.Pairwise.nil
 | x :: l, hn => by
  rw [List.map_cons, List.nodup_cons] at hn; exact insX_up (srt_up hn.2) fun hm => hn.1 (((srt_perm l).map f).mem_iff.1 hm)
theorem srt_eq {l U : List α} (hn : (l.map f).Nodup) (hp : U.Perm l) (hs : U.Pairwise fun x y => ltX (f y) (f x) = false) : U = srt f l := by
 have hnU : (U.map f).Nodup := ((hp.map f).nodup_iff).2 hn; have hne : U.Pairwise fun x y => f x ≠ f y := List.pairwise_map.1 hnU
 have hup : Up f U := by
  have := hs.and hne; exact this.imp fun {x y} h => ltX_tri h.1 (fun e => h.2 e.symm)
 exact up_ext hup (srt_up hn) fun e => by rw [hp.mem_iff, (srt_perm l).mem_iff]
theorem srt_mem {l : List α} {x : α} : x ∈ srt f l ↔ x ∈ l := (srt_perm l).mem_iff
theorem srt_len (l : List α) : (srt f l).length = l.length := (srt_perm l).length_eq
theorem srt_of {l : List α} (h : Up f l) : srt f l = l := by
 have hn : (l.map f).Nodup := by
  rw [List.Nodup, List.pairwise_map]; exact h.imp fun {x y} k e => by rw [e, ltX_irr] at k; cases k
 exact (srt_eq hn (List.Perm.refl _) (h.imp fun {x y} k => by
  rw [ltX_iff] at k; rw [ltX_no]; omega)).symm
end
def imgOf (s : Ys.Ps) : Im := (s.node, s.ceil, s.wm, srt Lk.Hd.id s.H, srt Lg.En.id s.E, Vs.dumpM s.M)
def imgB (s : Ys.Ps) : List Nat := eImg (imgOf s)
structure ImOk (s : Ys.Ps) : Prop where
 node : okU 4294967295 s.node
 ceil : okU 18446744073709551615 s.ceil
 wm : okS s.wm
 H : ∀ h ∈ s.H, okHeld h
 E : ∀ e ∈ s.E, okEntry e
 D : ∀ v ∈ Vs.dumpM s.M, okVersion v
 hn : s.H.length ≤ 1099511627776
 en : s.E.length ≤ 1099511627776
 dn : Vs.countM s.M ≤ 1500000
theorem ImOk.okI {s : Ys.Ps} (h : ImOk s) : okImg (imgOf s) := by
 have hd := Vs.dump_len s.M; have h1 := h.hn; have h2 := h.en; have h3 := h.dn; refine ⟨h.node, h.ceil, h.wm, ⟨fun x hx => h.H x (srt_mem.1 hx), ?_⟩, ⟨fun x hx => h.E x (srt_mem.1 hx), ?_⟩, fun x hx => h.D x hx, ?_⟩
 ·show (srt Lk.Hd.id s.H).length < _; rw [srt_len]; omega
 ·show (srt Lg.En.id s.E).length < _; rw [srt_len]; omega
 ·show (Vs.dumpM s.M).length < _; omega
theorem ImOk.b8 {s : Ys.Ps} (h : ImOk s) : B8 (imgB s) := img_codec.byte _ h.okI
end Ig
end Go.Proofs.YtofpaldolcnmiaaGreat
