import Derived.Test.YtfdbffadajepfaaGreatB24
import Derived.Test.YtfdbffadajepfaaGreatB22
import Derived.Test.YtfdbffadajepfaaGreatB18
import Derived.Test.YtfdbffadajepfaaGreatB19
import Derived.Lib.QuietBelow
import Derived.Deep.RegionHeld3
import Derived.Test.YtfdbffadajepfaaGreatB01
import Derived.Laws.StructEq
/- Contracts of a store at a later world; what Installs keep. -/
namespace Go.Proofs.YtfdbffadajepfaaGreat.Vs
open Go.RowKit Go.Sort
set_option linter.unusedVariables false

theorem inst_ok {M : Mst} {ws : List Wr} {t : Sp} (h1 : writesOk ws = true) (h2 : decide (t.a < 18446744073709551615) = true) (h3 : ws.all (freeB M t) = true) : instE M ws t = 0 ∧ instR M ws t = instM M ws t := by
  have e : instE M ws t = 0 := by unfold instE; rw [h1, h2, h3]; rfl
  exact ⟨e, by unfold instR; rw [if_pos e]⟩
theorem inst_good {M : Mst} (h : Good M) {ws : List Wr} (hw : writesOk ws = true) {t : Sp} (ha : ws.all (freeB M t) = true) : ∀ i, i ≤ ws.length → Good (instM M (ws.take i) t) := by
  intro i
  induction i with
  | zero => intro _; exact h
  | succ i ih =>
    intro hi
    rw [nthW_take (by omega : i < ws.length), instM_snoc]
    exact (ih (by omega)).add (inst_over h.rising hw ha (by omega))
theorem readAll_len (M : Mst) (h : Good M) (t : Sp) : (readAll M t).length ≤ countM M := Nat.le_trans (List.length_filterMap_le _ _) (count_keys h)
/-- a stamp's numbers are no less than nothing -/
def Sp.nn (s : Sp) : Prop := 0 ≤ s.a ∧ 0 ≤ s.b ∧ 0 ≤ s.c
theorem Sp.nn_lt {s : Sp} (h : s.nn) : s.lt ⟨0, 0, 0⟩ = false := by
  obtain ⟨h1, h2, h3⟩ := h
  unfold Sp.lt
  rw [lessB_iff_false]
  simp only
  omega
/-- the stamp in a box -/
def StB (w : World) (b : Nat) (s : Sp) : Prop := w.heap[b]? = some (.cells #[.int .u64 s.a, .int .u32 s.b, .int .u32 s.c] 28 (0, 0))
theorem StB.lt {w : World} {b : Nat} {s : Sp} (h : StB w b s) : b < w.heap.size := (Array.getElem?_eq_some_iff.1 h).1
theorem StB.later {w w' : World} {b : Nat} {s : Sp} (h : StB w b s) (hb : Below w.heap.size w w') : StB w' b s := (hb.block b h.lt).trans h
theorem StB.onl {F : Nat → Prop} {w w' : World} {b p : Nat} {s mk : Sp} {M : Mst} (h : StB w b s) (hs : Sto F w p M mk) (ho : Onl F w w') : StB w' b s := (ho.block b h.lt (hs.not h (by rintro (e | e) <;> exact absurd e (by decide)))).trans h
/-- blocks of other types are written -/
theorem StoG.keepB {F G : Nat → Prop} {w w' : World} {p o : Nat} {ty0 : TypeId} {M : Mst} {mk : Sp} (h : StoG F w p o ty0 M mk) (ho : Onl G w w') (hG : ∀ b, G b → ∃ cs t z, w.heap[b]? = some (.cells cs t z) ∧ ¬ SpT ty0 t ∧ ¬ IxT t) : StoG F w' p o ty0 M mk := by
  have hk : Kp w w' := Kp.of_onl ho fun b cs t z hg hb ht => by
    obtain ⟨cs', t', z', hb', _, h2⟩ := hG b hg
    rw [hb'] at hb; cases hb; exact h2 ht
  obtain ⟨m, h, e⟩ := h
  refine ⟨m, h.keep hk fun b hf => ho.block b (h.lt hf) fun hg => ?_, e⟩
  obtain ⟨cs', t', z', hb', h1, _⟩ := hG b hg
  obtain ⟨cs, ty, z, hc, hty⟩ := h.own b hf
  rw [hb'] at hc; cases hc; exact h1 hty
abbrev setS (w : World) (b : Nat) (s : Sp) : World := ((w.setCell ⟨b, 0, none⟩ (.int .u64 s.a)).setCell ⟨b, 1, none⟩ (.int .u32 s.b)).setCell ⟨b, 2, none⟩ (.int .u32 s.c)
theorem onl_setS (w : World) (b : Nat) (s : Sp) : Onl (fun k => k = b) w (setS w b s) := (((Onl.refl (fun k => k = b) w).set (p := b) rfl _ _).set (p := b) rfl _ _).set (p := b) rfl _ _
theorem StB.set {w : World} {b : Nat} {s : Sp} (h : StB w b s) (t : Sp) : StB (setS w b t) b t := by
  have h1 := heap_setCell_same w b 0 _ _ (.int .u64 t.a) h
  have h2 := heap_setCell_same _ b 1 _ _ (.int .u32 t.b) h1
  have h3 := heap_setCell_same _ b 2 _ _ (.int .u32 t.c) h2
  exact h3
theorem StB.loose {w : World} {b : Nat} {s : Sp} (h : StB w b s) : ∀ o, w.frozen? ⟨b, o, none⟩ = false := fun o => frozen_of_row w b o _ _ h
theorem StB.not {w : World} {b : Nat} {s : Sp} (h : StB w b s) : ∃ cs t z, w.heap[b]? = some (.cells cs t z) ∧ ¬ SpT 79 t ∧ ¬ IxT t := ⟨_, _, _, h, by rintro (e | e) <;> exact absurd e (by decide), not_ixt rfl⟩
theorem OwnP.setS {w : World} {B b : Nat} {v : Value} {l : Prs} {s : Sp} (h : OwnP w B v l) (hb : StB w b s) (t : Sp) : OwnP (setS w b t) B v l := owns_onl h (onl_setS w b t) fun g hg e => by
  subst e
  obtain ⟨_, ⟨rfl, _⟩ | ⟨g', cap, cur, rfl, _, hgb, _⟩⟩ := h
  · simp [Value.ownBlock] at hg
  · obtain rfl : g' = g := by simpa [Value.ownBlock] using hg
    rw [show w.heap[g']? = _ from hb] at hgb; cases hgb
/-- each of valid writes is valid -/
theorem writes_ok {ws : List Wr} (h : writesOk ws = true) : ∀ x ∈ ws, wOk x = true := by
  intro x hx
  obtain ⟨i, hi, rfl⟩ := List.mem_iff_getElem.1 hx
  unfold writesOk at h
  rw [Bool.and_eq_true] at h
  have hall : ∀ n, allB (writeAt ws) n = true → ∀ i, i < n → writeAt ws i = true := by
    intro n
    induction n with
    | zero => intro _ i hi; omega
    | succ n ih =>
      intro ha i hi
      rw [allB, Bool.and_eq_true] at ha
      by_cases e : i = n
      · rw [e]; exact ha.2
      · exact ih ha.1 i (by omega)
  have := hall _ h.2 i hi
  rw [writeAt_eq, Bool.and_eq_true] at this
  have e : nthW ws i = ws[i] := by simp [nthW, hi]
  rw [← e]; exact this.1
theorem inst_okM {M : Mst} (h : OkM M) (hr : Rising M) {ws : List Wr} (hw : ∀ x ∈ ws, wOk x = true) {t : Sp} (ht : decide (t.a < 18446744073709551615) = true) : OkM (instM M ws t) := by
  induction ws using snoc_ind with
  | nil => exact h
  | snoc ws x ih =>
    rw [instM_snoc]
    refine (ih fun y hy => hw y (by simp [hy])).add (instM_count hr ws t).2 ?_
    unfold okV
    rw [Bool.and_eq_true]
    exact ⟨ht, hw x (by simp)⟩
theorem OkM.nil : OkM [] := fun e he => (by cases he)
theorem dump_at {F : Nat → Prop} {w W : World} {p nL : Nat} {M : Mst} {mk : Sp} (h : Sto F w p M mk) (hn : countM M ≤ 1048576) (hl : nL = (dumpM M).length) (hb : Below w.heap.size w W) :
    Calls Tryz.prog 85 #[pt p] W fun e w' => ∃ la lc, e = .returned (.slice la nL lc) ∧ Hid (OwnV w' W.heap.size (.slice la nL lc) (dumpM M)) ∧ Below W.heap.size W w' := by
  refine (dump_is (h.later hb) hn).mono ?_
  rintro e w' ⟨v, rfl, ho, hb'⟩
  obtain ⟨la, lc, rfl⟩ := ho.slice
  rw [← hl] at ho ⊢
  exact ⟨la, lc, rfl, ho, hb'⟩
theorem len_at {F : Nat → Prop} {w W : World} {p nL : Nat} {M : Mst} {mk : Sp} (h : Sto F w p M mk) (hn : countM M ≤ 1048576) (hl : nL = (dumpM M).length) (hb : Below w.heap.size w W) :
    Calls Tryz.prog 98 #[pt p] W fun e w' => e = .returned (.int .i64 nL) ∧ Below W.heap.size W w' := by
  rw [hl, dump_len]
  exact stolen_is (h.later hb) (by omega)
theorem read_at {F : Nat → Prop} {w W : World} {p : Nat} {M : Mst} {mk t : Sp} {lo hi : ByteArray} {e : Int} {l : Prs} (h : Sto F w p M mk) (hn : countM M ≤ 1048576) (he : rdE M mk lo hi t = e) (hl : rdL M mk lo hi t = l) (hb : Below w.heap.size w W) :
    Calls Tryz.prog 23 #[pt p, .agg #[.string lo, .string hi], sv t] W fun r w' => ∃ va vc, r = .returned (.tuple #[.slice va l.length vc, .int .i64 e]) ∧ Hid (Row2 w' va l) ∧ Below W.heap.size W w' := by
  subst he hl
  refine (read_is (h.later hb) lo hi t (by omega)).mono ?_
  rintro e w' ⟨v, rfl, ho, hb'⟩
  obtain ⟨va, vc, rfl⟩ := ho.slice
  exact ⟨va, vc, rfl, ho.row, hb'⟩
theorem rd_same {M : Mst} {mk mk' t : Sp} {lo hi : ByteArray} (h : t.lt mk = false) (h' : t.lt mk' = false) : rdE M mk lo hi t = rdE M mk' lo hi t ∧ rdL M mk lo hi t = rdL M mk' lo hi t := by
  have e : rdE M mk lo hi t = rdE M mk' lo hi t := by unfold rdE; rw [h, h']
  exact ⟨e, by unfold rdL; rw [e]⟩
theorem rd_len (M : Mst) (mk t : Sp) (lo hi : ByteArray) (h : Good M) : (rdL M mk lo hi t).length ≤ countM M := by
  unfold rdL
  split
  · rw [readM_is]; exact Nat.le_trans (List.length_filter_le _ _) (readAll_len M h t)
  · simp
theorem run_neSt (s : Sp) (w : World) : (binOp .neq 28 (sv s) (sv s)).run Tryz.prog w = .ok (.bool false) w := by
  simp [go_sem, Tryz.underlying28]
theorem instR_mem {M : Mst} (h : OkM M) (hr : Rising M) (ws : List Wr) (t : Sp) : OkM (instR M ws t) := by
  unfold instR
  split
  · rename_i e
    unfold instE at e
    split at e
    · split at e
      · rename_i h1 h2; exact inst_okM h hr (writes_ok h2) h1
      · cases e
    · cases e
  · exact h
theorem instR_len {M : Mst} (h : Rising M) (ws : List Wr) (t : Sp) : countM (instR M ws t) ≤ countM M + ws.length ∧ countM M ≤ countM (instR M ws t) := by
  unfold instR
  split
  · rw [(instM_count h ws t).1]; omega
  · omega
theorem wmark_is {F : Nat → Prop} {w : World} {p o : Nat} {ty : TypeId} {M : Mst} {mk : Sp} (h : StoG F w p o ty M mk) :
    Calls Tryz.prog 35 #[.pointer (some ⟨p, o, none⟩)] w fun e w' => e = .returned (sv mk) ∧ Below w.heap.size w w' := by
  obtain ⟨m, h, rfl⟩ := h
  have hb : Below w.heap.size w (w.alloc (.cells #[.int .u64 0, .int .u32 0, .int .u32 0] 28)) := Below.al (Below.refl _ _) _
  have c1 := cell_later hb (Sto.c1 h)
  have c2 := cell_later hb (Sto.c2 h)
  have c3 := cell_later hb (Sto.c3 h)
  clear h hb
  go_enter Tryz.func35, Tryz.ntmps35
  go_wp2_with fail
  refine bodyPost_ret (v := sv mk) (by simp [results, Tryz.results35, go_sem]) rfl ⟨rfl, ?_⟩
  (repeat (first | exact Below.refl _ _ | assumption | refine Below.drew ?_ | refine Below.al ?_ _ | refine Below.setCell ?_ (by first | exact Nat.le_refl _ | (simp; omega) | (simp; done)) _ | refine Below.on ?_ (by assumption)))
end Go.Proofs.YtfdbffadajepfaaGreat.Vs
/- The state's small functions. -/
namespace Go.Proofs.YtfdbffadajepfaaGreat.Ys
open Go.RowKit Go.Sort
set_option linter.unusedVariables false

abbrev cp (p : Nat) : Value := .pointer (some ⟨p, 1, none⟩)
theorem newS (w : World) (t : Vs.Sp) (ty : TypeId) : (w.alloc (.cells #[.int .u64 t.a, .int .u32 t.b, .int .u32 t.c] ty)).cell? ⟨w.heap.size, 0, none⟩ = some (.int .u64 t.a) ∧ (w.alloc (.cells #[.int .u64 t.a, .int .u32 t.b, .int .u32 t.c] ty)).cell? ⟨w.heap.size, 1, none⟩ = some (.int .u32 t.b) ∧ (w.alloc (.cells #[.int .u64 t.a, .int .u32 t.b, .int .u32 t.c] ty)).cell? ⟨w.heap.size, 2, none⟩ = some (.int .u32 t.c) := by
  have h := World.alloc_heap_new w (.cells #[.int .u64 t.a, .int .u32 t.b, .int .u32 t.c] ty)
  exact ⟨Vs.cell_of_obj h rfl, Vs.cell_of_obj h rfl, Vs.cell_of_obj h rfl⟩
section
variable {F : Nat → Prop} {w : World} {p : Nat} {m1 m2 m : Option Nat} {V : List Lk.Hv} {I : Lk.It} {s : Ps}
theorem reserved_is (T : St F w p m1 m2 m V I s) (t : Vs.Sp) {u : Bool} (hu : decide (t.a < s.ceil) = u) :
    Calls Tryz.prog 89 #[cp p, Vs.sv t] w fun e w' => e = .returned (.bool u) ∧ Below w.heap.size w w' := by
  obtain ⟨wx, hwx⟩ : ∃ wx, wx = w.alloc (.cells #[.int .u64 t.a, .int .u32 t.b, .int .u32 t.c] 28) := ⟨_, rfl⟩
  have hbx : Below w.heap.size w wx := by rw [hwx]; exact Below.al (Below.refl _ _) _
  obtain ⟨x0, _, _⟩ := newS w t 28
  rw [← hwx] at x0
  have c1 : wx.cell? ⟨p, 1, none⟩ = some (.int .u64 s.ceil) := (T.later hbx).cell fun _ => rfl
  have k0 := cell_regrown x0; have k1 := cell_regrown c1
  have HBX := hid hbx
  clear T hbx
  go_enter Tryz.func89, Tryz.ntmps89
  go_wp2_with fail
  rw [← hwx]
  clear hwx
  refine wp_region_quiet_below (by kernel_rfl) (by kernel_rfl) ?_
  repeat (go_big_quiet_step (fail))
  refine wpQuiet_nil ?_
  intro wq hq
  replace hq := below_of_regrown hq
  go_wp2_with fail
  go_ret
  exact ⟨by first | rfl | (rw [← hu]), Below.on HBX.out hq⟩
theorem decided_is (T : St F w p m1 m2 m V I s) (t : Lk.Ix) :
    Calls Tryz.prog 36 #[cp p, .agg #[.int .u32 t.1, .int .u32 t.2]] w fun e w' => e = .returned (.bool (Lg.outM s.E t).isSome) ∧ Below w.heap.size w w' := by
  obtain ⟨wx, hwx⟩ : ∃ wx, wx = w.alloc (.cells #[.int .u32 t.1, .int .u32 t.2] 43) := ⟨_, rfl⟩
  have hbx : Below w.heap.size w wx := by rw [hwx]; exact Below.al (Below.refl _ _) _
  have x0 : wx.cell? ⟨w.heap.size, 0, none⟩ = some (.int .u32 t.1) := by rw [hwx]; simp [go_sem]
  have x1 : wx.cell? ⟨w.heap.size, 1, none⟩ = some (.int .u32 t.2) := by rw [hwx]; simp [go_sem]
  obtain ⟨ok, hok⟩ : ∃ ok, ok = (Lg.outM s.E t).isSome := ⟨_, rfl⟩
  have OC : Hid (∀ W, Below wx.heap.size wx W → Calls Tryz.prog 65 #[.pointer (some ⟨p, 4, none⟩), .agg #[.int .u32 t.1, .int .u32 t.2]] W fun r w' => ∃ f : Lg.En, r = .returned (.tuple #[.agg #[.int .u32 f.id.1, .int .u32 f.id.2, .int .u32 f.home, .int .i64 f.oc, .int .u64 f.w, .int .u32 f.l, .int .u32 f.n], .bool ok]) ∧ Below W.heap.size W w') := hid (fun W hb => by
    refine (Lg.outcome_is (T.later (Below.on hbx hb)).lg t).mono ?_
    rintro r w' ⟨f, ok', hr, h1, _, h3⟩
    exact ⟨f, by rw [hr, h1.out, hok], h3.out⟩)
  rw [← hok]
  have HBX := hid hbx
  clear T hbx hok
  go_enter Tryz.func36, Tryz.ntmps36
  go_wp2_with fail
  rw [← hwx]
  clear hwx
  go_cut [6] (fun s6 wz => s6 = .bool ok ∧ Below wx.heap.size wx wz)
  case first =>
    go_region_held3 (fun w' => w'.cell? ⟨w.heap.size, 0, none⟩ = some (.int .u32 t.1) ∧ w'.cell? ⟨w.heap.size, 1, none⟩ = some (.int .u32 t.2) ∧ Below wx.heap.size wx w')
      ((refine (fun (hB : Below wx.heap.size wx _) => ⟨cell_later hB x0, cell_later hB x1, hB⟩) ?_; (repeat (first | with_reducible exact Below.refl _ _ | with_reducible assumption | with_reducible refine Below.drew ?_ | with_reducible refine Below.al ?_ _ | with_reducible refine Below.setCell ?_ (by first | exact Nat.le_refl _ | (simp; omega) | (simp; done)) _ | with_reducible refine Below.on ?_ (by assumption)))))
      (first | (go_at_call 65; refine (OC.out _ (by (repeat (first | with_reducible exact Below.refl _ _ | with_reducible assumption | with_reducible refine Below.drew ?_ | with_reducible refine Below.al ?_ _ | with_reducible refine Below.setCell ?_ (by first | exact Nat.le_refl _ | (simp; omega) | (simp; done)) _ | with_reducible refine Below.on ?_ (by assumption))))).mono ?_; rintro r w2 ⟨f, rfl, hb2⟩; (first | (have hk2 : w2.heap[wx.heap.size]? = some (.cells #[.int .u32 0, .int .u32 0, .int .u32 0, .int .i64 0, .int .u64 0, .int .u32 0, .int .u32 0] 124) := (hb2.block _ (by simp)).trans (MapKept.heap_alloc wx.drew _).1; have f2 : ∀ o, w2.frozen? ⟨wx.heap.size, o, none⟩ = false := (fun o => by simp [World.frozen?, hk2]); have r0 : w2.cell? ⟨wx.heap.size, 0, none⟩ = some (.int .u32 0) := Vs.cell_of_obj hk2 rfl; have r1 : w2.cell? ⟨wx.heap.size, 1, none⟩ = some (.int .u32 0) := Vs.cell_of_obj hk2 rfl; have r2 : w2.cell? ⟨wx.heap.size, 2, none⟩ = some (.int .u32 0) := Vs.cell_of_obj hk2 rfl; have r3 : w2.cell? ⟨wx.heap.size, 3, none⟩ = some (.int .i64 0) := Vs.cell_of_obj hk2 rfl; have r4 : w2.cell? ⟨wx.heap.size, 4, none⟩ = some (.int .u64 0) := Vs.cell_of_obj hk2 rfl; have r5 : w2.cell? ⟨wx.heap.size, 5, none⟩ = some (.int .u32 0) := Vs.cell_of_obj hk2 rfl; have r6 : w2.cell? ⟨wx.heap.size, 6, none⟩ = some (.int .u32 0) := Vs.cell_of_obj hk2 rfl; clear hk2) | skip)))
    all_goals (try go_wp2_with fail)
    all_goals go_meet
    all_goals (exact ⟨rfl, by (repeat (first | with_reducible exact Below.refl _ _ | with_reducible assumption | with_reducible refine Below.drew ?_ | with_reducible refine Below.al ?_ _ | with_reducible refine Below.setCell ?_ (by first | exact Nat.le_refl _ | (simp; omega) | (simp; done)) _ | with_reducible refine Below.on ?_ (by assumption)))⟩)
  case rest =>
    obtain ⟨rfl, hb⟩ := hcut
    have HB := hid (Below.on HBX.out hb)
    clear hb
    go_wp2_with fail
    go_ret
    exact ⟨rfl, HB.out⟩
end
end Go.Proofs.YtfdbffadajepfaaGreat.Ys
/- The state's small functions, the second part. -/
namespace Go.Proofs.YtfdbffadajepfaaGreat.Ys
open Go.RowKit Go.Sort
set_option linter.unusedVariables false

abbrev sp (p : Nat) : Value := .pointer (some ⟨p, 0, none⟩)
section
variable {F : Nat → Prop} {w : World} {p : Nat} {m1 m2 m : Option Nat} {V : List Lk.Hv} {I : Lk.It} {s : Ps}
theorem holds_is (T : St F w p m1 m2 m V I s) (t : Lk.Ix) :
    Calls Tryz.prog 37 #[cp p, .agg #[.int .u32 t.1, .int .u32 t.2]] w fun e w' => e = .returned (.bool (Lk.hasB s.H t)) ∧ Below w.heap.size w w' := by
  obtain ⟨wx, hwx⟩ : ∃ wx, wx = w.alloc (.cells #[.int .u32 t.1, .int .u32 t.2] 43) := ⟨_, rfl⟩
  have hbx : Below w.heap.size w wx := by rw [hwx]; exact Below.al (Below.refl _ _) _
  have x0 : wx.cell? ⟨w.heap.size, 0, none⟩ = some (.int .u32 t.1) := by rw [hwx]; simp [go_sem]
  have x1 : wx.cell? ⟨w.heap.size, 1, none⟩ = some (.int .u32 t.2) := by rw [hwx]; simp [go_sem]
  obtain ⟨ok, hok⟩ : ∃ ok, ok = Lk.hasB s.H t := ⟨_, rfl⟩
  have OC : Hid (∀ W, Below wx.heap.size wx W → Calls Tryz.prog 40 #[.pointer (some ⟨p, 2, none⟩), .agg #[.int .u32 t.1, .int .u32 t.2]] W fun r w' => ∃ u : Lk.Hv, r = .returned (.tuple #[.agg #[.int .u32 u.h.id.1, .int .u32 u.h.id.2, .int .u32 u.h.home, .int .u64 u.h.w, .int .u32 u.h.l, .int .u32 u.h.n, .slice u.ra u.h.rs.length u.rc, .slice u.wa u.h.ws.length u.wc], .bool ok]) ∧ Below W.heap.size W w') := hid (fun W hb => by
    refine (Lk.get_is (T.later (Below.on hbx hb)).tb t).mono ?_
    rintro r w' ⟨u, hr, _, _, _, _, h3⟩
    exact ⟨u, by rw [hr, T.h, hok], h3.out⟩)
  rw [← hok]
  have HBX := hid hbx
  clear T hbx hok
  go_enter Tryz.func37, Tryz.ntmps37
  go_wp2_with fail
  rw [← hwx]
  clear hwx
  go_cut [6] (fun s6 wz => s6 = .bool ok ∧ Below wx.heap.size wx wz)
  case first =>
    go_region_held3 (fun w' => w'.cell? ⟨w.heap.size, 0, none⟩ = some (.int .u32 t.1) ∧ w'.cell? ⟨w.heap.size, 1, none⟩ = some (.int .u32 t.2) ∧ Below wx.heap.size wx w')
      ((refine (fun (hB : Below wx.heap.size wx _) => ⟨cell_later hB x0, cell_later hB x1, hB⟩) ?_; (repeat (first | with_reducible exact Below.refl _ _ | with_reducible assumption | with_reducible refine Below.drew ?_ | with_reducible refine Below.al ?_ _ | with_reducible refine Below.setCell ?_ (by first | exact Nat.le_refl _ | (simp; omega) | (simp; done)) _ | with_reducible refine Below.on ?_ (by assumption)))))
      (first | (go_at_call 40; refine (OC.out _ (by (repeat (first | with_reducible exact Below.refl _ _ | with_reducible assumption | with_reducible refine Below.drew ?_ | with_reducible refine Below.al ?_ _ | with_reducible refine Below.setCell ?_ (by first | exact Nat.le_refl _ | (simp; omega) | (simp; done)) _ | with_reducible refine Below.on ?_ (by assumption))))).mono ?_; rintro r w2 ⟨u, rfl, hb2⟩; (first | (have hk2 : w2.heap[wx.heap.size]? = some (.cells #[.int .u32 0, .int .u32 0, .int .u32 0, .int .u64 0, .int .u32 0, .int .u32 0, .slice none 0 0, .slice none 0 0] 62) := (hb2.block _ (by simp)).trans (MapKept.heap_alloc wx.drew _).1; have f2 : ∀ o, w2.frozen? ⟨wx.heap.size, o, none⟩ = false := (fun o => by simp [World.frozen?, hk2]); have r0 : w2.cell? ⟨wx.heap.size, 0, none⟩ = some (.int .u32 0) := Vs.cell_of_obj hk2 rfl; have r1 : w2.cell? ⟨wx.heap.size, 1, none⟩ = some (.int .u32 0) := Vs.cell_of_obj hk2 rfl; have r2 : w2.cell? ⟨wx.heap.size, 2, none⟩ = some (.int .u32 0) := Vs.cell_of_obj hk2 rfl; have r3 : w2.cell? ⟨wx.heap.size, 3, none⟩ = some (.int .u64 0) := Vs.cell_of_obj hk2 rfl; have r4 : w2.cell? ⟨wx.heap.size, 4, none⟩ = some (.int .u32 0) := Vs.cell_of_obj hk2 rfl; have r5 : w2.cell? ⟨wx.heap.size, 5, none⟩ = some (.int .u32 0) := Vs.cell_of_obj hk2 rfl; have r6 : w2.cell? ⟨wx.heap.size, 6, none⟩ = some (.slice none 0 0) := Vs.cell_of_obj hk2 rfl; have r7 : w2.cell? ⟨wx.heap.size, 7, none⟩ = some (.slice none 0 0) := Vs.cell_of_obj hk2 rfl; clear hk2) | skip)))
    all_goals (try go_wp2_with fail)
    all_goals go_meet
    all_goals (exact ⟨rfl, by (repeat (first | with_reducible exact Below.refl _ _ | with_reducible assumption | with_reducible refine Below.drew ?_ | with_reducible refine Below.al ?_ _ | with_reducible refine Below.setCell ?_ (by first | exact Nat.le_refl _ | (simp; omega) | (simp; done)) _ | with_reducible refine Below.on ?_ (by assumption)))⟩)
  case rest =>
    obtain ⟨rfl, hb⟩ := hcut
    have HB := hid (Below.on HBX.out hb)
    clear hb
    go_wp2_with fail
    go_ret
    exact ⟨rfl, HB.out⟩
theorem Ceiling_is (T : St F w p m1 m2 m V I s) : Calls Tryz.prog 15 #[sp p] w fun e w' => e = .returned (.int .u64 s.ceil) ∧ Below w.heap.size w w' := by
  have c1 : w.cell? ⟨p, 1, none⟩ = some (.int .u64 s.ceil) := T.cell fun _ => rfl
  have k1 := cell_regrown c1
  clear T
  go_enter Tryz.func15, Tryz.ntmps15
  go_wp2_with fail
  first
    | (go_ret; exact ⟨rfl, Below.refl _ _⟩)
    | (refine wp_region_quiet_below (by kernel_rfl) (by kernel_rfl) ?_
       repeat (go_big_quiet_step (fail))
       refine wpQuiet_nil ?_
       intro wq hq
       replace hq := below_of_regrown hq
       go_wp2_with fail
       go_ret
       exact ⟨rfl, hq⟩)
theorem Watermark_is (T : St F w p m1 m2 m V I s) : Calls Tryz.prog 17 #[sp p] w fun e w' => e = .returned (Vs.sv s.wm) ∧ Below w.heap.size w w' := by
  obtain ⟨a, b, c, hs⟩ : ∃ a b c, s.wm = ⟨a, b, c⟩ := ⟨_, _, _, rfl⟩
  obtain ⟨wx, hwx⟩ : ∃ wx, wx = w.alloc (.cells #[.int .u64 0, .int .u32 0, .int .u32 0] 28) := ⟨_, rfl⟩
  have hbx : Below w.heap.size w wx := by rw [hwx]; exact Below.al (Below.refl _ _) _
  have WM : Hid (∀ W, Below wx.heap.size wx W → Calls Tryz.prog 35 #[.pointer (some ⟨p, 5, none⟩)] W fun r w' => r = .returned (.agg #[.int .u64 a, .int .u32 b, .int .u32 c]) ∧ Below W.heap.size W w') := hid (fun W hb => by
    refine (Vs.wmark_is (T.later (Below.on hbx hb)).st).mono ?_
    rintro r w' ⟨hr, h3⟩
    exact ⟨by rw [hr, hs], h3⟩)
  have HBX := hid hbx
  have HS := hid hs
  have hz : wx.heap[w.heap.size]? = some (.cells #[.int .u64 0, .int .u32 0, .int .u32 0] 28 (0, 0)) := by rw [hwx]; exact World.alloc_heap_new _ _
  have hlt : w.heap.size < wx.heap.size := by rw [hwx]; simp
  clear T hbx hs
  go_enter Tryz.func17, Tryz.ntmps17
  go_wp2_with fail
  rw [← hwx]
  clear hwx
  refine (WM.out _ (Below.refl _ _)).mono ?_
  rintro r w2 ⟨rfl, hb2⟩
  have hk2 := (hb2.block _ hlt).trans hz
  have f2 : ∀ o, w2.frozen? ⟨w.heap.size, o, none⟩ = false := fun o => by simp [World.frozen?, hk2]
  have r0 : w2.cell? ⟨w.heap.size, 0, none⟩ = some (.int .u64 0) := Vs.cell_of_obj hk2 rfl
  have r1 : w2.cell? ⟨w.heap.size, 1, none⟩ = some (.int .u32 0) := Vs.cell_of_obj hk2 rfl
  have r2 : w2.cell? ⟨w.heap.size, 2, none⟩ = some (.int .u32 0) := Vs.cell_of_obj hk2 rfl
  have HB := hid (Below.on HBX.out hb2)
  clear hk2 hz hb2 WM
  go_wp2_with fail
  refine bodyPost_ret (v := .agg #[.int .u64 a, .int .u32 b, .int .u32 c]) (by simp [results, Tryz.results17, go_sem, r0, r1, r2]) rfl ⟨by rw [HS.out], ?_⟩
  have hB := HB.out
  clear HB HBX
  (repeat (first | with_reducible exact Below.refl _ _ | with_reducible assumption | with_reducible refine Below.drew ?_ | with_reducible refine Below.al ?_ _ | with_reducible refine Below.setCell ?_ (by first | exact Nat.le_refl _ | (simp; omega) | (simp; done)) _ | with_reducible refine Below.on ?_ (by assumption)))
theorem aboveCommits_is (T : St F w p m1 m2 m V I s) (t : Vs.Sp) {u : Bool} (hu : (!s.cm || lessB s.lc.a s.lc.b s.lc.c t.a t.b t.c) = u) :
    Calls Tryz.prog 51 #[cp p, Vs.sv t] w fun e w' => e = .returned (.bool u) ∧ Below w.heap.size w w' := by
  obtain ⟨wx, hwx⟩ : ∃ wx, wx = w.alloc (.cells #[.int .u64 t.a, .int .u32 t.b, .int .u32 t.c] 28) := ⟨_, rfl⟩
  have hbx : Below w.heap.size w wx := by rw [hwx]; exact Below.al (Below.refl _ _) _
  obtain ⟨x0, x1, x2⟩ := newS w t 28
  rw [← hwx] at x0 x1 x2
  have c9 : wx.cell? ⟨p, 9, none⟩ = some (.bool s.cm) := (T.later hbx).cell fun _ => rfl
  have c10 : wx.cell? ⟨p, 10, none⟩ = some (.int .u64 s.lc.a) := (T.later hbx).cell fun _ => rfl
  have c11 : wx.cell? ⟨p, 11, none⟩ = some (.int .u32 s.lc.b) := (T.later hbx).cell fun _ => rfl
  have c12 : wx.cell? ⟨p, 12, none⟩ = some (.int .u32 s.lc.c) := (T.later hbx).cell fun _ => rfl
  have k0 := cell_regrown x0; have k1 := cell_regrown x1; have k2 := cell_regrown x2
  have k3 := cell_regrown c9; have k4 := cell_regrown c10; have k5 := cell_regrown c11; have k6 := cell_regrown c12
  have HBX := hid hbx
  clear T hbx
  generalize s.cm = cm at *
  obtain ⟨lu, hlu⟩ : ∃ lu, lessB s.lc.a s.lc.b s.lc.c t.a t.b t.c = lu := ⟨_, rfl⟩
  rw [hlu] at hu
  cases cm <;> simp at hu <;> subst hu
  all_goals
    go_enter Tryz.func51, Tryz.ntmps51
    go_wp2_with fail
    rw [← hwx]
    clear hwx
    refine wp_region_quiet_below (by kernel_rfl) (by kernel_rfl) ?_
    repeat (go_big_quiet_step ((go_at_call 9; exact Calls.regrown_of (less_is hlu _))))
    refine wpQuiet_nil ?_
    intro wq hq
    replace hq := below_of_regrown hq
    go_wp2_with fail
    go_ret
    exact ⟨rfl, Below.on HBX.out hq⟩
end
end Go.Proofs.YtfdbffadajepfaaGreat.Ys
/- The state's own cells change. -/
namespace Go.Proofs.YtfdbffadajepfaaGreat.Ys
open Go.RowKit Go.Sort
set_option linter.unusedVariables false

theorem St.plain {F : Nat → Prop} {w w' : World} {p : Nat} {m1 m2 m : Option Nat} {V : List Lk.Hv} {I : Lk.It} {s s' : Ps} (T : St F w p m1 m2 m V I s) (hH : s'.H = s.H) (hE : s'.E = s.E) (hM : s'.M = s.M) (hW : s'.wm = s.wm) (ho : Onl (fun b => b = p) w w')
    (hp : ∀ root, w.heap[p]? = some (.cells (scs s m1 m2 m root) SS (0, 0)) → w'.heap[p]? = some (.cells (scs s' m1 m2 m root) SS (0, 0))) : St F w' p m1 m2 m V I s' := by
  obtain ⟨root, hob⟩ := T.obj
  have hob' := hp root hob
  have hfor : Lk.Foreign w (fun b => b = p) := fun b hb => by
    subst hb
    exact ⟨fun cur h' => noRow.1 (Lk.cells_ne hob h'), fun cur h' => noRow.2 (Lk.cells_ne hob h')⟩
  refine ⟨⟨root, hob'⟩, ?_, ?_, ?_, by rw [hH]; exact T.h, fun v hv => (T.ty v hv).onl ho hfor, T.dm⟩
  · refine T.tb.keepC T.ty ho hfor (fun b hb k => ?_) (fun cs hc => ?_) (bare13 hob')
    · subst k
      rcases hb with rfl | rfl
      · exact T.tb.ne1 rfl
      · exact T.tb.ne2 rfl
    · rw [hob] at hc
      injection hc with hc
      injection hc with e2 _ _
      subst e2
      exact ⟨_, hob', rfl, rfl⟩
  · rw [hE]
    obtain ⟨ds, hd, z0⟩ := T.lg.obj
    rw [hob] at hd
    injection hd with hd
    injection hd with e2 _ _
    subst e2
    exact ⟨⟨_, hob', z0⟩, T.lg.ents.same fun b e => ho.block b (T.lg.ents.lt b e) fun k => by subst e; subst k; exact T.lg.ne rfl⟩
  · rw [hM, hW]
    obtain ⟨x, hx, ex⟩ := T.st
    refine ⟨x, hx.keepC (Vs.Kp.of_onl ho fun b cs u z hf hb hu => ?_) (fun cs hc => ?_) (fun b hf hne => ho.block b (hx.lt hf) hne), ex⟩
    · subst hf
      rw [hob] at hb; injection hb with hb; injection hb with _ e _; subst e; exact hx.ty.1 hu
    · rw [hob] at hc
      injection hc with hc
      injection hc with e2 _ _
      subst e2
      refine ⟨_, hob', fun j h1 h2 => ?_⟩
      match j, h1, h2 with
      | 5, _, _ => rfl
      | 6, _, _ => simp [hW]
      | 7, _, _ => simp [hW]
      | 8, _, _ => simp [hW]
      | j + 9, _, h => omega
theorem onl_p {w : World} (w1 : World) (p o : Nat) (v : Value) (h : Onl (fun b => b = p) w w1) : Onl (fun b => b = p) w (w1.setCell ⟨p, o, none⟩ v) := Onl.set (F := fun b => b = p) h rfl o v
/-- a new ceiling -/
theorem St.ceiled {F : Nat → Prop} {w : World} {p : Nat} {m1 m2 m : Option Nat} {V : List Lk.Hv} {I : Lk.It} {s : Ps} (T : St F w p m1 m2 m V I s) (c : Int) : St F (w.setCell ⟨p, 1, none⟩ (.int .u64 c)) p m1 m2 m V I { s with ceil := c } :=
  T.plain rfl rfl rfl rfl (onl_p _ _ _ _ (Onl.refl _ _)) fun root h => heap_put _ h
/-- a commit's stamp -/
theorem St.stamped {F : Nat → Prop} {w : World} {p : Nat} {m1 m2 m : Option Nat} {V : List Lk.Hv} {I : Lk.It} {s : Ps} (T : St F w p m1 m2 m V I s) (t : Vs.Sp) : St F ((((w.setCell ⟨p, 9, none⟩ (.bool true)).setCell ⟨p, 10, none⟩ (.int .u64 t.a)).setCell ⟨p, 11, none⟩ (.int .u32 t.b)).setCell ⟨p, 12, none⟩ (.int .u32 t.c)) p m1 m2 m V I { s with cm := true, lc := t } :=
  T.plain rfl rfl rfl rfl (onl_p _ _ _ _ (onl_p _ _ _ _ (onl_p _ _ _ _ (onl_p _ _ _ _ (Onl.refl _ _))))) fun root h => heap_put _ (heap_put _ (heap_put _ (heap_put _ h)))
end Go.Proofs.YtfdbffadajepfaaGreat.Ys
namespace Go.Proofs.YtfdbffadajepfaaGreat
open Go.RowKit

/-- the run of '==' between two stamps -/
theorem run_eq (a b c x y z : Int) (w : World) :
    (binOp .eql 28 (stv a b c) (stv x y z)).run Tryz.prog w = .ok (.bool (sameB a b c x y z)) w := by
  by_cases h1 : a = x <;> by_cases h2 : b = y <;> by_cases h3 : c = z <;> simp [sameB, h1, h2, h3, stv, go_sem, Tryz.underlying28]

theorem run_ne (a b c x y z : Int) (w : World) :
    (binOp .neq 28 (stv a b c) (stv x y z)).run Tryz.prog w = .ok (.bool (!sameB a b c x y z)) w := by
  by_cases h1 : a = x <;> by_cases h2 : b = y <;> by_cases h3 : c = z <;> simp [sameB, h1, h2, h3, stv, go_sem, Tryz.underlying28]

end Go.Proofs.YtfdbffadajepfaaGreat
