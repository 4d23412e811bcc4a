import Derived.Test.YtaknkodjganacaaDoorVDump
import Derived.Test.YtaknkodjganacaaDoorVInstall
/- Contracts of a store at a later world; what Installs keep. -/
namespace Go.Proofs.YtaknkodjganacaaDoor.Vs
open Go.RowKit Go.Sort
set_option linter.unusedVariables false

theorem inst_ok {M : Mst} {ws : List Wr} {t : Sp} (h1 : writesOk ws = true) (h2 : decide (t.a < 18446744073709551615) = true) (h3 : ws.all (freeB M t) = true) : instE M ws t = 0 ∧ instR M ws t = instM M ws t := by
  have e : instE M ws t = 0 := by unfold instE; rw [h1, h2, h3]; rfl
  exact ⟨e, by unfold instR; rw [if_pos e]⟩
theorem inst_good {M : Mst} (h : Good M) {ws : List Wr} (hw : writesOk ws = true) {t : Sp} (ha : ws.all (freeB M t) = true) : ∀ i, i ≤ ws.length → Good (instM M (ws.take i) t) := by
  intro i
  induction i with
  | zero => intro _; exact h
  | succ i ih =>
    intro hi
    rw [nthW_take (by omega : i < ws.length), instM_snoc]
    exact (ih (by omega)).add (inst_over h.rising hw ha (by omega))
theorem readAll_len (M : Mst) (h : Good M) (t : Sp) : (readAll M t).length ≤ countM M := Nat.le_trans (List.length_filterMap_le _ _) (count_keys h)
/-- a stamp's numbers are no less than nothing -/
def Sp.nn (s : Sp) : Prop := 0 ≤ s.a ∧ 0 ≤ s.b ∧ 0 ≤ s.c
theorem Sp.nn_lt {s : Sp} (h : s.nn) : s.lt ⟨0, 0, 0⟩ = false := by
  obtain ⟨h1, h2, h3⟩ := h
  unfold Sp.lt
  rw [lessB_iff_false]
  simp only
  omega
/-- the stamp in a box -/
def StB (w : World) (b : Nat) (s : Sp) : Prop := w.heap[b]? = some (.cells #[.int .u64 s.a, .int .u32 s.b, .int .u32 s.c] 26 (0, 0))
theorem StB.lt {w : World} {b : Nat} {s : Sp} (h : StB w b s) : b < w.heap.size := (Array.getElem?_eq_some_iff.1 h).1
theorem StB.later {w w' : World} {b : Nat} {s : Sp} (h : StB w b s) (hb : Below w.heap.size w w') : StB w' b s := (hb.block b h.lt).trans h
theorem StB.onl {F : Nat → Prop} {w w' : World} {b p : Nat} {s mk : Sp} {M : Mst} (h : StB w b s) (hs : Sto F w p M mk) (ho : Onl F w w') : StB w' b s := (ho.block b h.lt (hs.not h (by rintro (e | e) <;> exact absurd e (by decide)))).trans h
/-- blocks of other types are written -/
theorem StoG.keepB {F G : Nat → Prop} {w w' : World} {p o : Nat} {ty0 : TypeId} {M : Mst} {mk : Sp} (h : StoG F w p o ty0 M mk) (ho : Onl G w w') (hG : ∀ b, G b → ∃ cs t z, w.heap[b]? = some (.cells cs t z) ∧ ¬ SpT ty0 t ∧ ¬ IxT t) : StoG F w' p o ty0 M mk := by
  have hk : Kp w w' := Kp.of_onl ho fun b cs t z hg hb ht => by
    obtain ⟨cs', t', z', hb', _, h2⟩ := hG b hg
    rw [hb'] at hb; cases hb; exact h2 ht
  obtain ⟨m, h, e⟩ := h
  refine ⟨m, h.keep hk fun b hf => ho.block b (h.lt hf) fun hg => ?_, e⟩
  obtain ⟨cs', t', z', hb', h1, _⟩ := hG b hg
  obtain ⟨cs, ty, z, hc, hty⟩ := h.own b hf
  rw [hb'] at hc; cases hc; exact h1 hty
abbrev setS (w : World) (b : Nat) (s : Sp) : World := ((w.setCell ⟨b, 0, none⟩ (.int .u64 s.a)).setCell ⟨b, 1, none⟩ (.int .u32 s.b)).setCell ⟨b, 2, none⟩ (.int .u32 s.c)
theorem onl_setS (w : World) (b : Nat) (s : Sp) : Onl (fun k => k = b) w (setS w b s) := (((Onl.refl (fun k => k = b) w).set (p := b) rfl _ _).set (p := b) rfl _ _).set (p := b) rfl _ _
theorem StB.set {w : World} {b : Nat} {s : Sp} (h : StB w b s) (t : Sp) : StB (setS w b t) b t := by
  have h1 := heap_setCell_same w b 0 _ _ (.int .u64 t.a) h
  have h2 := heap_setCell_same _ b 1 _ _ (.int .u32 t.b) h1
  have h3 := heap_setCell_same _ b 2 _ _ (.int .u32 t.c) h2
  exact h3
theorem StB.loose {w : World} {b : Nat} {s : Sp} (h : StB w b s) : ∀ o, w.frozen? ⟨b, o, none⟩ = false := fun o => frozen_of_row w b o _ _ h
theorem StB.not {w : World} {b : Nat} {s : Sp} (h : StB w b s) : ∃ cs t z, w.heap[b]? = some (.cells cs t z) ∧ ¬ SpT 87 t ∧ ¬ IxT t := ⟨_, _, _, h, by rintro (e | e) <;> exact absurd e (by decide), not_ixt rfl⟩
theorem OwnP.setS {w : World} {B b : Nat} {v : Value} {l : Prs} {s : Sp} (h : OwnP w B v l) (hb : StB w b s) (t : Sp) : OwnP (setS w b t) B v l := owns_onl h (onl_setS w b t) fun g hg e => by
  subst e
  obtain ⟨_, ⟨rfl, _⟩ | ⟨g', cap, cur, rfl, _, hgb, _⟩⟩ := h
  · simp [Value.ownBlock] at hg
  · obtain rfl : g' = g := by simpa [Value.ownBlock] using hg
    rw [show w.heap[g']? = _ from hb] at hgb; cases hgb
/-- each of valid writes is valid -/
theorem writes_ok {ws : List Wr} (h : writesOk ws = true) : ∀ x ∈ ws, wOk x = true := by
  intro x hx
  obtain ⟨i, hi, rfl⟩ := List.mem_iff_getElem.1 hx
  unfold writesOk at h
  rw [Bool.and_eq_true] at h
  have hall : ∀ n, allB (writeAt ws) n = true → ∀ i, i < n → writeAt ws i = true := by
    intro n
    induction n with
    | zero => intro _ i hi; omega
    | succ n ih =>
      intro ha i hi
      rw [allB, Bool.and_eq_true] at ha
      by_cases e : i = n
      · rw [e]; exact ha.2
      · exact ih ha.1 i (by omega)
  have := hall _ h.2 i hi
  rw [writeAt_eq, Bool.and_eq_true] at this
  have e : nthW ws i = ws[i] := by simp [nthW, hi]
  rw [← e]; exact this.1
theorem inst_okM {M : Mst} (h : OkM M) (hr : Rising M) {ws : List Wr} (hw : ∀ x ∈ ws, wOk x = true) {t : Sp} (ht : decide (t.a < 18446744073709551615) = true) : OkM (instM M ws t) := by
  induction ws using snoc_ind with
  | nil => exact h
  | snoc ws x ih =>
    rw [instM_snoc]
    refine (ih fun y hy => hw y (by simp [hy])).add (instM_count hr ws t).2 ?_
    unfold okV
    rw [Bool.and_eq_true]
    exact ⟨ht, hw x (by simp)⟩
theorem OkM.nil : OkM [] := fun e he => (by cases he)
theorem dump_at {F : Nat → Prop} {w W : World} {p nL : Nat} {M : Mst} {mk : Sp} (h : Sto F w p M mk) (hn : countM M ≤ 1048576) (hl : nL = (dumpM M).length) (hb : Below w.heap.size w W) :
    Calls Tryd.prog 12 #[pt p] W fun e w' => ∃ la lc, e = .returned (.slice la nL lc) ∧ Hid (OwnV w' W.heap.size (.slice la nL lc) (dumpM M)) ∧ Below W.heap.size W w' := by
  refine (dump_is (h.later hb) hn).mono ?_
  rintro e w' ⟨v, rfl, ho, hb'⟩
  obtain ⟨la, lc, rfl⟩ := ho.slice
  rw [← hl] at ho ⊢
  exact ⟨la, lc, rfl, ho, hb'⟩
theorem len_at {F : Nat → Prop} {w W : World} {p nL : Nat} {M : Mst} {mk : Sp} (h : Sto F w p M mk) (hn : countM M ≤ 1048576) (hl : nL = (dumpM M).length) (hb : Below w.heap.size w W) :
    Calls Tryd.prog 11 #[pt p] W fun e w' => e = .returned (.int .i64 nL) ∧ Below W.heap.size W w' := by
  rw [hl, dump_len]
  exact stolen_is (h.later hb) (by omega)
theorem read_at {F : Nat → Prop} {w W : World} {p : Nat} {M : Mst} {mk t : Sp} {lo hi : ByteArray} {e : Int} {l : Prs} (h : Sto F w p M mk) (hn : countM M ≤ 1048576) (he : rdE M mk lo hi t = e) (hl : rdL M mk lo hi t = l) (hb : Below w.heap.size w W) :
    Calls Tryd.prog 15 #[pt p, .agg #[.string lo, .string hi], sv t] W fun r w' => ∃ va vc, r = .returned (.tuple #[.slice va l.length vc, .int .i64 e]) ∧ Hid (Row2 w' va l) ∧ Below W.heap.size W w' := by
  subst he hl
  refine (read_is (h.later hb) lo hi t (by omega)).mono ?_
  rintro e w' ⟨v, rfl, ho, hb'⟩
  obtain ⟨va, vc, rfl⟩ := ho.slice
  exact ⟨va, vc, rfl, ho.row, hb'⟩
theorem rd_same {M : Mst} {mk mk' t : Sp} {lo hi : ByteArray} (h : t.lt mk = false) (h' : t.lt mk' = false) : rdE M mk lo hi t = rdE M mk' lo hi t ∧ rdL M mk lo hi t = rdL M mk' lo hi t := by
  have e : rdE M mk lo hi t = rdE M mk' lo hi t := by unfold rdE; rw [h, h']
  exact ⟨e, by unfold rdL; rw [e]⟩
theorem rd_len (M : Mst) (mk t : Sp) (lo hi : ByteArray) (h : Good M) : (rdL M mk lo hi t).length ≤ countM M := by
  unfold rdL
  split
  · rw [readM_is]; exact Nat.le_trans (List.length_filter_le _ _) (readAll_len M h t)
  · simp
theorem run_neSt (s : Sp) (w : World) : (binOp .neq 26 (sv s) (sv s)).run Tryd.prog w = .ok (.bool false) w := by
  simp [go_sem, Tryd.underlying26]
theorem instR_mem {M : Mst} (h : OkM M) (hr : Rising M) (ws : List Wr) (t : Sp) : OkM (instR M ws t) := by
  unfold instR
  split
  · rename_i e
    unfold instE at e
    split at e
    · split at e
      · rename_i h1 h2; exact inst_okM h hr (writes_ok h2) h1
      · cases e
    · cases e
  · exact h
theorem instR_len {M : Mst} (h : Rising M) (ws : List Wr) (t : Sp) : countM (instR M ws t) ≤ countM M + ws.length ∧ countM M ≤ countM (instR M ws t) := by
  unfold instR
  split
  · rw [(instM_count h ws t).1]; omega
  · omega
theorem wmark_is {F : Nat → Prop} {w : World} {p o : Nat} {ty : TypeId} {M : Mst} {mk : Sp} (h : StoG F w p o ty M mk) :
    Calls Tryd.prog 27 #[.pointer (some ⟨p, o, none⟩)] w fun e w' => e = .returned (sv mk) ∧ Below w.heap.size w w' := by
  obtain ⟨m, h, rfl⟩ := h
  have hb : Below w.heap.size w (w.alloc (.cells #[.int .u64 0, .int .u32 0, .int .u32 0] 26)) := Below.al (Below.refl _ _) _
  have c1 := cell_later hb (Sto.c1 h)
  have c2 := cell_later hb (Sto.c2 h)
  have c3 := cell_later hb (Sto.c3 h)
  clear h hb
  go_enter Tryd.func27, Tryd.ntmps27
  go_wp2_with fail
  refine bodyPost_ret (v := sv mk) (by simp [results, Tryd.results27, go_sem]) rfl ⟨rfl, ?_⟩
  (repeat (first | exact Below.refl _ _ | assumption | refine Below.drew ?_ | refine Below.al ?_ _ | refine Below.setCell ?_ (by first | exact Nat.le_refl _ | (simp; omega) | (simp; done)) _ | refine Below.on ?_ (by assumption)))
end Go.Proofs.YtaknkodjganacaaDoor.Vs
