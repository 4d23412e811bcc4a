import Derived.Test.YtaknkodjganacaaDoorVFind
namespace Go.Proofs.YtaknkodjganacaaDoor.Vs
open Go.RowKit Go.Sort
set_option linter.unusedVariables false

theorem val_zero {cs : Chain} {t : Sp} (h : upTo cs t = 0) : valAt cs t = none := by unfold valAt; rw [low_last0 t h]; rfl
theorem low_succ {cs : Chain} {t : Sp} {m : Nat} (hr : Ris cs) (h : upTo cs t = m + 1) : (low cs t).getLast? = some (nthV cs m) := by
  have hl := upTo_le cs t
  rw [low_last hr t (by omega), h]
  have hm : m < cs.length := by omega
  simp [nthV, hm]
theorem val_succ {cs : Chain} {t : Sp} {m : Nat} (hr : Ris cs) (h : upTo cs t = m + 1) : valAt cs t = if (nthV cs m).del then none else some (nthV cs m).val := by
  unfold valAt; rw [low_succ hr h]; rfl
theorem unseen_zero {cs : Chain} {t : Sp} (h : upTo cs t = 0) : unseen cs t = 0 := by unfold unseen; rw [h]; split <;> rfl
theorem unseen_succ {cs : Chain} {t : Sp} {m : Nat} (hr : Ris cs) (h : upTo cs t = m + 1) : unseen cs t = if (nthV cs m).del then m + 1 else m := by
  unfold unseen; rw [low_succ hr h, h]; show (if (nthV cs m).del = true then m + 1 else m + 1 - 1) = _; cases (nthV cs m).del <;> rfl
def valV (o : Option ByteArray) : Value := .tuple #[.string (o.getD ⟨#[]⟩), .bool o.isSome]

theorem value_is {w : World} {k : ByteArray} {h : Hd} (t : Sp) (r : Row w k h) (hr : Ris h.vs) (hn : h.n ≤ 1152921504606846976) :
    Calls Tryd.prog 38 #[.slice (some ⟨h.g, 0, none⟩) h.n h.cap, sv t] w fun e w' => e = .returned (valV (valAt h.vs t)) ∧ Below w.heap.size w w' := by
  have hul := upTo_le h.vs t
  rw [r.len] at hul
  have hb0 : Below w.heap.size w (w.alloc (.cells #[.int .u64 t.a, .int .u32 t.b, .int .u32 t.c] 26)) := Below.al (Below.refl _ _) _
  have HU := hid (upTo_is t (r.later hb0) hr hn)
  cases hu : upTo h.vs t with
  | zero =>
    rw [hu] at HU
    have HV := hid (val_zero hu)
    clear r hr hul hu hb0
    go_enter Tryd.func38, Tryd.ntmps38
    go_wp2_with (go_at_call 50; refine HU.out.mono ?_; rintro e w1 ⟨rfl, hb1⟩)
    go_ret2
    exact ⟨by rw [HV.out]; rfl, by (repeat (first | exact Below.refl _ _ | assumption | refine Below.drew ?_ | refine Below.al ?_ _ | refine Below.setCell ?_ (by first | exact Nat.le_refl _ | (simp; omega) | (simp; done)) _ | refine Below.on ?_ (by assumption)))⟩
  | succ m =>
    rw [hu] at HU hul
    have HV := hid (val_succ hr hu)
    have hc := (r.later hb0).at (i := m) (by omega)
    obtain ⟨g, n, cap, vs⟩ := h
    simp only at hc HV HU hul hn ⊢
    obtain ⟨v, hv⟩ : ∃ v, v = nthV vs m := ⟨_, rfl⟩
    rw [← hv] at hc HV
    obtain ⟨s, d, x⟩ := v
    have HC := hid hc
    have q0 : ((m : Int) + 1 == 0) = false := by rw [beq_eq_false_iff_ne]; omega
    have q1 : IntKind.i64.wrap (m : Int) = (m : Int) := by rw [IntKind.wrap_i64]; omega
    clear r hr hu hv hc hb0
    cases d with
    | true =>
      go_enter Tryd.func38, Tryd.ntmps38
      go_wp2_with (go_at_call 50; refine HU.out.mono ?_; rintro e w1 ⟨rfl, hb1⟩; have c4 := (HC.out.later hb1).c4; simp only at c4)
      go_ret2
      exact ⟨by rw [HV.out]; rfl, by (repeat (first | exact Below.refl _ _ | assumption | refine Below.drew ?_ | refine Below.al ?_ _ | refine Below.setCell ?_ (by first | exact Nat.le_refl _ | (simp; omega) | (simp; done)) _ | refine Below.on ?_ (by assumption)))⟩
    | false =>
      go_enter Tryd.func38, Tryd.ntmps38
      go_wp2_with (go_at_call 50; refine HU.out.mono ?_; rintro e w1 ⟨rfl, hb1⟩; have c4 := (HC.out.later hb1).c4; have c5 := (HC.out.later hb1).c5; simp only at c4 c5)
      go_ret2
      exact ⟨by rw [HV.out]; rfl, by (repeat (first | exact Below.refl _ _ | assumption | refine Below.drew ?_ | refine Below.al ?_ _ | refine Below.setCell ?_ (by first | exact Nat.le_refl _ | (simp; omega) | (simp; done)) _ | refine Below.on ?_ (by assumption)))⟩

theorem unseen_is {w : World} {k : ByteArray} {h : Hd} (t : Sp) (r : Row w k h) (hr : Ris h.vs) (hn : h.n ≤ 1152921504606846976) :
    Calls Tryd.prog 40 #[.slice (some ⟨h.g, 0, none⟩) h.n h.cap, sv t] w fun e w' => e = .returned (.int .i64 (unseen h.vs t : Nat)) ∧ Below w.heap.size w w' := by
  have hul := upTo_le h.vs t
  rw [r.len] at hul
  have hb0 : Below w.heap.size w (w.alloc (.cells #[.int .u64 t.a, .int .u32 t.b, .int .u32 t.c] 26)) := Below.al (Below.refl _ _) _
  have HU := hid (upTo_is t (r.later hb0) hr hn)
  cases hu : upTo h.vs t with
  | zero =>
    rw [hu] at HU
    have HV := hid (unseen_zero hu)
    clear r hr hul hu hb0
    go_enter Tryd.func40, Tryd.ntmps40
    go_wp2_with (go_at_call 50; refine HU.out.mono ?_; rintro e w1 ⟨rfl, hb1⟩)
    go_ret
    exact ⟨by rw [HV.out]; rfl, by (repeat (first | exact Below.refl _ _ | assumption | refine Below.drew ?_ | refine Below.al ?_ _ | refine Below.setCell ?_ (by first | exact Nat.le_refl _ | (simp; omega) | (simp; done)) _ | refine Below.on ?_ (by assumption)))⟩
  | succ m =>
    rw [hu] at HU hul
    have HV := hid (unseen_succ hr hu)
    have hc := (r.later hb0).at (i := m) (by omega)
    obtain ⟨g, n, cap, vs⟩ := h
    simp only at hc HV HU hul hn ⊢
    obtain ⟨v, hv⟩ : ∃ v, v = nthV vs m := ⟨_, rfl⟩
    rw [← hv] at hc HV
    obtain ⟨s, d, x⟩ := v
    have HC := hid hc
    have q0 : ((m : Int) + 1 == 0) = false := by rw [beq_eq_false_iff_ne]; omega
    have q1 : IntKind.i64.wrap (m : Int) = (m : Int) := by rw [IntKind.wrap_i64]; omega
    clear r hr hu hv hc hb0
    cases d with
    | true =>
      go_enter Tryd.func40, Tryd.ntmps40
      go_wp2_with (go_at_call 50; refine HU.out.mono ?_; rintro e w1 ⟨rfl, hb1⟩; have c4 := (HC.out.later hb1).c4; simp only at c4)
      go_ret
      exact ⟨by rw [HV.out]; simp, by (repeat (first | exact Below.refl _ _ | assumption | refine Below.drew ?_ | refine Below.al ?_ _ | refine Below.setCell ?_ (by first | exact Nat.le_refl _ | (simp; omega) | (simp; done)) _ | refine Below.on ?_ (by assumption)))⟩
    | false =>
      go_enter Tryd.func40, Tryd.ntmps40
      go_wp2_with (go_at_call 50; refine HU.out.mono ?_; rintro e w1 ⟨rfl, hb1⟩; have c4 := (HC.out.later hb1).c4; simp only at c4)
      go_ret
      exact ⟨by rw [HV.out]; simp, by (repeat (first | exact Below.refl _ _ | assumption | refine Below.drew ?_ | refine Below.al ?_ _ | refine Below.setCell ?_ (by first | exact Nat.le_refl _ | (simp; omega) | (simp; done)) _ | refine Below.on ?_ (by assumption)))⟩
end Go.Proofs.YtaknkodjganacaaDoor.Vs
