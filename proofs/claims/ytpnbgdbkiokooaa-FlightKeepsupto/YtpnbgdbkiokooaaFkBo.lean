import Derived.Test.YtpnbgdbkiokooaaFkBal
/- The flight and the tally side by side. -/
namespace Go.Proofs.Ytpnbgdbkiokooaa.Fl
open Go.RowKit Go.Sort Go.Proofs.Ytpnbgdbkiokooaa
set_option linter.unusedVariables false

def It2 (p q : Nat) (v vt vn : Value) (k : Nat) : Prop := ItF p v k ∨ ItT q vt vn k
structure Bm (W w0 w : World) (p q : Nat) (v0 vt0 vn0 v vt vn : Value) (xs : List ByteArray) (T : Tl) : Prop where
  fl : Fl w W.heap.size p v xs
  ta : Ta w W.heap.size q vt vn T
  ap : ∀ k, ItF p v k → ¬ ItT q vt vn k
  bl : Below W.heap.size W w
  onl : Onl (It2 p q v0 vt0 vn0) w0 w
  new : ∀ k, It2 p q v vt vn k → It2 p q v0 vt0 vn0 k ∨ w0.heap.size ≤ k
variable {W w0 w w' : World} {p q : Nat} {v0 vt0 vn0 v vt vn : Value} {xs : List ByteArray} {T : Tl}
theorem Bm.fly (h : Bm W w0 w p q v0 vt0 vn0 v vt vn xs T) {v' : Value} {ys : List ByteArray} (m : Mv w w' W.heap.size p v v' ys) : Bm W w0 w' p q v0 vt0 vn0 v' vt vn ys T :=
  ⟨m.fl, h.ta.onl m.onl (fun k hk hf => h.ap k hf hk), fun k hk ht => by
    have h1 := (h.ta.its ht).2
    rcases hk with rfl | hk
    · exact h.ap _ (.inl rfl) ht
    · rcases m.new k hk with e | e
      · exact h.ap k (.inr e) ht
      · omega, h.bl.trans (m.below h.fl h.bl.size), h.onl.fresh m.onl (fun i hi => h.new i (.inl hi)), fun k hk => by
    rcases hk with (rfl | hk) | hk
    · exact h.new _ (.inl (.inl rfl))
    · rcases m.new k hk with e | e
      · exact h.new k (.inl (.inr e))
      · exact .inr (Nat.le_trans h.onl.size e)
    · exact h.new k (.inr hk)⟩
theorem Bm.tal (h : Bm W w0 w p q v0 vt0 vn0 v vt vn xs T) {vt' vn' : Value} {T' : Tl} (m : Mt w w' W.heap.size q vt vn vt' vn' T') : Bm W w0 w' p q v0 vt0 vn0 v vt' vn' xs T' :=
  ⟨h.fl.onl m.onl (fun k hk hf => h.ap k hk hf), m.ta, fun k hk ht => by
    have h1 := (h.fl.its hk).2
    rcases m.new k ht with e | e
    · exact h.ap k hk e
    · omega, h.bl.trans (m.below h.ta h.bl.size), h.onl.fresh m.onl (fun i hi => h.new i (.inr hi)), fun k hk => by
    rcases hk with hk | hk
    · exact h.new k (.inl hk)
    · rcases m.new k hk with e | e
      · exact h.new k (.inr e)
      · exact .inr (Nat.le_trans h.onl.size e)⟩
theorem Bm.later (h : Bm W w0 w p q v0 vt0 vn0 v vt vn xs T) (hb : Below w.heap.size w w') : Bm W w0 w' p q v0 vt0 vn0 v vt vn xs T := h.fly (Mv.refl h.fl hb)
/-- from here on -/
theorem Bm.again (h : Bm W w0 w p q v0 vt0 vn0 v vt vn xs T) : Bm W w w p q v vt vn v vt vn xs T := ⟨h.fl, h.ta, h.ap, h.bl, Onl.refl _ _, fun k hk => .inl hk⟩
def Bs (W w0 w : World) (p q : Nat) (v0 vt0 vn0 : Value) (xs : List ByteArray) (T : Tl) : Prop := ∃ v vt vn, Bm W w0 w p q v0 vt0 vn0 v vt vn xs T
theorem Bs.later (h : Bs W w0 w p q v0 vt0 vn0 xs T) (hb : Below w.heap.size w w') : Bs W w0 w' p q v0 vt0 vn0 xs T := by
  obtain ⟨v, vt, vn, h⟩ := h
  exact ⟨v, vt, vn, h.later hb⟩
theorem Bs.len (h : Bs W w0 w p q v0 vt0 vn0 xs T) : Calls Try.prog 10 #[pt p] w fun e w' => e = .returned (.int .i64 (xs.length : Int)) ∧ w' = w := by
  obtain ⟨v, vt, vn, h⟩ := h
  exact len_is h.fl
theorem Bs.send (h : Bs W w0 w p q v0 vt0 vn0 xs T) {u : Value} {ys : List ByteArray} (hu : Rd w u ys) (hl : (xs.length + ys.length) * 64 ≤ 140737488355328) :
    Calls Try.prog 5 #[pt p, u] w fun e w' => e = .returned (.tuple #[]) ∧ Hid (Bs W w0 w' p q v0 vt0 vn0 (xs ++ ys) T) := by
  obtain ⟨v, vt, vn, h⟩ := h
  refine (send_is h.fl hu hl h.bl.size).mono ?_
  rintro e w' ⟨rfl, v', m⟩
  exact ⟨rfl, v', vt, vn, h.fly m⟩
theorem Bs.look_in (h : Bs W w0 w p q v0 vt0 vn0 xs T) (i : Nat) (hi : i < xs.length) : Calls Try.prog 12 #[pt p, .int .i64 (i : Int)] w fun e w' => e = .returned (lookV (nthT xs i) 0) ∧ w' = w := by
  obtain ⟨v, vt, vn, h⟩ := h
  exact Fl.look_in h.fl i hi
theorem Bs.look_out (h : Bs W w0 w p q v0 vt0 vn0 xs T) (i : Int) (hi : i < 0 ∨ (xs.length : Int) ≤ i) : Calls Try.prog 12 #[pt p, .int .i64 i] w fun e w' => e = .returned (lookV mt 150) ∧ w' = w := by
  obtain ⟨v, vt, vn, h⟩ := h
  exact Fl.look_out h.fl i hi
theorem Bs.take_in (h : Bs W w0 w p q v0 vt0 vn0 xs T) (i : Nat) (hi : i < xs.length) :
    Calls Try.prog 11 #[pt p, .int .i64 (i : Int)] w fun e w' => e = .returned (lookV (nthT xs i) 0) ∧ Hid (Bs W w0 w' p q v0 vt0 vn0 (xs.eraseIdx i) T) := by
  obtain ⟨v, vt, vn, h⟩ := h
  refine (Fl.take_in h.fl i hi).mono ?_
  rintro e w' ⟨rfl, v', m⟩
  exact ⟨rfl, v', vt, vn, h.fly m⟩
theorem Bs.take_out (h : Bs W w0 w p q v0 vt0 vn0 xs T) (i : Int) (hi : i < 0 ∨ (xs.length : Int) ≤ i) :
    Calls Try.prog 11 #[pt p, .int .i64 i] w fun e w' => e = .returned (lookV mt 150) ∧ w' = w := by
  obtain ⟨v, vt, vn, h⟩ := h
  exact Fl.take_out h.fl i hi
theorem Bs.drop_in (h : Bs W w0 w p q v0 vt0 vn0 xs T) (i : Nat) (hi : i < xs.length) :
    Calls Try.prog 13 #[pt p, .int .i64 (i : Int)] w fun e w' => e = .returned (.int .i64 0) ∧ Hid (Bs W w0 w' p q v0 vt0 vn0 (xs.eraseIdx i) T) := by
  obtain ⟨v, vt, vn, h⟩ := h
  refine (Fl.drop_in h.fl i hi).mono ?_
  rintro e w' ⟨rfl, v', m⟩
  exact ⟨rfl, v', vt, vn, h.fly m⟩
theorem Bs.drop_out (h : Bs W w0 w p q v0 vt0 vn0 xs T) (i : Int) (hi : i < 0 ∨ (xs.length : Int) ≤ i) :
    Calls Try.prog 13 #[pt p, .int .i64 i] w fun e w' => e = .returned (.int .i64 150) ∧ w' = w := by
  obtain ⟨v, vt, vn, h⟩ := h
  exact Fl.drop_out h.fl i hi
theorem Bs.copy_in (h : Bs W w0 w p q v0 vt0 vn0 xs T) (i : Nat) (hi : i < xs.length) (hl : (xs.length + 1) * 64 ≤ 140737488355328) :
    Calls Try.prog 14 #[pt p, .int .i64 (i : Int)] w fun e w' => e = .returned (.int .i64 0) ∧ Hid (Bs W w0 w' p q v0 vt0 vn0 (xs ++ [nthT xs i]) T) := by
  obtain ⟨v, vt, vn, h⟩ := h
  refine (Fl.copy_in h.fl i hi hl h.bl.size).mono ?_
  rintro e w' ⟨rfl, v', m⟩
  exact ⟨rfl, v', vt, vn, h.fly m⟩
theorem Bs.copy_out (h : Bs W w0 w p q v0 vt0 vn0 xs T) (i : Int) (hi : i < 0 ∨ (xs.length : Int) ≤ i) :
    Calls Try.prog 14 #[pt p, .int .i64 i] w fun e w' => e = .returned (.int .i64 150) ∧ w' = w := by
  obtain ⟨v, vt, vn, h⟩ := h
  exact Fl.copy_out h.fl i hi
/-- the tally's numbers are small -/
def Sm (T : Tl) : Prop := ∀ e ∈ T, -4611686018427387904 ≤ e.2 ∧ e.2 ≤ 4611686018427387904
theorem sm_of {T : Tl} {f : ByteArray → Int} (hn : (ky T).Nodup) (hv : ∀ m, val T m = f m) (hf : ∀ m, -4611686018427387904 ≤ f m ∧ f m ≤ 4611686018427387904) : Sm T := fun e he => by
  have h1 := val_mem hn e he
  have h2 := hf e.1
  rw [← hv, h1] at h2
  exact h2
theorem Bs.add (h : Bs W w0 w p q v0 vt0 vn0 xs T) (m : ByteArray) (b : Int) (hb : -1 ≤ b ∧ b ≤ 1) (hn : Sm T) (hl : (T.length + 1) * 64 ≤ 140737488355328) :
    Calls Try.prog 6 #[pt q, .string m, .int .i64 b] w fun e w' => e = .returned (.tuple #[]) ∧ Hid (Bs W w0 w' p q v0 vt0 vn0 xs (addT T m b)) := by
  obtain ⟨v, vt, vn, h⟩ := h
  refine (add_is h.ta m b hb hn hl h.bl.size).mono ?_
  rintro e w' ⟨rfl, vt', vn', m⟩
  exact ⟨rfl, v, vt', vn', h.tal m⟩
/-- All, and then balanced -/
theorem Bs.all (h : Bs W w0 w p q v0 vt0 vn0 xs T) (hl : xs.length ≤ 1099511627776) (hg : Tg T xs) (hl2 : (T.length + 1) * 64 ≤ 140737488355328) :
    Calls Try.prog 9 #[pt p] w fun e w1 => ∃ a n c, e = .returned (.slice a n c) ∧ Hid (Bs W w0 w1 p q v0 vt0 vn0 xs T) ∧
      Hid (Calls Try.prog 8 #[pt q, .slice a n c] w1 fun e w2 => e = .returned (.bool true) ∧ Hid (∃ T', Bs W w0 w2 p q v0 vt0 vn0 xs T' ∧ Tg T' xs ∧ T'.length = T.length)) := by
  obtain ⟨v, vt, vn, h⟩ := h
  refine (all_is h.fl (by omega)).mono ?_
  rintro e w1 ⟨u, rfl, hr, hb⟩
  obtain ⟨a, c, rfl, _, _⟩ := hr.out.slice
  have h1 := h.later hb.out
  refine ⟨a, _, c, rfl, ⟨v, vt, vn, h1⟩, ?_⟩
  refine (balanced_is h1.ta hg hr.out (fun g hgb ht => ?_) hl2 hl h1.bl.size).mono ?_
  · have e1 := (hr.out.lt g hgb).1
    have e2 := (h.ta.its ht).2
    omega
  · rintro e w2 ⟨rfl, vt', vn', T', m, hg', hl'⟩
    exact ⟨rfl, T', ⟨v, vt', vn', h1.tal m⟩, hg', hl'⟩
/-- Drain: the list that was handed out, while the tally is worked on -/
structure Dr (W w0 w : World) (p q : Nat) (v0 vt0 vn0 : Value) (u : Value) (ys : List ByteArray) (T : Tl) (K : Nat) (f : ByteArray → Int) : Prop where
  row : RowF w 0 u ys
  ex : ∃ v vt vn T', Bm W w0 w p q v0 vt0 vn0 v vt vn [] T' ∧ (∀ g, u.ownBlock = some g → ¬ ItT q vt vn g) ∧ Tz T T' K f
theorem Bs.drain (h : Bs W w0 w p q v0 vt0 vn0 xs T) (t : Int) (hl : xs.length ≤ 1099511627776) (hg : Tg T xs) :
    Calls Try.prog 15 #[pt p, .int .i64 t] w fun e w1 => ∃ a c, e = .returned (.slice a xs.length c) ∧ Hid (Dr W w0 w1 p q v0 vt0 vn0 (.slice a xs.length c) (rot xs t) T xs.length (fun m => cnt m xs - cnt m ((rot xs t).take 0))) := by
  obtain ⟨v, vt, vn, h⟩ := h
  refine (drain_is h.fl t (by omega)).mono ?_
  rintro e w1 ⟨u, rfl, hr, v', hv', m⟩
  have hlen : (rot xs t).length = xs.length := by rw [rot, List.length_append, List.length_drop, List.length_take]; omega
  obtain ⟨a, c, rfl, _, _⟩ := hr.out.slice
  rw [hlen] at hr ⊢
  refine ⟨a, c, rfl, hr.out.base (Nat.zero_le _), v', vt, vn, T, h.fly m, fun g hgb ht => ?_, hg.nod, rfl, fun k => by rw [List.take_zero]; simp [cnt, hg.val], fun k => ?_⟩
  · have e1 := (hr.out.lt g hgb).1
    have e2 := (h.ta.its ht).2
    omega
  · have h1 := cnt_bd k xs
    rw [List.take_zero]
    simp only [cnt]
    omega
theorem Dr.add {u : Value} {ys : List ByteArray} {K : Nat} {f g : ByteArray → Int} (h : Dr W w0 w p q v0 vt0 vn0 u ys T K f) {m : ByteArray} {b : Int} (hm : m ∈ ky T) (hg : ∀ k, g k = f k + if m = k then b else 0) (hbd : ∀ m, - (K : Int) ≤ g m ∧ g m ≤ K) (hb : -1 ≤ b ∧ b ≤ 1) (hl : (T.length + 1) * 64 ≤ 140737488355328) (hK : K ≤ 1099511627776) :
    Calls Try.prog 6 #[pt q, .string m, .int .i64 b] w fun e w' => e = .returned (.tuple #[]) ∧ Hid (Dr W w0 w' p q v0 vt0 vn0 u ys T K g) := by
  obtain ⟨hr, v, vt, vn, T', hB, hu, hz⟩ := h
  refine (add_is hB.ta m b hb (fun e he => ?_) (by rw [hz.len]; exact hl) hB.bl.size).mono ?_
  · have := hz.nums e he
    omega
  · rintro e w' ⟨rfl, vt', vn', m'⟩
    refine ⟨rfl, hr.keep fun g hgb => m'.onl.block g (hr.lt g hgb).2 (hu g hgb), v, vt', vn', _, hB.tal m', fun g hgb ht => ?_, hz.add hm hg hbd⟩
    rcases m'.new g ht with e | e
    · exact hu g hgb e
    · have := (hr.lt g hgb).2; omega
end Go.Proofs.Ytpnbgdbkiokooaa.Fl
