import Derived.Test.YtaknkodjganacaaDoorVDrop
namespace Go.Proofs.YtaknkodjganacaaDoor.Vs
open Go.RowKit Go.Sort
set_option linter.unusedVariables false

/-- the n oldest of a key's chain cs go -/
def dropM (M : Mst) (k : ByteArray) (cs : Chain) (n : Nat) : Mst := if n = 0 then M else if n = cs.length then delX M k else setX M k (cs.drop n)
theorem dropM_good {M : Mst} (h : Good M) {k : ByteArray} {cs : Chain} (hr : Ris cs) {n : Nat} (hn : n ≤ cs.length) : Good (dropM M k cs n) := by
  unfold dropM
  split
  · exact h
  · split
    · exact ⟨delX_rising h.rising k, fun e he => h.chain e ((delX_mem _ _ _).1 he).1⟩
    · refine ⟨setX_rising h.rising _ _, fun e he => ?_⟩
      rcases (setX_mem h.rising _ _ e).1 he with rfl | ⟨he, _⟩
      · refine ⟨fun e => ?_, List.Pairwise.drop hr⟩
        have := congrArg List.length e
        simp at this; omega
      · exact h.chain e he
theorem pairwise_del {R : En → En → Prop} {l : List En} (h : l.Pairwise R) (k : ByteArray) : (delX l k).Pairwise R := List.Pairwise.filter _ h
theorem StoX.deleted {F : Nat → Prop} {w w' : World} {p o : Nat} {t : TypeId} {m : List En} {mk : Sp} {k : ByteArray} (h : StoX F w p o t m mk) (hx : Xi w' p o (delX m k)) (ho : Onl (fun b => b = p) w w') (hpt : Part p o 1 w w') : StoX F w' p o t (delX m k) mk := by
  obtain ⟨cs, bp, x1, x2, x3⟩ := h.obj
  obtain ⟨cs4, bp4, s4, e4⟩ := hpt cs t (0, 0) bp
  refine ⟨⟨cs4, bp4, by rw [e4 _ (by omega)]; exact x1, by rw [e4 _ (by omega)]; exact x2, by rw [e4 _ (by omega)]; exact x3⟩, h.ty, hx, fun e he => ?_, pairwise_del h.apart k, ?_, h.fp, fun e he => h.fr e ((delX_mem _ _ _).1 he).1, fun b hf => ?_⟩
  · have r := h.row e ((delX_mem _ _ _).1 he).1
    obtain ⟨cs, z, hb⟩ := r.block
    exact r.keep (ho.block _ r.lt (type_ne hb bp h.ty.2.symm))
  · rw [abs_del]; exact ⟨delX_rising h.good.rising k, fun e he => h.good.chain e ((delX_mem _ _ _).1 he).1⟩
  · by_cases e : b = p
    · subst e; exact ⟨_, _, _, bp4, .inl rfl⟩
    · obtain ⟨cs, t, z, hc, ht⟩ := h.own b hf
      exact ⟨cs, t, z, (ho.block b (h.lt hf) e).trans hc, ht⟩
/-- a chain in new memory is laid under its key -/
theorem StoX.anew {F : Nat → Prop} {w w3 w4 : World} {p o : Nat} {t : TypeId} {m : List En} {mk : Sp} {k : ByteArray} (h : StoX F w p o t m mk) (hd : Hd) (row : Row w3 k hd) (hb : Below w.heap.size w w3) (hg : w.heap.size ≤ hd.g)
    (hx : Xi w4 p o (setX m k hd)) (ho : Onl (fun b => b = p) w3 w4) (hpt : Part p o 1 w3 w4) (good : Good (setX (abs m) k hd.vs)) :
    ∃ F', StoX F' w4 p o t (setX m k hd) mk ∧ (∀ b, F' b → F b ∨ w.heap.size ≤ b) :=
  let ⟨F', h1, h2, _⟩ := h.laid (ga := none) (n := 0) (cap := 0) hd (fun b hb => by simp [Value.ownBlock] at hb) (fun e _ _ hb => by simp [Value.ownBlock] at hb) row ⟨hb.os, hb.tape, hb.output, hb.size, fun k hk _ => hb.block k hk⟩ (.inr hg) hx ho hpt good
  ⟨F', h1, h2⟩

set_option maxHeartbeats 1000000 in
set_option maxRecDepth 8000 in
theorem drop_is {F : Nat → Prop} {w : World} {p o : Nat} {ty : TypeId} {m : List En} {mk : Sp} {k : ByteArray} {hd : Hd} {n : Nat} (h : StoX F w p o ty m mk) (r : Row w k hd) (hr : Ris hd.vs) (hn : n ≤ hd.n) (hb : (hd.n + 1) * 64 ≤ 140737488355328) (hm : m.length + 1 ≤ 1152921504606846976) :
    Calls Tryd.prog 41 #[.pointer (some ⟨p, o, none⟩), .string k, .slice (some ⟨hd.g, 0, none⟩) hd.n hd.cap, .int .i64 n] w fun e w' => (∃ v0, e = .returned v0) ∧ (∃ F' m', StoX F' w' p o ty m' mk ∧ abs m' = dropM (abs m) k hd.vs n ∧ m'.length ≤ m.length + 1 ∧ ∀ b, F' b → F b ∨ w.heap.size ≤ b) ∧ Onl (fun b => b = p) w w' ∧ Part p o 1 w w' := by
  have hlen := r.len
  have hgd := dropM_good (k := k) h.good hr (n := n) (by omega)
  by_cases h0 : n = 0
  · subst h0
    have HE : Hid (dropM (abs m) k hd.vs 0 = abs m) := rfl
    have H := hid h
    clear h r hr hn hb hm hlen hgd
    go_enter Tryd.func41, Tryd.ntmps41
    go_wp2_with fail
    go_end0
    exact ⟨⟨_, rfl⟩, ⟨F, m, H.out, HE.out.symm, by omega, fun b hb => .inl hb⟩, Onl.refl _ _, Part.refl _ _ _ _⟩
  · have q0 : ((n : Int) == 0) = false := by rw [beq_eq_false_iff_ne]; omega
    by_cases h1 : n = hd.n
    · subst h1
      have HE : Hid (dropM (abs m) k hd.vs hd.n = delX (abs m) k) := by show _ = _; unfold dropM; rw [if_neg h0, if_pos hlen.symm]
      have DL := hid (del_is h.xi k hm)
      have H := hid h
      obtain ⟨g, n, cap, vs⟩ := hd
      simp only at HE q0 ⊢
      clear h r hr hn hb hm hlen hgd h0
      go_enter Tryd.func41, Tryd.ntmps41
      go_wp2_with (go_at_call 52; refine DL.out.mono ?_; rintro e w1 ⟨rfl, hx, ho, hpt⟩)
      go_end0
      refine ⟨⟨_, rfl⟩, ⟨F, delX m k, H.out.deleted hx ho hpt, by rw [abs_del]; exact HE.out.symm, ?_, fun b hb => .inl hb⟩, ho, hpt⟩
      have : (delX m k).length ≤ m.length := List.length_filter_le _ _
      omega
    · have q1 : ((n : Int) == (hd.n : Int)) = false := by rw [beq_eq_false_iff_ne]; omega
      have HE : Hid (dropM (abs m) k hd.vs n = setX (abs m) k (hd.vs.drop n)) := by show _ = _; unfold dropM; rw [if_neg h0, if_neg (by omega)]
      rw [HE.out] at hgd
      have WO : Hid (∀ W, Below w.heap.size w W → _) := fun W hb' => without_is' (r.later hb') (by omega : n < hd.n) hb
      have ST : Hid (∀ W (hd' : Hd), Below w.heap.size w W → _) := fun W hd' hb' => set_is (h.xi.later hb') k hd' hm
      have HA : Hid (∀ w3 w4 (hd' : Hd), Below w.heap.size w w3 → Row w3 k hd' → hd'.vs = hd.vs.drop n → w.heap.size ≤ hd'.g → Xi w4 p o (setX m k hd') → Onl (fun b => b = p) w3 w4 → Part p o 1 w3 w4 → ∃ F' m', StoX F' w4 p o ty m' mk ∧ abs m' = dropM (abs m) k hd.vs n ∧ m'.length ≤ m.length + 1 ∧ ∀ b, F' b → F b ∨ w.heap.size ≤ b) := fun w3 w4 hd' hb' row hvs hg hx ho hpt => by
        obtain ⟨F', s1, s2⟩ := h.anew hd' row hb' hg hx ho hpt (by rw [hvs]; exact hgd)
        exact ⟨F', _, s1, by rw [abs_set, hvs, HE.out], setX_len _ _ _, s2⟩
      obtain ⟨vs0, hvs0⟩ : ∃ v, v = hd.vs := ⟨_, rfl⟩
      rw [← hvs0] at WO HA HE ⊢
      obtain ⟨g, q, cap, vs⟩ := hd
      simp only at q1 WO ⊢
      clear h r hr hn hb hm hlen hgd h0 h1 hvs0
      go_enter Tryd.func41, Tryd.ntmps41
      go_wp2_with fail
      go_region_held3 (fun w' => Onl (fun b => b = p) w w')
        ((repeat (first | exact Onl.refl _ _ | assumption | refine Onl.drew ?_ | refine Onl.al ?_ _)))
        (first
          | (go_at_call 47; refine (ST.out w3 hd' hc3).mono ?_; rintro e w4 ⟨rfl, hx, ho4, hp4⟩; have hO4 : Onl (fun b => b = p) w w4 := hO3.trans ho4)
          | (go_at_call 53; refine (WO.out _ (by (repeat (first | exact Below.refl _ _ | assumption | refine Below.drew ?_ | refine Below.al ?_ _ | refine Below.setCell ?_ (by first | exact Nat.le_refl _ | (simp; omega) | (simp; done)) _ | refine Below.on ?_ (by assumption))))).mono ?_; rintro e w3 ⟨hd', rfl, hr3, hv3, hg3, hb3⟩; have hc3 : Below w.heap.size w w3 := (by (repeat (first | exact Below.refl _ _ | assumption | refine Below.drew ?_ | refine Below.al ?_ _ | refine Below.setCell ?_ (by first | exact Nat.le_refl _ | (simp; omega) | (simp; done)) _ | refine Below.on ?_ (by assumption)))); have hO3 : Onl (fun b => b = p) w w3 := Onl.of_below hc3))
      go_wp2_with fail
      go_end0
      exact ⟨⟨_, rfl⟩, HA.out w3 w4 hd' hc3 hr3 hv3 (by first | exact hg3 | (have := hg3; simpa using this)) hx ho4 hp4, hO4, (Part.below hc3).trans hp4⟩
end Go.Proofs.YtaknkodjganacaaDoor.Vs
