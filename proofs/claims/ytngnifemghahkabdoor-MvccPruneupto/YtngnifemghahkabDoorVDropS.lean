import Derived.Test.YtngnifemghahkabDoorVDrop
namespace Go.Proofs.YtngnifemghahkabDoor.Vs
open Go.RowKit Go.Sort
set_option linter.unusedVariables false

/-- the n oldest of a key's chain cs go -/
def dropM (M : Mst) (k : ByteArray) (cs : Chain) (n : Nat) : Mst := if n = 0 then M else if n = cs.length then delX M k else setX M k (cs.drop n)
theorem dropM_good {M : Mst} (h : Good M) {k : ByteArray} {cs : Chain} (hr : Ris cs) {n : Nat} (hn : n ≤ cs.length) : Good (dropM M k cs n) := by
  unfold dropM
  split
  · exact h
  · split
    · exact ⟨delX_rising h.rising k, fun e he => h.chain e ((delX_mem _ _ _).1 he).1⟩
    · refine ⟨setX_rising h.rising _ _, fun e he => ?_⟩
      rcases (setX_mem h.rising _ _ e).1 he with rfl | ⟨he, _⟩
      · refine ⟨fun e => ?_, List.Pairwise.drop hr⟩
        have := congrArg List.length e
        simp at this; omega
      · exact h.chain e he
theorem pairwise_del {R : En → En → Prop} {l : List En} (h : l.Pairwise R) (k : ByteArray) : (delX l k).Pairwise R := List.Pairwise.filter _ h
theorem StoX.deleted {F : Nat → Prop} {w w' : World} {p X : Nat} {m : List En} {mk : Sp} {k : ByteArray} (h : StoX F w p X m mk) (hx : Xi w' X (delX m k)) (ho : Onl (fun b => b = X) w w') : StoX F w' p X (delX m k) mk := by
  obtain ⟨vx, bx⟩ := h.xi.box
  have bx : w.heap[X]? = some (.cells #[vx] 82 (0, 0)) := bx
  obtain ⟨vx4, bx4⟩ := hx.box
  have bx4 : w'.heap[X]? = some (.cells #[vx4] 82 (0, 0)) := bx4
  refine ⟨(ho.block p (Array.getElem?_eq_some_iff.1 h.blk).1 (type_ne h.blk bx (by decide))).trans h.blk, hx, fun e he => ?_, pairwise_del h.apart k, ?_, h.fp, h.fx, fun e he => h.fr e ((delX_mem _ _ _).1 he).1, fun b hf => ?_⟩
  · have r := h.row e ((delX_mem _ _ _).1 he).1
    obtain ⟨cs, z, hb⟩ := r.block
    exact r.keep (ho.block _ r.lt (type_ne hb bx (by decide)))
  · rw [abs_del]; exact ⟨delX_rising h.good.rising k, fun e he => h.good.chain e ((delX_mem _ _ _).1 he).1⟩
  · by_cases e : b = X
    · subst e; exact ⟨_, _, _, bx4, .inr (.inl rfl)⟩
    · obtain ⟨cs, t, z, hc, ht⟩ := h.own b hf
      exact ⟨cs, t, z, (ho.block b (h.lt hf) e).trans hc, ht⟩
/-- a chain in new memory is laid under its key -/
theorem StoX.anew {F : Nat → Prop} {w w3 w4 : World} {p X : Nat} {m : List En} {mk : Sp} {k : ByteArray} (h : StoX F w p X m mk) (hd : Hd) (row : Row w3 k hd) (hb : Below w.heap.size w w3) (hg : w.heap.size ≤ hd.g)
    (hx : Xi w4 X (setX m k hd)) (ho : Onl (fun b => b = X) w3 w4) (good : Good (setX (abs m) k hd.vs)) :
    ∃ F', StoX F' w4 p X (setX m k hd) mk ∧ (∀ b, F' b → F b ∨ w.heap.size ≤ b) :=
  let ⟨F', h1, h2, _⟩ := h.laid (ga := none) (n := 0) (cap := 0) hd (fun b hb => by simp [Value.ownBlock] at hb) (fun e _ _ hb => by simp [Value.ownBlock] at hb) row ⟨hb.os, hb.tape, hb.output, hb.size, fun k hk _ => hb.block k hk⟩ (.inr hg) hx ho good
  ⟨F', h1, h2⟩

set_option maxHeartbeats 1000000 in
set_option maxRecDepth 8000 in
theorem drop_is {F : Nat → Prop} {w : World} {p X : Nat} {m : List En} {mk : Sp} {k : ByteArray} {hd : Hd} {n : Nat} (h : StoX F w p X m mk) (r : Row w k hd) (hr : Ris hd.vs) (hn : n ≤ hd.n) (hb : (hd.n + 1) * 64 ≤ 140737488355328) (hm : m.length + 1 ≤ 1152921504606846976) :
    Calls Tryd.prog 23 #[pt p, .string k, .slice (some ⟨hd.g, 0, none⟩) hd.n hd.cap, .int .i64 n] w fun e w' => (∃ v0, e = .returned v0) ∧ (∃ F' m', StoX F' w' p X m' mk ∧ abs m' = dropM (abs m) k hd.vs n ∧ m'.length ≤ m.length + 1 ∧ ∀ b, F' b → F b ∨ w.heap.size ≤ b) ∧ Onl (fun b => b = X) w w' := by
  have c0 := Sto.c0 h
  have hlen := r.len
  have hgd := dropM_good (k := k) h.good hr (n := n) (by omega)
  by_cases h0 : n = 0
  · subst h0
    have HE : Hid (dropM (abs m) k hd.vs 0 = abs m) := rfl
    have H := hid h
    clear h r hr hn hb hm c0 hlen hgd
    go_enter Tryd.func23, Tryd.ntmps23
    go_wp2_with fail
    go_end0
    exact ⟨⟨_, rfl⟩, ⟨F, m, H.out, HE.out.symm, by omega, fun b hb => .inl hb⟩, Onl.refl _ _⟩
  · have q0 : ((n : Int) == 0) = false := by rw [beq_eq_false_iff_ne]; omega
    by_cases h1 : n = hd.n
    · subst h1
      have HE : Hid (dropM (abs m) k hd.vs hd.n = delX (abs m) k) := by show _ = _; unfold dropM; rw [if_neg h0, if_pos hlen.symm]
      have DL := hid (del_is h.xi k hm)
      have H := hid h
      obtain ⟨g, n, cap, vs⟩ := hd
      simp only at HE q0 ⊢
      clear h r hr hn hb hm hlen hgd h0
      go_enter Tryd.func23, Tryd.ntmps23
      go_wp2_with (go_at_call 35; refine DL.out.mono ?_; rintro e w1 ⟨rfl, hx, ho⟩)
      go_end0
      refine ⟨⟨_, rfl⟩, ⟨F, delX m k, H.out.deleted hx ho, by rw [abs_del]; exact HE.out.symm, ?_, fun b hb => .inl hb⟩, ho⟩
      have : (delX m k).length ≤ m.length := List.length_filter_le _ _
      omega
    · have q1 : ((n : Int) == (hd.n : Int)) = false := by rw [beq_eq_false_iff_ne]; omega
      have HE : Hid (dropM (abs m) k hd.vs n = setX (abs m) k (hd.vs.drop n)) := by show _ = _; unfold dropM; rw [if_neg h0, if_neg (by omega)]
      rw [HE.out] at hgd
      have WO : Hid (∀ W, Below w.heap.size w W → _) := fun W hb' => without_is' (r.later hb') (by omega : n < hd.n) hb
      have ST : Hid (∀ W (hd' : Hd), Below w.heap.size w W → _) := fun W hd' hb' => set_is (h.xi.later hb') k hd' hm
      have HA : Hid (∀ w3 w4 (hd' : Hd), Below w.heap.size w w3 → Row w3 k hd' → hd'.vs = hd.vs.drop n → w.heap.size ≤ hd'.g → Xi w4 X (setX m k hd') → Onl (fun b => b = X) w3 w4 → ∃ F' m', StoX F' w4 p X m' mk ∧ abs m' = dropM (abs m) k hd.vs n ∧ m'.length ≤ m.length + 1 ∧ ∀ b, F' b → F b ∨ w.heap.size ≤ b) := fun w3 w4 hd' hb' row hvs hg hx ho => by
        obtain ⟨F', s1, s2⟩ := h.anew hd' row hb' hg hx ho (by rw [hvs]; exact hgd)
        exact ⟨F', _, s1, by rw [abs_set, hvs, HE.out], setX_len _ _ _, s2⟩
      obtain ⟨vs0, hvs0⟩ : ∃ v, v = hd.vs := ⟨_, rfl⟩
      rw [← hvs0] at WO HA HE ⊢
      have hpX : p ≠ X := by
        obtain ⟨u, bx⟩ := h.xi.box
        exact type_ne h.blk (show w.heap[X]? = _ from bx) (by decide)
      have HPX := hid hpX
      obtain ⟨g, q, cap, vs⟩ := hd
      simp only at q1 WO ⊢
      clear h r hr hn hb hm hlen hgd h0 h1 hvs0 hpX
      go_enter Tryd.func23, Tryd.ntmps23
      go_wp2_with fail
      go_region_held3 (fun w' => w'.cell? ⟨p, 0, none⟩ = some (.pointer (some ⟨X, 0, none⟩)) ∧ Onl (fun b => b = X) w w')
        ((refine (fun (hO : Onl (fun b => b = X) w _) => ⟨hO.cell HPX.out c0, hO⟩) ?_; (repeat (first | exact Onl.refl _ _ | assumption | refine Onl.drew ?_ | refine Onl.al ?_ _))))
        (first
          | (go_at_call 36; refine (ST.out w3 hd' hc3).mono ?_; rintro e w4 ⟨rfl, hx, ho4⟩; have hO4 : Onl (fun b => b = X) w w4 := hO3.trans ho4)
          | (go_at_call 37; refine (WO.out _ (by (repeat (first | exact Below.refl _ _ | assumption | refine Below.drew ?_ | refine Below.al ?_ _ | refine Below.setCell ?_ (by first | exact Nat.le_refl _ | (simp; omega) | (simp; done)) _ | refine Below.on ?_ (by assumption))))).mono ?_; rintro e w3 ⟨hd', rfl, hr3, hv3, hg3, hb3⟩; have hc3 : Below w.heap.size w w3 := (by (repeat (first | exact Below.refl _ _ | assumption | refine Below.drew ?_ | refine Below.al ?_ _ | refine Below.setCell ?_ (by first | exact Nat.le_refl _ | (simp; omega) | (simp; done)) _ | refine Below.on ?_ (by assumption)))); have hO3 : Onl (fun b => b = X) w w3 := Onl.of_below hc3))
      go_wp2_with fail
      go_end0
      exact ⟨⟨_, rfl⟩, HA.out w3 w4 hd' hc3 hr3 hv3 (by first | exact hg3 | (have := hg3; simpa using this)) hx ho4, hO4⟩
end Go.Proofs.YtngnifemghahkabDoor.Vs
