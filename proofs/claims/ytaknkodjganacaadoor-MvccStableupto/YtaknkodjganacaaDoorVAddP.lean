import Derived.Test.YtaknkodjganacaaDoorVValue
/- A store with one version more: what stays, what is new. -/
namespace Go.Proofs.YtaknkodjganacaaDoor.Vs
open Go.RowKit Go.Sort
set_option linter.unusedVariables false

theorem pairwise_set {R : En → En → Prop} (hs : ∀ a b, R a b → R b a) {l : List En} (hr : Rising l) (h : l.Pairwise R) {k : ByteArray} {v : Hd} (hk : ∀ e ∈ l, e.1 ≠ k → R (k, v) e) : (setX l k v).Pairwise R := by
  induction l with
  | nil => exact List.pairwise_singleton _ _
  | cons x l ih =>
    have h' := List.pairwise_cons.1 h
    have hr' := List.pairwise_cons.1 hr
    unfold setX
    split
    · rename_i hlt
      refine List.pairwise_cons.2 ⟨fun e he => ?_, ih hr'.2 h'.2 fun e he => hk e (by simp [he])⟩
      rcases (setX_mem hr'.2 k v e).1 he with rfl | ⟨he, _⟩
      · exact hs _ _ (hk x (by simp) (lt_ne hlt))
      · exact h'.1 e he
    · rename_i hnl
      split
      · rename_i heq
        refine List.pairwise_cons.2 ⟨fun e he => hk e (by simp [he]) fun e' => ?_, h'.2⟩
        have := hr'.1 e he
        rw [heq, e', lt_irrefl] at this; cases this
      · rename_i hne
        refine List.pairwise_cons.2 ⟨fun e he => hk e he fun e' => ?_, h⟩
        rcases List.mem_cons.1 he with rfl | he
        · exact hne e'
        · have h3 := hr'.1 e he
          rw [e'] at h3; exact hnl h3
theorem pairwise_mem {R : En → En → Prop} (hs : ∀ a b, R a b → R b a) {l : List En} (h : l.Pairwise R) {a b : En} (ha : a ∈ l) (hb : b ∈ l) (hne : a ≠ b) : R a b := by
  induction l with
  | nil => cases ha
  | cons x l ih =>
    have h' := List.pairwise_cons.1 h
    rcases List.mem_cons.1 ha with ha1 | ha1 <;> rcases List.mem_cons.1 hb with hb1 | hb1
    · exact absurd (ha1.trans hb1.symm) hne
    · rw [ha1]; exact h'.1 b hb1
    · rw [hb1]; exact hs _ _ (h'.1 a ha1)
    · exact ih h'.2 ha1 hb1

/-- what Get hands out: a row, or nothing -/
theorem got_row {F : Nat → Prop} {w : World} {p o : Nat} {t : TypeId} {m : List En} {mk : Sp} (h : StoX F w p o t m mk) (k : ByteArray) :
    ∃ ga n cap vs, hdv (getX m k) = .slice ga n cap ∧ w.ownsRow 0 46 6 (.slice ga n cap) n (flatV k vs) ∧ vs.length = n ∧ (getX (abs m) k).getD [] = vs ∧ (n = 0 ↔ getX m k = none) ∧
      (∀ b, (Value.slice ga n cap).ownBlock = some b → F b ∧ ∃ cs z, w.heap[b]? = some (.cells cs 46 z)) ∧ (∀ e ∈ m, e.1 ≠ k → (Value.slice ga n cap).ownBlock ≠ some e.2.g) := by
  cases hg : getX m k with
  | none =>
    refine ⟨none, 0, 0, [], rfl, World.ownsRow_nil _ _ _ _, rfl, by rw [abs_get, hg]; rfl, by simp, fun b hb => (by simp [Value.ownBlock] at hb), fun e _ _ hb => (by simp [Value.ownBlock] at hb)⟩
  | some hd =>
    have hm := (getX_some h.xi.rising).1 hg
    have r := h.row _ hm
    have hne := (h.good.chain (k, hd.vs) (List.mem_map.2 ⟨_, hm, rfl⟩)).1
    refine ⟨some ⟨hd.g, 0, none⟩, hd.n, hd.cap, hd.vs, rfl, r.own, r.len, by rw [abs_get, hg]; rfl, ?_, fun b hb => ?_, fun e he hek hb => ?_⟩
    · have := r.len
      constructor
      · intro h0; exact absurd (List.length_eq_zero_iff.1 (this.trans h0)) hne
      · intro e; cases e
    · have e : hd.g = b := by simpa [Value.ownBlock] using hb
      subst e
      exact ⟨h.fr _ hm, r.block⟩
    · have e' : hd.g = e.2.g := by simpa [Value.ownBlock] using hb
      exact pairwise_mem (R := fun x y => x.2.g ≠ y.2.g) (fun _ _ h => h.symm) h.apart hm he (fun e2 => hek (by rw [← e2])) e'

theorem type_ne {w : World} {a b : Nat} {cs ds : Array Value} {s t : TypeId} {y z : Nat × Nat} (ha : w.heap[a]? = some (.cells cs s y)) (hb : w.heap[b]? = some (.cells ds t z)) (h : s ≠ t) : a ≠ b := fun e => by
  subst e; rw [ha] at hb; cases hb; exact h rfl
theorem owned_block {w : World} {g n cap size : Nat} {t : TypeId} {xs : List Value} (h : w.ownsRow 0 t size (.slice (some ⟨g, 0, none⟩) n cap) n xs) : ∃ cs z, w.heap[g]? = some (.cells cs t z) := by
  obtain ⟨_, ⟨e, _⟩ | ⟨g', cap', cur, e, _, hg, _⟩⟩ := h
  · cases e
  · have e2 : g = g' := by injection e with e _ _; injection e with e; injection e
    exact ⟨cur, (0, 0), by rw [e2]; exact hg⟩

/-- a chain lies anew, longer or shorter, under its key -/
theorem StoX.laid {F : Nat → Prop} {w w3 w4 : World} {p o : Nat} {t : TypeId} {m : List En} {mk : Sp} {k : ByteArray} {ga : Option Addr} {n cap : Nat} (h : StoX F w p o t m mk) (hd : Hd)
    (hob : ∀ b, (Value.slice ga n cap).ownBlock = some b → F b ∧ ∃ cs z, w.heap[b]? = some (.cells cs 46 z)) (hoo : ∀ e ∈ m, e.1 ≠ k → (Value.slice ga n cap).ownBlock ≠ some e.2.g)
    (row : Row w3 k hd) (hg : w.grownBy w3 (Value.slice ga n cap).ownBlock) (hat : (Value.slice ga n cap).ownBlock = some hd.g ∨ w.heap.size ≤ hd.g)
    (hx : Xi w4 p o (setX m k hd)) (ho : Onl (fun b => b = p) w3 w4) (hpt : Part p o 1 w3 w4) (good : Good (setX (abs m) k hd.vs)) :
    ∃ F', StoX F' w4 p o t (setX m k hd) mk ∧ (∀ b, F' b → F b ∨ w.heap.size ≤ b) ∧ Onl F w w4 ∧ Part p o 1 w w4 := by
  obtain ⟨cs, bp, x1, x2, x3⟩ := h.obj
  have hn : ∀ (b : Nat) (cs : Array Value) (t : TypeId) (z : Nat × Nat), w.heap[b]? = some (Obj.cells cs t z) → t ≠ 46 → w3.heap[b]? = w.heap[b]? := fun b cs t z hb ht => hg.block b (Array.getElem?_eq_some_iff.1 hb).1 (fun e => by
    obtain ⟨_, cs', z', hb'⟩ := hob b e.symm
    exact type_ne hb hb' ht rfl)
  have bp3 : w3.heap[p]? = some (.cells cs t (0, 0)) := (hn p _ _ _ bp h.ty.2).trans bp
  obtain ⟨cs4, bp4, s4, e4⟩ := hpt cs t (0, 0) bp3
  have keep3 : ∀ b, b < w3.heap.size → b ≠ p → w4.heap[b]? = w3.heap[b]? := fun b hb hne => ho.block b hb hne
  obtain ⟨gcs, gz, bg⟩ := row.block
  have hgp : hd.g ≠ p := type_ne bg bp3 h.ty.2.symm
  have row4 : Row w4 k hd := row.keep (keep3 _ row.lt hgp)
  have oth : ∀ e ∈ m, e.1 ≠ k → Row w4 e.1 e.2 ∧ (Value.slice ga n cap).ownBlock ≠ some e.2.g := fun e he hek => by
    have r := h.row e he
    have hne := hoo e he hek
    have r3 : Row w3 e.1 e.2 := r.keep (hg.block _ r.lt (fun e' => hne e'.symm))
    obtain ⟨ecs, ez, be⟩ := r3.block
    exact ⟨r3.keep (keep3 _ r3.lt (type_ne be bp3 h.ty.2.symm)), hne⟩
  have hon : Onl F w w4 := ((grown_onl hg).mono (fun b hb => (hob b hb).1)).trans (ho.mono (fun b hb => by subst hb; exact h.fp))
  refine ⟨fun b => (F b ∧ (Value.slice ga n cap).ownBlock ≠ some b) ∨ b = hd.g, ⟨⟨cs4, bp4, by rw [e4 _ (by omega)]; exact x1, by rw [e4 _ (by omega)]; exact x2, by rw [e4 _ (by omega)]; exact x3⟩, h.ty, hx, ?_, ?_, by rw [abs_set]; exact good, ?_, ?_, ?_⟩, ?_, hon, (Part.same (hn p _ _ _ bp h.ty.2)).trans hpt⟩
  · intro e he
    rcases (setX_mem h.xi.rising k hd e).1 he with rfl | ⟨he, hek⟩
    · exact row4
    · exact (oth e he hek).1
  · refine pairwise_set (fun _ _ h => h.symm) h.xi.rising h.apart fun e he hek e' => ?_
    rcases hat with hat | hat
    · exact (oth e he hek).2 (by rw [hat]; exact congrArg _ e')
    · have := (h.row e he).lt
      have e2 : hd.g = e.2.g := e'
      omega
  · exact .inl ⟨h.fp, fun e => by obtain ⟨_, cs', z', hb'⟩ := hob p e; exact type_ne bp hb' h.ty.2 rfl⟩
  · intro e he
    rcases (setX_mem h.xi.rising k hd e).1 he with rfl | ⟨he, hek⟩
    · exact .inr rfl
    · exact .inl ⟨h.fr e he, (oth e he hek).2⟩
  · rintro b (⟨hf, hb⟩ | rfl)
    · by_cases hbX : b = p
      · subst hbX; exact ⟨_, _, _, bp4, .inl rfl⟩
      · obtain ⟨cs, t, z, hc, ht⟩ := h.own b hf
        have h3 := (hg.block b (h.lt hf) (fun e => hb e.symm)).trans hc
        exact ⟨cs, t, z, (keep3 b (Array.getElem?_eq_some_iff.1 h3).1 hbX).trans h3, ht⟩
    · obtain ⟨cs, z, hc⟩ := row4.block
      exact ⟨cs, _, z, hc, .inr rfl⟩
  · rintro b (⟨hf, _⟩ | rfl)
    · exact .inl hf
    · rcases hat with hat | hat
      · exact .inl (hob _ hat).1
      · exact .inr hat
end Go.Proofs.YtaknkodjganacaaDoor.Vs
