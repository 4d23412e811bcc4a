import Derived.Test.YtfafkohghgliaaaTuO
/- The document's lenient reading, plain. -/
namespace Go.Proofs.Ytfafkohghgliaaa.Tu
open Go.Proofs.Ytfafkohghgliaaa
set_option linter.unusedVariables false
set_option linter.unusedSectionVars false
variable [DecidableEq Vl]

/-- a text is read leniently: what it is, how many bytes that took -/
def gtx : List Nat → List Nat × Nat
  | [] => ([], 0)
  | [b] => if b = 0 then ([], 1) else ([b], 1)
  | b :: c :: r => if b = 0 then (if c = 255 then (0 :: (gtx r).1, (gtx r).2 + 2) else ([], 1)) else (b :: (gtx (c :: r)).1, (gtx (c :: r)).2 + 1)
theorem gtx_unesc : ∀ (l : List Nat) {s r : List Nat}, unesc l = some (s, r) → (gtx l).1 = s ∧ l.drop (gtx l).2 = r
  | [], _, _, h => by simp [unesc] at h
  | [b], s, r, h => by
    unfold unesc at h
    split at h
    · rename_i hb; injection h with h; injection h with h1 h2; subst h1 h2
      simp [gtx, hb]
    · cases h
  | b :: c :: l, s, r, h => by
    unfold unesc at h
    split at h
    · rename_i hb
      split at h
      · rename_i hc
        obtain ⟨p, hp, he⟩ := Option.map_eq_some_iff.1 h
        injection he with h1 h2
        subst h1 h2
        have := gtx_unesc l hp
        rw [gtx, if_pos hb, if_pos hc]
        exact ⟨by simp [this.1], by simpa using this.2⟩
      · rename_i hc
        injection h with h; injection h with h1 h2; subst h1 h2
        rw [gtx, if_pos hb, if_neg hc]
        exact ⟨rfl, rfl⟩
    · rename_i hb
      obtain ⟨p, hp, he⟩ := Option.map_eq_some_iff.1 h
      injection he with h1 h2
      subst h1 h2
      have := gtx_unesc (c :: l) hp
      rw [gtx, if_neg hb]
      exact ⟨by simp [this.1], by simpa using this.2⟩
theorem gtx_le : ∀ l : List Nat, (gtx l).2 ≤ l.length ∧ (gtx l).1.length ≤ (gtx l).2
  | [] => by simp [gtx]
  | [b] => by unfold gtx; split <;> simp
  | b :: c :: l => by
    have h1 := gtx_le l
    have h2 := gtx_le (c :: l)
    unfold gtx
    split
    · split <;> simp <;> omega
    · simp at h2 ⊢; omega
theorem gtx_b8 : ∀ {l : List Nat}, B8 l → B8 (gtx l).1
  | [], _ => B8.nil
  | [b], h => by
    unfold gtx
    split
    · exact B8.nil
    · exact h
  | b :: c :: l, h => by
    have h1 := gtx_b8 (l := l) (fun x hx => h x (by simp [hx]))
    have h2 := gtx_b8 (l := c :: l) (fun x hx => h x (List.mem_cons_of_mem _ hx))
    unfold gtx
    split
    · split
      · intro x hx
        rcases List.mem_cons.1 hx with rfl | hx
        · omega
        · exact h1 x hx
      · exact B8.nil
    · intro x hx
      rcases List.mem_cons.1 hx with rfl | hx
      · exact h _ (by simp)
      · exact h2 x hx
/-- what a lenient guess at bytes must be: where a value can be taken it is that one -/
structure Gd (l : List Nat) (v : Vl) (n : Nat) : Prop where
  ok : v.ok
  pos : 1 ≤ n
  le : n ≤ l.length
  len : v.s.length ≤ n
  is : ∀ v' r, takeV l = some (v', r) → v = v' ∧ l.drop n = r
theorem gd_text {r : List Nat} (h8 : B8 (48 :: r)) : Gd (48 :: r) (vText (gtx r).1) ((gtx r).2 + 1) := by
  have h1 := gtx_le r
  refine ⟨⟨by simp [vText, In64], gtx_b8 (fun x hx => h8 x (by simp [hx]))⟩, by omega, by simp; omega, by simp [vText]; omega, fun v' q h => ?_⟩
  rw [takeV_cons, if_neg (by decide), if_neg (by decide), if_neg (by decide), if_pos rfl] at h
  obtain ⟨p, hp, he⟩ := Option.map_eq_some_iff.1 h
  injection he with e1 e2
  subst e1 e2
  have := gtx_unesc r hp
  exact ⟨by rw [this.1], by simpa using this.2⟩
theorem gd_bool {c : Nat} {r : List Nat} (h : c = 2 ∨ c = 3) : Gd (c :: r) (vBool (decide (c = 3))) 1 := by
  refine ⟨⟨by simp [vBool, In64], B8.nil⟩, by omega, by simp, by simp [vBool], fun v' q hq => ?_⟩
  rcases h with rfl | rfl
  · rw [takeV_cons, if_neg (by decide), if_pos rfl] at hq
    injection hq with hq; injection hq with e1 e2; subst e1 e2; exact ⟨rfl, rfl⟩
  · rw [takeV_cons, if_neg (by decide), if_neg (by decide), if_pos rfl] at hq
    injection hq with hq; injection hq with e1 e2; subst e1 e2; exact ⟨rfl, rfl⟩
theorem gd_null {c : Nat} {r : List Nat} (h2 : c ≠ 2) (h3 : c ≠ 3) (h4 : c ≠ 48) (h : c < 16 ∨ 32 < c) : Gd (c :: r) vNull 1 := by
  refine ⟨⟨by simp [vNull, In64], B8.nil⟩, by omega, by simp, by simp [vNull], fun v' q hq => ?_⟩
  rw [takeV_cons] at hq
  split at hq
  · injection hq with hq; injection hq with e1 e2; subst e1 e2; exact ⟨rfl, rfl⟩
  · rw [if_neg (by omega)] at hq; cases hq
theorem gd_int {c : Nat} {r : List Nat} {x : Int} (h1 : 16 ≤ c) (h2 : c ≤ 32) (hx : In64 x) (hxx : In64 (dgI c (vb (dgL c (r.take (dgs c))))) → x = dgI c (vb (dgL c (r.take (dgs c))))) :
    Gd (c :: r) (vInt x) (min (dgs c) r.length + 1) := by
  refine ⟨⟨hx, B8.nil⟩, by omega, by simp; omega, by simp [vInt], fun v' q hq => ?_⟩
  rw [takeV_cons, if_neg (by omega), if_neg (by omega), if_neg (by omega), if_neg (by omega), if_pos ⟨h1, h2⟩] at hq
  unfold takeI at hq
  split at hq
  · cases hq
  · rename_i hk
    split at hq
    · rename_i hh
      injection hq with hq; injection hq with e1 e2
      subst e1 e2
      refine ⟨by rw [hxx hh.2], ?_⟩
      rw [Nat.min_eq_left (by omega)]
      rfl
    · cases hq
/-- one guess behind the other -/
def Gs : List Nat → List Vl → Prop
  | l, [] => l = []
  | l, v :: t => ∃ n, Gd l v n ∧ Gs (l.drop n) t
theorem Gs.nil : Gs [] [] := rfl
theorem Gs.cons {l : List Nat} {v : Vl} {n : Nat} {t : List Vl} (h : Gd l v n) (r : Gs (l.drop n) t) : Gs l (v :: t) := ⟨n, h, r⟩
theorem Gs.rule {P : List Nat → List Vl → Prop} (hn : P [] []) (hc : ∀ l v n t, Gd l v n → P (l.drop n) t → P l (v :: t)) : ∀ (g : List Vl) {l : List Nat}, Gs l g → P l g
  | [], l, h => by
    obtain rfl : l = [] := h
    exact hn
  | v :: t, l, h => by
    obtain ⟨n, hd, hr⟩ := h
    exact hc l v n t hd (Gs.rule hn hc t hr)
theorem gs_dec {l : List Nat} {g : List Vl} (h : Gs l g) : ∀ {f : Nat} {t : List Vl}, decF f l = some t → g = t := by
  refine Gs.rule (P := fun l g => ∀ {f : Nat} {t : List Vl}, decF f l = some t → g = t) ?_ ?_ g h
  · intro f t ht
    cases f with
    | zero => unfold decF at ht; rw [if_pos rfl] at ht; injection ht
    | succ f => unfold decF at ht; rw [if_pos rfl] at ht; injection ht
  · intro l v n t hd ih f u hu
    have hne : l ≠ [] := by intro e; subst e; have := hd.le; have := hd.pos; simp at *; omega
    cases f with
    | zero => unfold decF at hu; rw [if_neg hne] at hu; cases hu
    | succ f =>
      unfold decF at hu
      rw [if_neg hne] at hu
      split at hu
      · cases hu
      · rename_i v' r hv
        obtain ⟨p, hp, rfl⟩ := Option.map_eq_some_iff.1 hu
        have := hd.is v' r hv
        rw [this.1]
        rw [this.2] at ih
        rw [ih hp]
theorem gs_ok {l : List Nat} {g : List Vl} (h : Gs l g) : OkT g ∧ (encL g).length ≤ 11 * l.length ∧ g.length ≤ l.length ∧ ∀ v ∈ g, v.s.length ≤ l.length := by
  refine Gs.rule (P := fun l g => OkT g ∧ (encL g).length ≤ 11 * l.length ∧ g.length ≤ l.length ∧ ∀ v ∈ g, v.s.length ≤ l.length) ?_ ?_ g h
  · exact ⟨OkT.nil, by simp [encL], by simp, by simp⟩
  · intro l v n t hd ih
    have hl := (codeV_len hd.ok.n64).2
    have h1 := hd.pos
    have h2 := hd.le
    have h3 := hd.len
    rw [List.length_drop] at ih
    refine ⟨fun x hx => ?_, ?_, ?_, fun x hx => ?_⟩
    · rcases List.mem_cons.1 hx with rfl | hx
      · exact hd.ok
      · exact ih.1 x hx
    · rw [encL_cons, List.length_append]; omega
    · simp; omega
    · rcases List.mem_cons.1 hx with rfl | hx
      · omega
      · have := ih.2.2.2 x hx; omega
theorem Gs.snoc : ∀ {l : List Nat} {k : Nat} {g : List Vl}, (∀ z, Gs (l.drop k) z → Gs l (g ++ z)) → ∀ {v : Vl} {n : Nat}, Gd (l.drop k) v n → ∀ z, Gs (l.drop (k + n)) z → Gs l ((g ++ [v]) ++ z) := by
  intro l k g h v n hd z hz
  rw [List.append_assoc]
  exact h _ (.cons hd (by rw [List.drop_drop]; exact hz))
/-- what the lenient reading gives is written back just if it is the tuple -/
theorem gs_back {l : List Nat} {g : List Vl} (h8 : B8 l) (h : Gs l g) : (okT g = true ∧ encL g = l) ↔ decT l = some g := by
  constructor
  · rintro ⟨h1, h2⟩
    have := dec_enc h1 (gs_ok h).1
    rwa [h2] at this
  · intro hd
    exact ⟨(dec_only h8 hd).1, (dec_only h8 hd).2.2⟩
theorem gs_some {l : List Nat} {g t : List Vl} (h : Gs l g) (hd : decT l = some t) : g = t := gs_dec h hd
end Go.Proofs.Ytfafkohghgliaaa.Tu
