import Derived.Test.YtfafkohghgliaabDoorTuP
import Derived.Test.YtfafkohghgliaabDoorGtP
/- Tuples as text, plain (chapter 25): words between blanks, strictly and leniently. -/
namespace Go.Proofs.YtfafkohghgliaabDoor.Tu
open Go.Proofs.YtfafkohghgliaabDoor Go.Proofs.YtfafkohghgliaabDoor.Rt Go.Proofs.YtfafkohghgliaabDoor.Gt
set_option linter.unusedVariables false
set_option linter.unusedSectionVars false
variable [DecidableEq Vl]

abbrev nNull : List Nat := [110, 117, 108, 108]
abbrev nTrue : List Nat := [116, 114, 117, 101]
abbrev nFalse : List Nat := [102, 97, 108, 115, 101]
/-- an integer's digits, with its sign -/
def decI (n : Int) : List Nat := if n < 0 then 45 :: decN n.natAbs else decN n.natAbs
/-- a value's word -/
def saidL (v : Vl) : List Nat := if v.kd = 1 then (if v.fl then nTrue else nFalse) else if v.kd = 2 then decI v.n else if v.kd = 3 then 39 :: wordL v.s else nNull
/-- a tuple's text -/
def textL (t : List Vl) : List Nat := joinB (t.map saidL)
def numI (w : List Nat) : Int := if w.head? = some 45 then -(valN w.tail : Int) else (valN w : Int)
/-- what a word is -/
def hearL (w : List Nat) : Option Vl :=
  if w = nNull then some vNull else if w = nTrue then some (vBool true) else if w = nFalse then some (vBool false)
  else if w.head? = some 39 then (unword w.tail).map vText
  else if decI (numI w) = w ∧ In64 (numI w) then some (vInt (numI w)) else none
def parF : List (List Nat) → Option (List Vl)
  | [] => some []
  | w :: r => (hearL w).bind fun v => (parF r).map (v :: ·)
/-- what a text is -/
def parT (s : List Nat) : Option (List Vl) := if s = [] then some [] else parF (fld s)

theorem z64 : In64 0 := ⟨by decide, by decide⟩
theorem said_null : saidL vNull = nNull := rfl
theorem said_bool (f : Bool) : saidL (vBool f) = if f then nTrue else nFalse := rfl
theorem said_int (n : Int) : saidL (vInt n) = decI n := rfl
theorem said_text (s : List Nat) : saidL (vText s) = 39 :: wordL s := rfl
theorem decN_ne (n : Nat) : decN n ≠ [] := by
  rw [decN_eq]; split <;> simp
theorem decN_head (n : Nat) : ∃ c r, decN n = c :: r ∧ 48 ≤ c ∧ c ≤ 57 := by
  cases h : decN n with
  | nil => exact absurd h (decN_ne n)
  | cons c r => exact ⟨c, r, rfl, decN_range n c (by rw [h]; simp)⟩
theorem decI_head (n : Int) : ∃ c r, decI n = c :: r ∧ 45 ≤ c ∧ c ≤ 57 := by
  unfold decI
  split
  · exact ⟨_, _, rfl, by omega, by omega⟩
  · obtain ⟨c, r, h, h1, h2⟩ := decN_head n.natAbs
    exact ⟨c, r, h, by omega, h2⟩
theorem num_decI (n : Int) : numI (decI n) = n := by
  unfold decI
  split
  · unfold numI
    rw [if_pos (show (45 :: decN n.natAbs).head? = some 45 from rfl), List.tail_cons, val_dec]; omega
  · obtain ⟨c, r, h, h1, h2⟩ := decN_head n.natAbs
    unfold numI
    rw [if_neg (by rw [h]; simp; omega), val_dec]; omega
theorem decI_range (n : Int) : ∀ b ∈ decI n, 45 ≤ b ∧ b ≤ 57 := by
  intro b hb
  unfold decI at hb
  split at hb
  · rcases List.mem_cons.1 hb with rfl | hb
    · omega
    · have := decN_range _ b hb; omega
  · have := decN_range _ b hb; omega
theorem decN_len : ∀ (k n : Nat), n < 10 ^ (k + 1) → (decN n).length ≤ k + 1 := by
  intro k
  induction k with
  | zero => intro n h; rw [decN_eq, if_pos (by simpa using h)]; simp
  | succ k ih =>
    intro n h
    rw [decN_eq]
    split
    · simp
    · have := ih (n / 10) (by rw [Nat.pow_succ] at h; omega)
      simp; omega
theorem decI_len {n : Int} (h : In64 n) : 1 ≤ (decI n).length ∧ (decI n).length ≤ 20 := by
  obtain ⟨h1, h2⟩ := h
  have h3 := decN_len 18 n.natAbs (by
    have e : (10 : Nat) ^ (18 + 1) = 10000000000000000000 := by decide
    rw [e]; omega)
  obtain ⟨c, r, e, _⟩ := decN_head n.natAbs
  have : 1 ≤ (decN n.natAbs).length := by rw [e]; simp
  unfold decI
  split <;> (try rw [List.length_cons]) <;> omega
theorem hear_said {v : Vl} (hv : okV v = true) (h : v.ok) : hearL (saidL v) = some v := by
  rcases okV_iff hv with rfl | ⟨f, rfl⟩ | ⟨n, rfl⟩ | ⟨s, rfl⟩
  · rfl
  · cases f <;> rfl
  · rw [said_int]
    obtain ⟨c, r, e, h1, h2⟩ := decI_head n
    unfold hearL
    rw [num_decI]
    rw [if_neg (by rw [e]; simp; omega), if_neg (by rw [e]; simp; omega), if_neg (by rw [e]; simp; omega), if_neg (by rw [e]; simp; omega), if_pos ⟨rfl, h.n64⟩]
  · rw [said_text]
    unfold hearL
    rw [if_neg (by simp), if_neg (by simp), if_neg (by simp), if_pos (show (39 :: wordL s).head? = some 39 from rfl), List.tail_cons, show unword (wordL s) = some s from unword_word h.b8]
    rfl
theorem said_hear {w : List Nat} {v : Vl} (h8 : B8 w) (h : hearL w = some v) : okV v = true ∧ v.ok ∧ saidL v = w := by
  unfold hearL at h
  split at h
  · rename_i e; injection h with h; subst h; exact ⟨rfl, ⟨z64, B8.nil⟩, e.symm⟩
  · split at h
    · rename_i e; injection h with h; subst h; exact ⟨rfl, ⟨z64, B8.nil⟩, e.symm⟩
    · split at h
      · rename_i e; injection h with h; subst h; exact ⟨rfl, ⟨z64, B8.nil⟩, e.symm⟩
      · split at h
        · rename_i hh
          obtain ⟨s, hs, rfl⟩ := Option.map_eq_some_iff.1 h
          cases w with
          | nil => simp at hh
          | cons c r =>
            simp at hh
            subst hh
            rw [List.tail_cons] at hs
            have := word_unword (fun x hx => h8 x (by simp [hx])) hs
            exact ⟨rfl, ⟨z64, this.2⟩, by rw [said_text, this.1]⟩
        · split at h
          · rename_i hc
            injection h with h; subst h
            exact ⟨rfl, ⟨hc.2, B8.nil⟩, hc.1⟩
          · cases h
theorem said_len {v : Vl} (h : In64 v.n) : 1 ≤ (saidL v).length ∧ (saidL v).length ≤ 3 * v.s.length + 22 := by
  have h1 := decI_len h
  have h2 := wordL_len v.s
  unfold saidL
  split
  · split <;> simp [nTrue, nFalse] <;> omega
  · split
    · omega
    · split
      · simp; omega
      · show 1 ≤ 4 ∧ 4 ≤ _; omega
theorem said_b8 {v : Vl} (h : v.ok) : B8 (saidL v) ∧ 32 ∉ saidL v := by
  have h2 := wordL_range h.b8
  have h1 := decI_range v.n
  unfold saidL
  split
  · split
    · exact ⟨fun x hx => by simp [nTrue] at hx; omega, by decide⟩
    · exact ⟨fun x hx => by simp [nFalse] at hx; omega, by decide⟩
  · split
    · exact ⟨fun x hx => by have := h1 x hx; omega, fun hx => by have := h1 _ hx; omega⟩
    · split
      · refine ⟨fun x hx => ?_, fun hx => ?_⟩
        · rcases List.mem_cons.1 hx with rfl | hx
          · omega
          · have := h2 x hx; omega
        · rcases List.mem_cons.1 hx with hx | hx
          · cases hx
          · have := h2 _ hx; omega
      · exact ⟨fun x hx => by simp [nNull] at hx; omega, by decide⟩
theorem join_b8 : ∀ {ls : List (List Nat)}, (∀ l ∈ ls, B8 l) → B8 (joinB ls)
  | [], _ => B8.nil
  | [l], h => h l (by simp)
  | l :: x :: r, h => by
    show B8 (l ++ 32 :: joinB (x :: r))
    refine (h l (by simp)).append fun y hy => ?_
    rcases List.mem_cons.1 hy with rfl | hy
    · omega
    · exact join_b8 (ls := x :: r) (fun z hz => h z (by simp [hz])) y hy
theorem text_b8 {t : List Vl} (h : OkT t) : B8 (textL t) := join_b8 fun l hl => by
  obtain ⟨v, hv, rfl⟩ := List.mem_map.1 hl
  exact (said_b8 (h v hv)).1
theorem join_nil {ls : List (List Nat)} (h : joinB ls = []) (hl : ∀ l ∈ ls, l ≠ []) : ls = [] := by
  cases ls with
  | nil => rfl
  | cons l r =>
    cases r with
    | nil => exact absurd h (hl l (by simp))
    | cons x r => simp [joinB] at h
theorem text_nil : textL [] = [] := rfl
theorem text_ne {t : List Vl} (h : OkT t) (hn : textL t = []) : t = [] := by
  have := join_nil hn (fun l hl => by
    obtain ⟨v, hv, rfl⟩ := List.mem_map.1 hl
    intro e
    have := (said_len (h v hv).n64).1
    rw [e] at this; simp at this)
  exact List.map_eq_nil_iff.1 this
theorem parF_said : ∀ {t : List Vl}, okT t = true → OkT t → parF (t.map saidL) = some t
  | [], _, _ => rfl
  | v :: t, ho, h => by
    have hv : okV v = true ∧ okT t = true := by simpa [okT] using ho
    show (hearL (saidL v)).bind _ = _
    rw [hear_said hv.1 h.head]
    show (parF (t.map saidL)).map _ = _
    rw [parF_said hv.2 h.tail]; rfl
theorem par_text {t : List Vl} (ho : okT t = true) (h : OkT t) : parT (textL t) = some t := by
  by_cases h0 : textL t = []
  · rw [h0, text_ne h h0]; rfl
  · unfold parT
    rw [if_neg h0]
    unfold textL
    rw [fld_join (by intro e; apply h0; unfold textL; rw [e]; rfl) (fun l hl => by
      obtain ⟨v, hv, rfl⟩ := List.mem_map.1 hl
      exact (said_b8 (h v hv)).2)]
    exact parF_said ho h
theorem parF_only : ∀ {ws : List (List Nat)} {t : List Vl}, (∀ w ∈ ws, B8 w) → parF ws = some t → okT t = true ∧ OkT t ∧ t.map saidL = ws
  | [], t, _, h => by injection h with h; subst h; exact ⟨rfl, OkT.nil, rfl⟩
  | w :: r, t, h8, h => by
    obtain ⟨v, hv, h⟩ := Option.bind_eq_some_iff.1 h
    obtain ⟨p, hp, rfl⟩ := Option.map_eq_some_iff.1 h
    have h1 := said_hear (h8 w (by simp)) hv
    have ih := parF_only (fun x hx => h8 x (by simp [hx])) hp
    refine ⟨by simp only [okT, List.all_cons, h1.1, Bool.true_and]; exact ih.1, fun x hx => ?_, by rw [List.map_cons, h1.2.2, ih.2.2]⟩
    rcases List.mem_cons.1 hx with rfl | hx
    · exact h1.2.1
    · exact ih.2.1 x hx
theorem par_only {s : List Nat} {t : List Vl} (h8 : B8 s) (h : parT s = some t) : okT t = true ∧ OkT t ∧ textL t = s := by
  unfold parT at h
  split at h
  · rename_i e; injection h with h; subst h e; exact ⟨rfl, OkT.nil, rfl⟩
  · have := parF_only (fun w hw x hx => h8 x ((fld_mem s w hw).2 x hx)) h
    exact ⟨this.1, this.2.1, by unfold textL; rw [this.2.2, join_fld]⟩

/-- a word is heard leniently: where it is one, it is that one -/
structure Gh (w : List Nat) (v : Vl) : Prop where
  ok : v.ok
  len : v.s.length ≤ w.length
  is : ∀ {x}, hearL w = some x → x = v
def Hs : List (List Nat) → List Vl → Prop
  | ws, [] => ws = []
  | ws, v :: t => ∃ w r, ws = w :: r ∧ Gh w v ∧ Hs r t
theorem Hs.nil : Hs [] [] := rfl
theorem Hs.cons {w : List Nat} {v : Vl} {ws : List (List Nat)} {t : List Vl} (g : Gh w v) (r : Hs ws t) : Hs (w :: ws) (v :: t) := ⟨w, ws, rfl, g, r⟩
theorem Hs.rule {P : List (List Nat) → List Vl → Prop} (hn : P [] []) (hc : ∀ w v ws t, Gh w v → P ws t → P (w :: ws) (v :: t)) : ∀ (t : List Vl) {ws : List (List Nat)}, Hs ws t → P ws t
  | [], ws, h => by
    obtain rfl : ws = [] := h
    exact hn
  | v :: t, ws, h => by
    obtain ⟨w, r, rfl, g, hr⟩ := h
    exact hc w v r t g (Hs.rule hn hc t hr)
theorem Hs.snoc {ws : List (List Nat)} {t : List Vl} {w : List Nat} {v : Vl} (h : Hs ws t) (k : Gh w v) : Hs (ws ++ [w]) (t ++ [v]) :=
  Hs.rule (P := fun ws t => Hs (ws ++ [w]) (t ++ [v])) (Hs.cons k Hs.nil) (fun _ _ _ _ g ih => Hs.cons g ih) t h
theorem Hs.ok {ws : List (List Nat)} {t : List Vl} (h : Hs ws t) : OkT t := by
  refine Hs.rule (P := fun _ t => OkT t) OkT.nil ?_ t h
  intro w v ws t g ih x hx
  rcases List.mem_cons.1 hx with rfl | hx
  · exact g.ok
  · exact ih x hx
theorem Hs.len {ws : List (List Nat)} {t : List Vl} (h : Hs ws t) : t.length = ws.length :=
  Hs.rule (P := fun ws t => t.length = ws.length) rfl (fun _ _ _ _ _ ih => by simp [ih]) t h
theorem Hs.some {ws : List (List Nat)} {t x : List Vl} (h : Hs ws t) : parF ws = some x → x = t := by
  refine Hs.rule (P := fun ws t => ∀ x, parF ws = .some x → x = t) ?_ ?_ t h x
  · intro x h; injection h with h; exact h.symm
  · intro w v ws t g ih x h
    obtain ⟨v, hv, h⟩ := Option.bind_eq_some_iff.1 h
    obtain ⟨p, hp, rfl⟩ := Option.map_eq_some_iff.1 h
    rw [g.is hv, ih p hp]
/-- how long texts are -/
def joinN (ls : List (List Nat)) : Nat := ls.foldr (fun l a => l.length + 1 + a) 0
theorem join_len : ∀ {ls : List (List Nat)}, ls ≠ [] → (joinB ls).length + 1 = joinN ls
  | [], h => absurd rfl h
  | [l], _ => rfl
  | l :: x :: r, _ => by
    have := join_len (ls := x :: r) (by simp)
    show (l ++ 32 :: joinB (x :: r)).length + 1 = l.length + 1 + joinN (x :: r)
    rw [List.length_append, List.length_cons]; omega
theorem join_len_le (ls : List (List Nat)) : (joinB ls).length ≤ joinN ls := by
  cases ls with
  | nil => exact Nat.le_refl _
  | cons l r => have := join_len (ls := l :: r) (by simp); omega
theorem Hs.joinN {ws : List (List Nat)} {t : List Vl} (h : Hs ws t) : joinN (t.map saidL) ≤ 26 * joinN ws := by
  refine Hs.rule (P := fun ws t => Tu.joinN (t.map saidL) ≤ 26 * Tu.joinN ws) (Nat.le_refl _) ?_ t h
  intro w v ws t g ih
  have h1 := (said_len g.ok.n64).2
  have h2 := g.len
  show (saidL v).length + 1 + Tu.joinN (t.map saidL) ≤ 26 * (w.length + 1 + Tu.joinN ws)
  omega
theorem Hs.short {ws : List (List Nat)} {t : List Vl} (v : Vl) (h : Hs ws t) : v ∈ t → v.s.length ≤ Tu.joinN ws := by
  refine Hs.rule (P := fun ws t => ∀ v : Vl, v ∈ t → v.s.length ≤ Tu.joinN ws) (fun v h => by cases h) ?_ t h v
  intro w u ws t g ih v h
  show _ ≤ w.length + 1 + Tu.joinN ws
  rcases List.mem_cons.1 h with rfl | h
  · have := g.len; omega
  · have := ih v h; omega
theorem joinN_count (ls : List (List Nat)) : ls.length ≤ joinN ls := by
  induction ls with
  | nil => exact Nat.le_refl _
  | cons l r ih => show _ ≤ l.length + 1 + joinN r; simp; omega
theorem joinN_take (ls : List (List Nat)) (k : Nat) : joinN (ls.take k) ≤ joinN ls := by
  induction ls generalizing k with
  | nil => simp
  | cons l r ih =>
    cases k with
    | zero => exact Nat.zero_le _
    | succ k => have := ih k; show l.length + 1 + joinN (r.take k) ≤ l.length + 1 + joinN r; omega
/-- one word more -/
theorem join_snoc (ls : List (List Nat)) (l : List Nat) : joinB (ls ++ [l]) = if ls = [] then l else joinB ls ++ 32 :: l := by
  induction ls with
  | nil => rfl
  | cons x r ih =>
    rw [if_neg (by simp)]
    cases r with
    | nil => rfl
    | cons y r =>
      rw [if_neg (by simp)] at ih
      show x ++ 32 :: joinB ((y :: r) ++ [l]) = (x ++ 32 :: joinB (y :: r)) ++ 32 :: l
      rw [ih]; simp
theorem text_snoc (t : List Vl) (v : Vl) : textL (t ++ [v]) = if t = [] then saidL v else textL t ++ 32 :: saidL v := by
  unfold textL
  rw [List.map_append, List.map_cons, List.map_nil, join_snoc]
  simp
/-- the document's number: without its minus signs, in 64 bits -/
def hmS (a b : Nat) : Nat := if b = 45 then a else (a * 10 + b + 18446744073709551568) % 18446744073709551616
def hm (l : List Nat) : Nat := l.foldl hmS 0
theorem hm_snoc (l : List Nat) (b : Nat) : hm (l ++ [b]) = hmS (hm l) b := by simp [hm]
theorem hm_lt (l : List Nat) : hm l < 18446744073709551616 := by
  unfold hm
  have : ∀ (l : List Nat) a, a < 18446744073709551616 → l.foldl hmS a < 18446744073709551616 := by
    intro l
    induction l with
    | nil => intro a h; exact h
    | cons b r ih =>
      intro a h
      refine ih _ ?_
      unfold hmS
      split
      · exact h
      · exact Nat.mod_lt _ (by omega)
  exact this l 0 (by omega)
theorem hm_dec : ∀ n : Nat, n < 18446744073709551616 → hm (decN n) = n := by
  intro n
  induction n using Nat.strongRecOn with
  | _ n ih =>
    intro h
    rw [decN_eq]
    by_cases h10 : n < 10
    · rw [if_pos h10]
      show hmS 0 (48 + n) = n
      unfold hmS
      rw [if_neg (by omega)]; omega
    · rw [if_neg h10, hm_snoc, ih (n / 10) (by omega) (by omega)]
      unfold hmS
      rw [if_neg (by omega)]; omega
theorem hm_sign (l : List Nat) : hm (45 :: l) = hm l := rfl
/-- what the document makes of a word that is none of the others -/
theorem gh_num {w : List Nat} {v : Int} (h0 : w ≠ []) (h1 : w ≠ nNull) (h2 : w ≠ nTrue) (h3 : w ≠ nFalse) (h4 : w.head? ≠ some 39) (hv : In64 v)
    (hs : ∀ n, In64 n → n < 0 → hm w = n.natAbs → w.head? = some 45 → v = n) (hp : ∀ n, In64 n → 0 ≤ n → hm w = n.natAbs → w.head? ≠ some 45 → v = n) : Gh w (vInt v) := by
  refine ⟨⟨hv, B8.nil⟩, Nat.zero_le _, fun {x} hx => ?_⟩
  unfold hearL at hx
  rw [if_neg h1, if_neg h2, if_neg h3, if_neg h4] at hx
  split at hx
  · rename_i hc
    injection hx with hx
    subst hx
    obtain ⟨n, hn⟩ : ∃ n, n = numI w := ⟨_, rfl⟩
    rw [← hn] at hc ⊢
    obtain ⟨hc, h64⟩ := hc
    have e : v = n := by
      unfold decI at hc
      split at hc
      · rename_i hneg
        refine hs n h64 hneg ?_ (by rw [← hc]; rfl)
        rw [← hc, hm_sign, hm_dec _ (by obtain ⟨a, b⟩ := h64; omega)]
      · rename_i hneg
        refine hp n h64 (by omega) ?_ ?_
        · rw [← hc, hm_dec _ (by obtain ⟨a, b⟩ := h64; omega)]
        · obtain ⟨c, r, e, _, _⟩ := decN_head n.natAbs
          rw [← hc, e]; simp; omega
    rw [e]
  · cases hx
theorem gh_text {r : List Nat} (h8 : B8 r) {s : List Nat} (hs : s = (unword r).getD []) : Gh (39 :: r) (vText s) := by
  have hl : ∀ x, unword r = some x → x.length ≤ r.length ∧ B8 x := fun x hx => by
    have h1 := word_unword h8 hx
    have h2 := (wordL_len x).1
    refine ⟨?_, h1.2⟩
    rw [← h1.1]
    by_cases h0 : x = []
    · rw [h0]; exact Nat.zero_le _
    · unfold wordL; rw [if_neg h0]; exact (wbs_len x).1
  refine ⟨⟨z64, ?_⟩, ?_, fun {x} hx => ?_⟩
  · cases hu : unword r with
    | none => rw [hs, hu]; exact B8.nil
    | some x => rw [hs, hu]; exact (hl x hu).2
  · cases hu : unword r with
    | none => rw [hs, hu]; exact Nat.zero_le _
    | some x => rw [hs, hu]; have := (hl x hu).1; show x.length ≤ r.length + 1; omega
  · unfold hearL at hx
    rw [if_neg (by simp), if_neg (by simp), if_neg (by simp), if_pos (show (39 :: r).head? = some 39 from rfl), List.tail_cons] at hx
    obtain ⟨y, hy, rfl⟩ := Option.map_eq_some_iff.1 hx
    rw [hs, hy]; rfl
theorem gh_null : Gh nNull vNull := ⟨⟨z64, B8.nil⟩, Nat.zero_le _, fun h => by injection h with h; exact h.symm⟩
theorem gh_nil : Gh [] vNull := ⟨⟨z64, B8.nil⟩, Nat.zero_le _, fun h => by
  exfalso
  unfold hearL at h
  rw [if_neg (by simp), if_neg (by simp), if_neg (by simp), if_neg (by simp), if_neg (by intro e; exact absurd e.1 (by obtain ⟨c, r, e, _⟩ := decI_head (numI []); rw [e]; simp))] at h
  cases h⟩
theorem gh_true : Gh nTrue (vBool true) := ⟨⟨z64, B8.nil⟩, Nat.zero_le _, fun h => by injection h with h; exact h.symm⟩
theorem gh_false : Gh nFalse (vBool false) := ⟨⟨z64, B8.nil⟩, Nat.zero_le _, fun h => by injection h with h; exact h.symm⟩
/-- the document's reading is ours -/
theorem par_back {s : List Nat} {t : List Vl} (h8 : B8 s) (hs : if s = [] then t = [] else Hs (fld s) t) : (parT s = some t ↔ okT t = true ∧ textL t = s) ∧ OkT t := by
  have ok : OkT t := by
    split at hs
    · rw [hs]; exact OkT.nil
    · exact hs.ok
  refine ⟨⟨fun h => ?_, fun h => ?_⟩, ok⟩
  · have := par_only h8 h; exact ⟨this.1, this.2.2⟩
  · rw [← h.2]; exact par_text h.1 ok
theorem par_none {s : List Nat} {t : List Vl} (h8 : B8 s) (hs : if s = [] then t = [] else Hs (fld s) t) (h : ¬ (okT t = true ∧ textL t = s)) : parT s = none := by
  cases hp : parT s with
  | none => rfl
  | some x =>
    exfalso
    have e : x = t := by
      unfold parT at hp
      split at hp
      · rename_i e; rw [if_pos e] at hs; injection hp with hp; rw [← hp, hs]
      · rename_i e; rw [if_neg e] at hs; exact hs.some hp
    subst e
    have := par_only h8 hp
    exact h ⟨this.1, this.2.2⟩
end Go.Proofs.YtfafkohghgliaabDoor.Tu
