import Derived.Test.YtofpaldolcnmiaaGreatB01
import Derived.Laws.BytesArg
import Derived.Laws.Bits64b
import Derived.Defers
import Derived.Recover
set_option linter.unusedVariables false
namespace Go.Proofs.YtofpaldolcnmiaaGreat
def vb (v : Nat) : List Nat := if v < 128 then [v] else (v % 128 + 128) :: vb (v / 128)
termination_by v
decreasing_by omega
theorem vb_small {v : Nat} (h : v < 128) : vb v = [v] := by rw [vb, if_pos h]
theorem vb_great {v : Nat} (h : ¬ v < 128) : vb v = (v % 128 + 128) :: vb (v / 128) := by rw [vb, if_neg h]
inductive Vr where
  | ok (v : Nat) (r : List Nat)
  | short
  | form
def vgo (k : Nat) : List Nat → Vr
  | [] => .short
  | b :: s =>
    if k = 9 then (if b = 1 then .ok 1 s else .form)
    else if b < 128 then (if b = 0 ∧ k ≠ 0 then .form else .ok b s)
    else match vgo (k + 1) s with
      | .ok v r => .ok (b - 128 + 128 * v) r
      | .short => .short
      | .form => .form
def lim (k : Nat) : Nat := 2 ^ (64 - 7 * k)
theorem lim_next {k v : Nat} (hk : k < 9) (h : v < lim k) : v / 128 < lim (k + 1) := by
  unfold lim at *
  rw [Nat.div_lt_iff_lt_mul (by decide), show (128 : Nat) = 2 ^ 7 by rfl, ← Nat.pow_add]
  rwa [show 64 - 7 * (k + 1) + 7 = 64 - 7 * k by omega]
theorem lim_nine {v : Nat} : v < lim 9 ↔ v < 2 := by simp [lim]
theorem vgo_vb : ∀ (v k : Nat) (r : List Nat), k ≤ 9 → v < lim k → (k ≠ 0 → v ≠ 0) → vgo k (vb v ++ r) = .ok v r := by
  intro v
  induction v using Nat.strongRecOn with
  | ind v ih =>
    intro k r hk hv h0
    by_cases hs : v < 128
    · rw [vb_small hs]
      show vgo k (v :: r) = _
      unfold vgo
      by_cases h9 : k = 9
      · subst h9
        have := lim_nine.1 hv
        have := h0 (by decide)
        rw [if_pos rfl, if_pos (by omega)]
        congr 1; omega
      · rw [if_neg h9, if_pos hs, if_neg (fun h => h0 h.2 h.1)]
    · rw [vb_great hs]
      show vgo k ((v % 128 + 128) :: (vb (v / 128) ++ r)) = _
      have h9 : k ≠ 9 := by
        intro e; subst e
        have := lim_nine.1 hv
        omega
      unfold vgo
      rw [if_neg h9, if_neg (by omega), ih (v / 128) (by omega) (k + 1) r (by omega) (lim_next (by omega) hv) (fun _ => by omega)]
      show Vr.ok (v % 128 + 128 - 128 + 128 * (v / 128)) r = _
      congr 1; omega
theorem vb_byte : ∀ (v : Nat), ∀ b ∈ vb v, b < 256 := by
  intro v
  induction v using Nat.strongRecOn with
  | ind v ih =>
    intro b hb
    by_cases hs : v < 128
    · rw [vb_small hs] at hb; simp at hb; omega
    · rw [vb_great hs] at hb
      rcases List.mem_cons.1 hb with h | h
      · omega
      · exact ih _ (by omega) b h
theorem vb_len : ∀ (v k : Nat), k ≤ 9 → v < lim k → 1 ≤ (vb v).length ∧ (vb v).length ≤ 10 - k := by
  intro v
  induction v using Nat.strongRecOn with
  | ind v ih =>
    intro k hk hv
    by_cases hs : v < 128
    · rw [vb_small hs]; simp; omega
    · have h9 : k ≠ 9 := by
        intro e; subst e
        have := lim_nine.1 hv
        omega
      rw [vb_great hs]
      have := ih (v / 128) (by omega) (k + 1) (by omega) (lim_next (by omega) hv)
      simp; omega
def vdec (m : Nat) (s : List Nat) : Vr := match vgo 0 s with
  | .ok v r => if v ≤ m then .ok v r else .form
  | .short => .short
  | .form => .form
inductive Ds where
  | at (s : List Nat)
  | stop (e : Int)
def Ds.left : Ds → List Nat
  | .at s => s
  | .stop _ => []
def tByte : Ds → Nat × Ds
  | .stop e => (0, .stop e)
  | .at [] => (0, .stop 30)
  | .at (b :: s) => (b, .at s)
def tFlag : Ds → Bool × Ds
  | .stop e => (false, .stop e)
  | .at [] => (false, .stop 30)
  | .at (b :: s) => if b = 0 then (false, .at s) else if b = 1 then (true, .at s) else (false, .stop 31)
def tVar (m : Nat) : Ds → Nat × Ds
  | .stop e => (0, .stop e)
  | .at s => match vdec m s with
    | .ok v r => (v, .at r)
    | .short => (0, .stop 30)
    | .form => (0, .stop 31)
def tRaw (n : Nat) : Ds → List Nat × Ds
  | .stop e => ([], .stop e)
  | .at s => if s.length < n then ([], .stop 30) else (s.take n, .at (s.drop n))
def tText (m : Nat) : Ds → List Nat × Ds
  | .stop e => ([], .stop e)
  | .at s => match vdec m s with
    | .ok v r => tRaw v (.at r)
    | .short => ([], .stop 30)
    | .form => ([], .stop 31)
def eText (s : List Nat) : List Nat := vb s.length ++ s
theorem vdec_vb {v m : Nat} (r : List Nat) (hv : v < 18446744073709551616) (hm : v ≤ m) : vdec m (vb v ++ r) = .ok v r := by
  unfold vdec
  rw [vgo_vb v 0 r (by decide) (by unfold lim; omega) (fun h => absurd rfl h)]
  simp [hm]
theorem tVar_vb {v m : Nat} (r : List Nat) (hv : v < 18446744073709551616) (hm : v ≤ m) : tVar m (.at (vb v ++ r)) = (v, .at r) := by
  unfold tVar; dsimp only; rw [vdec_vb r hv hm]
theorem tRaw_app (s r : List Nat) : tRaw s.length (.at (s ++ r)) = (s, .at r) := by
  unfold tRaw
  dsimp only
  rw [if_neg (by simp)]
  simp
theorem tText_app {m : Nat} (s r : List Nat) (hs : s.length < 18446744073709551616) (hm : s.length ≤ m) : tText m (.at (eText s ++ r)) = (s, .at r) := by
  unfold tText eText
  dsimp only
  rw [List.append_assoc, vdec_vb _ hs hm]
  exact tRaw_app s r
end Go.Proofs.YtofpaldolcnmiaaGreat
namespace Go.Proofs.YtofpaldolcnmiaaGreat.Ig
open Go.Proofs.YtofpaldolcnmiaaGreat
def tN {α : Type} (t : Ds → α × Ds) : Nat → Ds → List α × Ds
  | 0, d => ([], d)
  | n + 1, d => if d.left.length = 0 then ([], d) else ((t d).1 :: (tN t n (t d).2).1, (tN t n (t d).2).2)
def tL {α : Type} (t : Ds → α × Ds) (d : Ds) : List α × Ds := tN t (tVar 18446744073709551615 d).1 (tVar 18446744073709551615 d).2
def eL {α : Type} (e : α → List Nat) (l : List α) : List Nat := vb l.length ++ l.flatMap e
structure Codec {α : Type} (t : Ds → α × Ds) (e : α → List Nat) (ok : α → Prop) : Prop where
  app : ∀ x, ok x → ∀ r, t (.at (e x ++ r)) = (x, .at r)
  pos : ∀ x, ok x → e x ≠ []
  byte : ∀ x, ok x → ∀ b ∈ e x, b < 256
section
variable {α β : Type} {t : Ds → α × Ds} {e : α → List Nat} {ok : α → Prop}
theorem tN_app (h : Codec t e ok) : ∀ (l : List α), (∀ x ∈ l, ok x) → ∀ r, tN t l.length (.at (l.flatMap e ++ r)) = (l, .at r)
  | [], _, r => rfl
  | x :: l, hl, r => by
    have hx := hl x (by simp)
    have ih := tN_app h l (fun y hy => hl y (by simp [hy])) r
    have ha := h.app x hx (l.flatMap e ++ r)
    rw [List.flatMap_cons, List.append_assoc, List.length_cons, tN, if_neg, ha, ih]
    intro h0
    have : (e x ++ (l.flatMap e ++ r)).length = 0 := h0
    rw [List.length_append] at this
    exact h.pos x hx (List.eq_nil_of_length_eq_zero (by omega))
theorem tL_app (h : Codec t e ok) (l : List α) (hl : ∀ x ∈ l, ok x) (hn : l.length < 18446744073709551616) (r : List Nat) : tL t (.at (eL e l ++ r)) = (l, .at r) := by
  unfold tL eL
  rw [List.append_assoc, tVar_vb _ hn (by omega)]
  exact tN_app h l hl r
theorem vb_ne (v : Nat) : vb v ≠ [] := by
  intro h
  rw [vb] at h
  split at h <;> cases h
theorem eL_codec (h : Codec t e ok) : Codec (tL t) (eL e) (fun l => (∀ x ∈ l, ok x) ∧ l.length < 18446744073709551616) :=
  ⟨fun l hl r => tL_app h l hl.1 hl.2 r, fun l _ hn => vb_ne _ (List.append_eq_nil_iff.1 hn).1, fun l hl b hb => by
    unfold eL at hb
    rcases List.mem_append.1 hb with hb | hb
    · exact vb_byte _ b hb
    · obtain ⟨x, hx, hb⟩ := List.mem_flatMap.1 hb
      exact h.byte x (hl.1 x hx) b hb⟩
theorem pair_codec {u : Ds → β × Ds} {f : β → List Nat} {ok' : β → Prop} (h : Codec t e ok) (k : Codec u f ok') : Codec (fun d => (((t d).1, (u (t d).2).1), (u (t d).2).2)) (fun p : α × β => e p.1 ++ f p.2) (fun p => ok p.1 ∧ ok' p.2) :=
  ⟨fun p hp r => by rw [List.append_assoc, h.app p.1 hp.1, k.app p.2 hp.2], fun p hp hn => h.pos p.1 hp.1 (List.append_eq_nil_iff.1 hn).1, fun p hp b hb => by
    rcases List.mem_append.1 hb with hb | hb
    · exact h.byte _ hp.1 b hb
    · exact k.byte _ hp.2 b hb⟩
end
theorem var_codec (m : Nat) (hm : m ≤ 18446744073709551615) : Codec (tVar m) vb (fun v => v ≤ m) :=
  ⟨fun v hv r => tVar_vb r (by omega) hv, fun v _ => vb_ne v, fun v _ => vb_byte v⟩
theorem text_codec (m : Nat) (hm : m ≤ 18446744073709551615) : Codec (tText m) eText (fun s => s.length ≤ m ∧ ∀ b ∈ s, b < 256) :=
  ⟨fun s hs r => tText_app s r (by omega) hs.1, fun s _ hn => vb_ne _ (List.append_eq_nil_iff.1 hn).1, fun s hs b hb => by
    unfold eText at hb
    rcases List.mem_append.1 hb with hb | hb
    · exact vb_byte _ b hb
    · exact hs.2 b hb⟩
theorem byte_codec : Codec tByte (fun b => [b]) (fun b => b < 256) :=
  ⟨fun b _ r => rfl, fun b _ h => (by cases h), fun b hb c hc => (by simp at hc; omega)⟩
theorem flag_codec : Codec tFlag (fun b => [if b then 1 else 0]) (fun _ => True) :=
  ⟨fun b _ r => by cases b <;> rfl, fun b _ h => (by cases h), fun b _ c hc => (by cases b <;> simp at hc <;> omega)⟩
structure Stops {α : Type} (t : Ds → α × Ds) : Prop where
  stop : ∀ e, (t (.stop e)).2 = .stop e
def Shrinks {α : Type} (t : Ds → α × Ds) : Prop := ∀ d, (t d).2.left.length ≤ d.left.length
theorem tN_shrinks {α : Type} {t : Ds → α × Ds} (h : Shrinks t) : ∀ n, Shrinks (tN t n)
  | 0, d => Nat.le_refl _
  | n + 1, d => by
    rw [tN]
    split
    · exact Nat.le_refl _
    · exact Nat.le_trans (tN_shrinks h n _) (h d)
end Go.Proofs.YtofpaldolcnmiaaGreat.Ig
namespace Go.Proofs.YtofpaldolcnmiaaGreat
open Go.RowKit Go.Sort
def nums (s : ByteArray) : List Nat := s.data.toList.map UInt8.toNat
def ofNats (l : List Nat) : ByteArray := ⟨(l.map UInt8.ofNat).toArray⟩
def B8 (l : List Nat) : Prop := ∀ b ∈ l, b < 256
theorem nums_length (s : ByteArray) : (nums s).length = s.size := by unfold nums; rw [List.length_map]; rfl
theorem nums_b8 (s : ByteArray) : B8 (nums s) := by
  intro b hb
  simp only [nums, List.mem_map] at hb
  obtain ⟨x, _, rfl⟩ := hb
  exact x.toNat_lt
theorem ofNats_nums (s : ByteArray) : ofNats (nums s) = s := by
  have h : (UInt8.ofNat ∘ UInt8.toNat) = id := by funext x; simp
  cases s with
  | mk a => simp [ofNats, nums, h]
theorem nums_ofNats {l : List Nat} (h : B8 l) : nums (ofNats l) = l := by
  simp only [nums, ofNats, List.map_map]
  conv => rhs; rw [← List.map_id l]
  refine List.map_congr_left fun x hx => ?_
  have := h x hx
  simp only [Function.comp, id]
  exact Nat.mod_eq_of_lt this
theorem ofNats_size (l : List Nat) : (ofNats l).size = l.length := by simp [ofNats, ByteArray.size]
theorem nums_extract (s : ByteArray) (i j : Nat) : nums (s.extract i j) = ((nums s).take j).drop i := by
  simp [nums, List.map_take, List.map_drop, List.drop_take]
theorem B8.append {a b : List Nat} (ha : B8 a) (hb : B8 b) : B8 (a ++ b) := by
  intro x hx; rcases List.mem_append.1 hx with h | h
  · exact ha x h
  · exact hb x h
theorem B8.drop {a : List Nat} (h : B8 a) (n : Nat) : B8 (a.drop n) := fun x hx => h x (List.mem_of_mem_drop hx)
theorem ofNats_extract {l : List Nat} (h : B8 l) (i j : Nat) : (ofNats l).extract i j = ofNats ((l.take j).drop i) := by
  have := nums_extract (ofNats l) i j
  rw [nums_ofNats h] at this
  rw [← this, ofNats_nums]
theorem strOfNums_nats (l : List Nat) : strOfNums (l.map Int.ofNat) = ofNats l := by
  simp [strOfNums, ofNats]
theorem B8.nil : B8 [] := fun x hx => by simp at hx
theorem B8.one {v : Nat} (h : v < 256) : B8 [v] := fun x hx => by simp at hx; omega
end Go.Proofs.YtofpaldolcnmiaaGreat
namespace Go.Proofs.YtofpaldolcnmiaaGreat
open Go.RowKit Go.Sort
structure Cel (b o n : Nat) (w w' : World) : Prop where
  os : w'.os = w.os
  tape : w'.tape = w.tape
  output : w'.output = w.output
  size : w.heap.size ≤ w'.heap.size
  block : ∀ k, k < w.heap.size → k ≠ b → w'.heap[k]? = w.heap[k]?
  cells : ∀ i, b < w.heap.size → (i < o ∨ o + n ≤ i) → w'.cell? ⟨b, i, none⟩ = w.cell? ⟨b, i, none⟩
  frz : ∀ i, b < w.heap.size → w'.frozen? ⟨b, i, none⟩ = w.frozen? ⟨b, i, none⟩
theorem Cel.refl (b o n : Nat) (w : World) : Cel b o n w w := ⟨rfl, rfl, rfl, Nat.le_refl _, fun _ _ _ => rfl, fun _ _ _ => rfl, fun _ _ => rfl⟩
theorem Cel.trans {b o n : Nat} {w1 w2 w3 : World} (h : Cel b o n w1 w2) (k : Cel b o n w2 w3) : Cel b o n w1 w3 :=
  ⟨k.os.trans h.os, k.tape.trans h.tape, k.output.trans h.output, Nat.le_trans h.size k.size, fun i hi hp => (k.block i (Nat.lt_of_lt_of_le hi h.size) hp).trans (h.block i hi hp),
    fun i hb hi => (k.cells i (Nat.lt_of_lt_of_le hb h.size) hi).trans (h.cells i hb hi), fun i hb => (k.frz i (Nat.lt_of_lt_of_le hb h.size)).trans (h.frz i hb)⟩
theorem Cel.of_below {b o n : Nat} {w w' : World} (h : Below w.heap.size w w') : Cel b o n w w' :=
  ⟨h.os, h.tape, h.output, h.size, fun k hk _ => h.block k hk, fun i hb _ => h.cell (p := ⟨b, i, none⟩) hb, fun i hb => h.frozen (p := ⟨b, i, none⟩) hb⟩
theorem Cel.on {b o n : Nat} {a w w' : World} (h : Cel b o n a w) (k : Below w.heap.size w w') : Cel b o n a w' := h.trans (Cel.of_below k)
theorem Cel.al {b o n : Nat} {a w : World} (h : Cel b o n a w) (x : Obj) : Cel b o n a (w.alloc x) := h.on (Below.al (Below.refl _ _) x)
theorem Cel.drew {b o n : Nat} {a w : World} (h : Cel b o n a w) : Cel b o n a w.drew := ⟨h.os, h.tape, h.output, h.size, h.block, h.cells, h.frz⟩
theorem Cel.set {b o n : Nat} {a w : World} (h : Cel b o n a w) (i : Nat) (hi : o ≤ i ∧ i < o + n) (v : Value) : Cel b o n a (w.setCell ⟨b, i, none⟩ v) :=
  h.trans ⟨rfl, rfl, rfl, by simp [World.setCell], fun k _ hp => Below.heap_setCell _ _ _ _ hp, fun j _ hj => World.cell?_setCell_other _ _ _ _ (fun e => by have := congrArg Addr.off e; dsimp only at this; omega), fun j _ => World.frozen?_setCell _ _ _ _⟩
theorem Cel.setNew {b o n q : Nat} {a w : World} (h : Cel b o n a w) (hq : a.heap.size ≤ q) (i : Nat) (v : Value) : Cel b o n a (w.setCell ⟨q, i, none⟩ v) :=
  ⟨h.os, h.tape, h.output, by simpa [World.setCell] using h.size, fun k hk hp => (Below.heap_setCell _ _ _ _ (by show k ≠ q; omega)).trans (h.block k hk hp),
    fun j hb hj => (World.cell?_setCell_other _ _ _ _ (fun e => by have := congrArg Addr.block e; dsimp only at this; omega)).trans (h.cells j hb hj), fun j hb => (World.frozen?_setCell _ _ _ _).trans (h.frz j hb)⟩
theorem Cel.cell {b o n c i : Nat} {w w' : World} {v : Value} (h : Cel b o n w w') (hc : c ≠ b ∨ i < o ∨ o + n ≤ i) (k : w.cell? ⟨c, i, none⟩ = some v) : w'.cell? ⟨c, i, none⟩ = some v := by
  have hl := World.block_lt_of_cell? _ _ k
  by_cases hb : c = b
  · subst hb
    rw [← k]; exact h.cells i hl (by omega)
  · rw [← k]; exact World.cell?_of_block (a := ⟨c, i, none⟩) (h.block c hl hb)
theorem Cel.loose {b o n c : Nat} {w w' : World} (h : Cel b o n w w') (hs : c < w.heap.size) (k : Loose w c) : Loose w' c := fun i => by
  by_cases hb : c = b
  · subst hb; rw [← k i]; exact h.frz i hs
  · rw [← k i]; exact World.frozen?_of_block (a := ⟨c, i, none⟩) (h.block c hs hb)
theorem Cel.below {b o n B : Nat} {w w' : World} (h : Cel b o n w w') (hb : B ≤ b) (hB : B ≤ w.heap.size) : Below B w w' :=
  ⟨h.os, h.tape, h.output, h.size, fun k hk => h.block k (by omega) (by omega)⟩
def ptrOf : List (Nat × List Nat) → Value
  | [] => .pointer none
  | (g, _) :: _ => .pointer (some ⟨g, 0, none⟩)
def Chain (w : World) : List (Nat × List Nat) → Prop
  | [] => True
  | (g, t) :: r => w.cell? ⟨g, 0, none⟩ = some (ptrOf r) ∧ w.cell? ⟨g, 1, none⟩ = some (.string (ofNats t)) ∧ B8 t ∧ Chain w r
def total : List (Nat × List Nat) → List Nat
  | [] => []
  | (_, t) :: r => total r ++ t
structure EncAt (w : World) (A : Nat → Prop) (b o : Nat) (bs : List Nat) : Prop where
  self : A b
  ex : ∃ cs, total cs = bs ∧ Chain w cs ∧ (∀ x ∈ cs, ¬ A x.1) ∧ w.cell? ⟨b, o, none⟩ = some (ptrOf cs)
  size : w.cell? ⟨b, o + 1, none⟩ = some (.int .i64 bs.length)
  loose : Loose w b
theorem Chain.keep {w w' : World} {A : Nat → Prop} : ∀ {cs : List (Nat × List Nat)}, Chain w cs → (∀ x ∈ cs, ¬ A x.1) → (∀ k i v, ¬ A k → w.cell? ⟨k, i, none⟩ = some v → w'.cell? ⟨k, i, none⟩ = some v) → Chain w' cs
  | [], _, _, _ => trivial
  | (g, t) :: r, ⟨h1, h2, h3, h4⟩, hA, hk => by
    have hg : ¬ A g := hA (g, t) (by simp)
    exact ⟨hk _ _ _ hg h1, hk _ _ _ hg h2, h3, Chain.keep h4 (fun x hx => hA x (by simp [hx])) hk⟩
theorem Chain.b8 {w : World} : ∀ {cs : List (Nat × List Nat)}, Chain w cs → B8 (total cs)
  | [], _ => B8.nil
  | (_, _) :: _, ⟨_, _, h3, h4⟩ => (Chain.b8 h4).append h3
theorem EncAt.lt {w : World} {A : Nat → Prop} {b o : Nat} {bs : List Nat} (h : EncAt w A b o bs) : b < w.heap.size := World.block_lt_of_cell? _ _ h.size
theorem EncAt.b8 {w : World} {A : Nat → Prop} {b o : Nat} {bs : List Nat} (h : EncAt w A b o bs) : B8 bs := by
  obtain ⟨cs, rfl, hc, _⟩ := h.ex; exact hc.b8
theorem EncAt.later {w w' : World} {A : Nat → Prop} {b o : Nat} {bs : List Nat} (h : EncAt w A b o bs) (k : Below w.heap.size w w') : EncAt w' A b o bs := by
  obtain ⟨cs, ht, hch, hA, hp⟩ := h.ex
  exact ⟨h.self, ⟨cs, ht, hch.keep hA (fun q i v hq hv => cell_later k hv), hA, cell_later k hp⟩, cell_later k h.size, h.loose.later k h.lt⟩
structure DecR (w : World) (b o : Nat) (s : List Nat) (r : Int) : Prop where
  c0 : w.cell? ⟨b, o, none⟩ = some (.string (ofNats s))
  c1 : w.cell? ⟨b, o + 1, none⟩ = some (.int .i64 r)
  b8 : B8 s
  loose : Loose w b
theorem DecR.lt {w : World} {b o : Nat} {s : List Nat} {r : Int} (h : DecR w b o s r) : b < w.heap.size := World.block_lt_of_cell? _ _ h.c0
theorem DecR.keep {w w' : World} {b o : Nat} {s : List Nat} {r : Int} (h : DecR w b o s r) {c p n : Nat} (k : Cel c p n w w') (hd : c ≠ b ∨ o + 2 ≤ p ∨ p + n ≤ o) : DecR w' b o s r :=
  ⟨k.cell (by omega) h.c0, k.cell (by omega) h.c1, h.b8, k.loose h.lt h.loose⟩
theorem DecR.later {w w' : World} {b o : Nat} {s : List Nat} {r : Int} (h : DecR w b o s r) (k : Below w.heap.size w w') : DecR w' b o s r :=
  ⟨cell_later k h.c0, cell_later k h.c1, h.b8, h.loose.later k h.lt⟩
theorem DecR.set0 {w : World} {b o : Nat} {s : List Nat} {r : Int} (h : DecR w b o s r) {t : List Nat} (ht : B8 t) : DecR (w.setCell ⟨b, o, none⟩ (.string (ofNats t))) b o t r :=
  ⟨World.cell?_setCell_same _ _ _ h.c0, cell_setc (by simp) h.c1, ht, h.loose.setc _ _⟩
theorem DecR.set1 {w : World} {b o : Nat} {s : List Nat} {r : Int} (h : DecR w b o s r) (q : Int) : DecR (w.setCell ⟨b, o + 1, none⟩ (.int .i64 q)) b o s q :=
  ⟨cell_setc (by simp) h.c0, World.cell?_setCell_same _ _ _ h.c1, h.b8, h.loose.setc _ _⟩
def Ds.num : Ds → Int
  | .at _ => 0
  | .stop e => e
def Ds.ok : Ds → Prop
  | .at _ => True
  | .stop e => e ≠ 0
structure DecAt (w : World) (b o : Nat) (d : Ds) : Prop where
  raw : DecR w b o d.left d.num
  ok : d.ok
end Go.Proofs.YtofpaldolcnmiaaGreat
namespace Go.Proofs.YtofpaldolcnmiaaGreat
open Go.RowKit Go.Sort
theorem or128_fin : ∀ x : Fin 256, bits .or .u8 ((x.val : Nat) : Int) 128 = ((x.val % 128 + 128 : Nat) : Int) := by decide +kernel
theorem or128 (x : Nat) (h : x < 256) : bits .or .u8 (x : Int) 128 = ((x % 128 + 128 : Nat) : Int) := or128_fin ⟨x, h⟩
theorem not128_fin : ∀ x : Fin 256, bits .andNot .u8 ((x.val : Nat) : Int) 128 = ((x.val % 128 : Nat) : Int) := by decide +kernel
theorem not128 (x : Nat) (h : x < 256) : bits .andNot .u8 (x : Int) 128 = ((x % 128 : Nat) : Int) := not128_fin ⟨x, h⟩
theorem or_above (x y k : Nat) (hk : k ≤ 64) (hx : x < 2 ^ k) (hy : y * 2 ^ k < 18446744073709551616) : bits .or .u64 (x : Int) ((y * 2 ^ k : Nat) : Int) = ((x + y * 2 ^ k : Nat) : Int) := by
  have hx' : x < 18446744073709551616 := Nat.lt_of_lt_of_le hx (Nat.pow_le_pow_right (n := 2) (j := 64) (by decide) hk)
  have h := bits_or_u64_nat x (y * 2 ^ k) (by omega) (by omega)
  have e : x ||| y * 2 ^ k = x + y * 2 ^ k := by
    have := Nat.shiftLeft_add_eq_or_of_lt (b := x) (i := k) hx y
    rw [Nat.shiftLeft_eq] at this
    rw [Nat.or_comm, ← this, Nat.add_comm]
  rw [e] at h
  exact h
end Go.Proofs.YtofpaldolcnmiaaGreat
namespace Go.Proofs.YtofpaldolcnmiaaGreat
open Go.RowKit Go.Sort
abbrev fault (c : Int) : PanicEntry := { v := .iface 247 (.agg #[.int .i64 c]), recovered := false }
abbrev fault' (c : Int) : PanicEntry := { v := .iface 247 (.agg #[.int .i64 c]), recovered := true }
set_option maxHeartbeats 400000 in
theorem open_any {w : World} {s : List Nat} (hs : B8 s) :
    Calls Tryz.prog 39 #[.string (ofNats s)] w fun e w' => e = .returned (.pointer (some ⟨w.heap.size, 0, none⟩)) ∧ Below w.heap.size w w' ∧ w.heap.size < w'.heap.size ∧ DecR w' w.heap.size 0 s 0 := by
  go_enter Tryz.func39, Tryz.ntmps39
  go_wp2_with fail
  go_ret
  refine ⟨rfl, Below.al (Below.refl _ _) _, by simp, ?_, ?_, hs, fun o => by simp [go_sem]⟩
  · simp [go_sem]
  · simp [go_sem]
theorem take_ok {w : World} {b o n : Nat} {s : List Nat} {r : Int} (h : DecR w b o s r) (hn : n ≤ s.length) (hl : s.length ≤ 9223372036854775807) :
    Calls Tryz.prog 150 #[.pointer (some ⟨b, o, none⟩), .int .u64 (n : Int)] w fun e w' => e = .returned (.string (ofNats (s.take n))) ∧ Cel b o 2 w w' ∧ DecR w' b o (s.drop n) r := by
  have c0 := h.c0
  have H := hid h
  have f : ∀ i, w.frozen? ⟨b, i, none⟩ = false := h.loose
  have hsz : ((ofNats s).size : Int) = (s.length : Int) := by rw [ofNats_size]
  have hsz' : (ofNats s).size = s.length := by rw [ofNats_size]
  have hw : IntKind.u64.wrap (s.length : Int) = (s.length : Int) := by rw [IntKind.wrap_u64]; omega
  have hgt : decide ((s.length : Int) < (n : Int)) = false := by simp; omega
  have x1 : (ofNats s).extract 0 n = ofNats (s.take n) := by rw [ofNats_extract h.b8, List.drop_zero]
  have x2 : (ofNats s).extract n s.length = ofNats (s.drop n) := by rw [ofNats_extract h.b8, List.take_of_length_le (Nat.le_refl _)]
  clear h
  go_enter Tryz.func150, Tryz.ntmps150
  go_wp2_with fail
  go_ret
  exact ⟨rfl, (Cel.refl _ _ _ _).set o ⟨Nat.le_refl _, by omega⟩ _, H.out.set0 (H.out.b8.drop n)⟩
theorem take_bad {w : World} {b o n : Nat} {s : List Nat} {r : Int} (h : DecR w b o s r) (hn : s.length < n) (hl : s.length ≤ 9223372036854775807) :
    Calls Tryz.prog 150 #[.pointer (some ⟨b, o, none⟩), .int .u64 (n : Int)] w fun e w' => e = .panicked [fault 30] ∧ w' = w := by
  have c0 := h.c0
  have hsz : ((ofNats s).size : Int) = (s.length : Int) := by rw [ofNats_size]
  have hw : IntKind.u64.wrap (s.length : Int) = (s.length : Int) := by rw [IntKind.wrap_u64]; omega
  have hgt : decide ((s.length : Int) < (n : Int)) = true := by simp; omega
  clear h
  go_enter Tryz.func150, Tryz.ntmps150
  go_wp2_with fail
  exact ⟨rfl, rfl, rfl⟩
theorem one_size (x : Nat) : (ofNats [x]).size = 1 := rfl
theorem one_get {x : Nat} (hx : x < 256) (h : 0 < (ofNats [x]).size) : ((ofNats [x])[0]).toNat = x := by
  show (UInt8.ofNat x).toNat = x
  simp; omega
theorem next_ok {w : World} {b o x : Nat} {t : List Nat} {r : Int} (h : DecR w b o (x :: t) r) (hl : t.length + 1 ≤ 9223372036854775807) :
    Calls Tryz.prog 202 #[.pointer (some ⟨b, o, none⟩)] w fun e w' => e = .returned (.int .u8 (x : Int)) ∧ Cel b o 2 w w' ∧ DecR w' b o t r := by
  have H := hid h
  have hx : x < 256 := h.b8 x (by simp)
  clear h
  have hg := one_get hx
  have hsz := one_size x
  go_enter Tryz.func202, Tryz.ntmps202
  go_wp2_with (go_at_call 150; refine (take_ok (n := 1) H.out (by simp) hl).mono ?_; rintro e w1 ⟨rfl, hc, hd⟩; have HC := hid hc; have HD := hid hd; clear hc hd; simp only [List.take_succ_cons, List.take_zero])
  go_ret
  exact ⟨rfl, HC.out, HD.out⟩
theorem next_bad {w : World} {b o : Nat} {r : Int} (h : DecR w b o [] r) :
    Calls Tryz.prog 202 #[.pointer (some ⟨b, o, none⟩)] w fun e w' => e = .panicked [fault 30] ∧ w' = w := by
  have H := hid h
  clear h
  go_enter Tryz.func202, Tryz.ntmps202
  go_wp2_with (go_at_call 150; refine (take_bad (n := 1) H.out (by simp) (by simp)).mono ?_; rintro e w1 ⟨rfl, rfl⟩)
  exact ⟨rfl, rfl, rfl⟩
end Go.Proofs.YtofpaldolcnmiaaGreat
