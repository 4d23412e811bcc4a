import Derived.Test.YtofpaldolcnmiaaGreatRows
import Derived.WalkKit
import Derived.WalkLawsBesides
import Derived.Below
import Derived.Outline
import Derived.BigRegion
import Derived.BigQuiet
import Derived.Lib.QuietBelow
import Derived.Deep.QuietTactic
import Derived.Deep.DeepCutAuto
import Derived.WalkSpells
import Derived.Deep.RegionHeld3
import Derived.Deep.LoopGhost
import Derived.Laws.BytesArg
import Derived.OwnWalk
import Derived.Laws.OwnMore
import Derived.Deep.AppendLies
import Derived.Deep.RegionLaw
import Derived.Laws.Bits64b
set_option linter.unusedVariables false
namespace Go.Proofs.YtofpaldolcnmiaaGreat
section
theorem sqa {α : Type _} (l : List α) (i : Nat) (a : α) : l.toArray.setIfInBounds i a = (l.set i a).toArray := List.setIfInBounds_toArray ..
theorem sqb {α : Type _} {a b : α} {l : List α} {i : Nat} : (a :: l).set (i + 1) b = a :: l.set i b := rfl
theorem sqc {α : Type _} {a b : α} {l : List α} : (a :: l).set 0 b = b :: l := rfl
end
section
def vb (v : Nat) : List Nat := if v < 128 then [v] else (v % 128 + 128) :: vb (v / 128)
termination_by v
decreasing_by omega
theorem vb_small {v : Nat} (h : v < 128) : vb v = [v] := by rw [vb, if_pos h]
theorem vb_great {v : Nat} (h : ¬ v < 128) : vb v = (v % 128 + 128) :: vb (v / 128) := by rw [vb, if_neg h]
inductive Vr where
 | ok (v : Nat) (r : List Nat)
 | short
 | form
def vgo (k : Nat) : List Nat → Vr
 | [] => .short
 | b :: s =>
  if k = 9 then (if b = 1 then .ok 1 s else .form)
  else if b < 128 then (if b = 0 ∧ k ≠ 0 then .form else .ok b s)
  else match vgo (k + 1) s with
   | .ok v r => .ok (b - 128 + 128 * v) r
   | .short => .short
   | .form => .form
def lim (k : Nat) : Nat := 2 ^ (64 - 7 * k)
theorem lim_next {k v : Nat} (hk : k < 9) (h : v < lim k) : v / 128 < lim (k + 1) := by
 unfold lim at *; rw [Nat.div_lt_iff_lt_mul (by decide), show (128 : Nat) = 2 ^ 7 by rfl, ← Nat.pow_add]; rwa [show 64 - 7 * (k + 1) + 7 = 64 - 7 * k by omega]
theorem lim_back {k v b : Nat} (hk : k < 9) (h : v < lim (k + 1)) (hb : b < 128) : b + 128 * v < lim k := by
 unfold lim at *; have e : 2 ^ (64 - 7 * k) = 2 ^ (64 - 7 * (k + 1)) * 128 := by
  rw [show 64 - 7 * k = 64 - 7 * (k + 1) + 7 by omega, Nat.pow_add]
 rw [e]; omega
theorem lim_nine {v : Nat} : v < lim 9 ↔ v < 2 := by simp [lim]
theorem lim_low {k : Nat} (hk : k < 9) : 128 ≤ lim k := by
 unfold lim; exact Nat.le_trans (show 128 ≤ 2 ^ 7 by decide) (Nat.pow_le_pow_right (by decide) (by omega))
theorem vgo_vb : ∀ (v k : Nat) (r : List Nat), k ≤ 9 → v < lim k → (k ≠ 0 → v ≠ 0) → vgo k (vb v ++ r) = .ok v r := by
 intro v; induction v using Nat.strongRecOn with
 | ind v ih =>
  intro k r hk hv h0; by_cases hs : v < 128
  ·rw [vb_small hs]; show vgo k (v :: r) = _
   unfold vgo; by_cases h9 : k = 9
   ·subst h9; have := lim_nine.1 hv; have := h0 (by decide); rw [if_pos rfl, if_pos (by omega)]; congr 1; omega
   ·rw [if_neg h9, if_pos hs, if_neg (fun h => h0 h.2 h.1)]
  ·rw [vb_great hs]; show vgo k ((v % 128 + 128) :: (vb (v / 128) ++ r)) = _
   have h9 : k ≠ 9 := by
    intro e; subst e
    have := lim_nine.1 hv; omega
   unfold vgo; rw [if_neg h9, if_neg (by omega), ih (v / 128) (by omega) (k + 1) r (by omega) (lim_next (by omega) hv) (fun _ => by omega)]; show Vr.ok (v % 128 + 128 - 128 + 128 * (v / 128)) r = _
   congr 1; omega
theorem vgo_only : ∀ (s : List Nat) (k v : Nat) (r : List Nat), k ≤ 9 → (∀ b ∈ s, b < 256) → vgo k s = .ok v r → s = vb v ++ r ∧ v < lim k ∧ (k ≠ 0 → v ≠ 0) := by
 intro s; induction s with
 | nil => intro k v r _ _ h; simp [vgo] at h
 | cons b s ih =>
  intro k v r hk hb h; unfold vgo at h; by_cases h9 : k = 9
  ·subst h9; rw [if_pos rfl] at h; by_cases h1 : b = 1
   ·rw [if_pos h1] at h; injection h with e1 e2
    subst e1 e2 h1; exact ⟨by rw [vb_small (by decide)]; rfl, lim_nine.2 (by decide), fun _ => by decide⟩
   ·rw [if_neg h1] at h; cases h
  ·rw [if_neg h9] at h; by_cases hs : b < 128
   ·rw [if_pos hs] at h; by_cases h0 : b = 0 ∧ k ≠ 0
    ·rw [if_pos h0] at h; cases h
    ·rw [if_neg h0] at h; injection h with e1 e2
     subst e1 e2; exact ⟨by rw [vb_small hs]; rfl, Nat.lt_of_lt_of_le hs (lim_low (by omega)), fun hk0 hb0 => h0 ⟨hb0, hk0⟩⟩
   ·rw [if_neg hs] at h; cases hg : vgo (k + 1) s with
    | short => rw [hg] at h; cases h
    | form => rw [hg] at h; cases h
    | ok v' r' =>
     rw [hg] at h; injection h with e1 e2
     subst e1 e2; obtain ⟨q1, q2, q3⟩ := ih (k + 1) v' r' (by omega) (fun x hx => hb x (List.mem_cons_of_mem _ hx)) hg; have hv' := q3 (by omega); have hbb := hb b (by simp); refine ⟨?_, lim_back (by omega) q2 (by omega), fun _ => by omega⟩; rw [vb_great (by omega), q1]; have e1 : (b - 128 + 128 * v') / 128 = v' := by omega
     have e2 : (b - 128 + 128 * v') % 128 + 128 = b := by omega
     rw [e1, e2]; rfl
theorem vb_byte : ∀ (v : Nat), ∀ b ∈ vb v, b < 256 := by
 intro v; induction v using Nat.strongRecOn with
 | ind v ih =>
  intro b hb; by_cases hs : v < 128
  ·rw [vb_small hs] at hb; simp at hb; omega
  ·rw [vb_great hs] at hb; rcases List.mem_cons.1 hb with h | h
   ·omega
   ·exact ih _ (by omega) b h
theorem vb_len : ∀ (v k : Nat), k ≤ 9 → v < lim k → 1 ≤ (vb v).length ∧ (vb v).length ≤ 10 - k := by
 intro v; induction v using Nat.strongRecOn with
 | ind v ih =>
  intro k hk hv; by_cases hs : v < 128
  ·rw [vb_small hs]; simp; omega
  ·have h9 : k ≠ 9 := by
    intro e; subst e
    have := lim_nine.1 hv; omega
   rw [vb_great hs]; have := ih (v / 128) (by omega) (k + 1) (by omega) (lim_next (by omega) hv); simp; omega
def vdec (m : Nat) (s : List Nat) : Vr := match vgo 0 s with
 | .ok v r => if v ≤ m then .ok v r else .form
 | .short => .short
 | .form => .form
inductive Ds where
 | at (s : List Nat)
 | stop (e : Int)
def Ds.left : Ds → List Nat
 | .at s => s
 | .stop _ => []
def tByte : Ds → Nat × Ds
 | .stop e => (0, .stop e)
 | .at [] => (0, .stop 30)
 | .at (b :: s) => (b, .at s)
def tFlag : Ds → Bool × Ds
 | .stop e => (false, .stop e)
 | .at [] => (false, .stop 30)
 | .at (b :: s) => if b = 0 then (false, .at s) else if b = 1 then (true, .at s) else (false, .stop 31)
def tVar (m : Nat) : Ds → Nat × Ds
 | .stop e => (0, .stop e)
 | .at s => match vdec m s with
  | .ok v r => (v, .at r)
  | .short => (0, .stop 30)
  | .form => (0, .stop 31)
def tRaw (n : Nat) : Ds → List Nat × Ds
 | .stop e => ([], .stop e)
 | .at s => if s.length < n then ([], .stop 30) else (s.take n, .at (s.drop n))
def tText (m : Nat) : Ds → List Nat × Ds
 | .stop e => ([], .stop e)
 | .at s => match vdec m s with
  | .ok v r => tRaw v (.at r)
  | .short => ([], .stop 30)
  | .form => ([], .stop 31)
def eText (s : List Nat) : List Nat := vb s.length ++ s
theorem vdec_vb {v m : Nat} (r : List Nat) (hv : v < 18446744073709551616) (hm : v ≤ m) : vdec m (vb v ++ r) = .ok v r := by
 unfold vdec; rw [vgo_vb v 0 r (by decide) (by unfold lim; omega) (fun h => absurd rfl h)]; simp [hm]
theorem vdec_only {m v : Nat} {s r : List Nat} (hb : ∀ b ∈ s, b < 256) (h : vdec m s = .ok v r) : s = vb v ++ r ∧ v < 18446744073709551616 ∧ v ≤ m := by
 unfold vdec at h; cases hg : vgo 0 s with
 | short => rw [hg] at h; cases h
 | form => rw [hg] at h; cases h
 | ok v' r' =>
  rw [hg] at h; dsimp only at h
  by_cases hm : v' ≤ m
  ·rw [if_pos hm] at h; injection h with e1 e2
   subst e1 e2; obtain ⟨q1, q2, _⟩ := vgo_only s 0 v' r' (by decide) hb hg; exact ⟨q1, by unfold lim at q2; omega, hm⟩
  ·rw [if_neg hm] at h; cases h
theorem tVar_vb {v m : Nat} (r : List Nat) (hv : v < 18446744073709551616) (hm : v ≤ m) : tVar m (.at (vb v ++ r)) = (v, .at r) := by
 unfold tVar; dsimp only; rw [vdec_vb r hv hm]
theorem tRaw_app (s r : List Nat) : tRaw s.length (.at (s ++ r)) = (s, .at r) := by
 unfold tRaw; dsimp only
 rw [if_neg (by simp)]; simp
theorem tText_app {m : Nat} (s r : List Nat) (hs : s.length < 18446744073709551616) (hm : s.length ≤ m) : tText m (.at (eText s ++ r)) = (s, .at r) := by
 unfold tText eText; dsimp only
 rw [List.append_assoc, vdec_vb _ hs hm]; exact tRaw_app s r
end
namespace Ig
open Go.Proofs.YtofpaldolcnmiaaGreat
def tN {α : Type} (t : Ds → α × Ds) : Nat → Ds → List α × Ds
 | 0, d => ([], d)
 | n + 1, d => if d.left.length = 0 then ([], d) else ((t d).1 :: (tN t n (t d).2).1, (tN t n (t d).2).2)
def tL {α : Type} (t : Ds → α × Ds) (d : Ds) : List α × Ds := tN t (tVar 18446744073709551615 d).1 (tVar 18446744073709551615 d).2
def eL {α : Type} (e : α → List Nat) (l : List α) : List Nat := vb l.length ++ l.flatMap e
structure Codec {α : Type} (t : Ds → α × Ds) (e : α → List Nat) (ok : α → Prop) : Prop where
 app : ∀ x, ok x → ∀ r, t (.at (e x ++ r)) = (x, .at r)
 pos : ∀ x, ok x → e x ≠ []
 byte : ∀ x, ok x → ∀ b ∈ e x, b < 256
section
variable {α β : Type} {t : Ds → α × Ds} {e : α → List Nat} {ok : α → Prop}
theorem tN_zero (n : Nat) (d : Ds) (h : d.left.length = 0) : tN t n d = ([], d) := by
 cases n with
 | zero => rfl
 | succ n => rw [tN, if_pos h]
theorem tN_app (h : Codec t e ok) : ∀ (l : List α), (∀ x ∈ l, ok x) → ∀ r, tN t l.length (.at (l.flatMap e ++ r)) = (l, .at r)
 | [], _, r => rfl
 | x :: l, hl, r => by
  have hx := hl x (by simp); have ih := tN_app h l (fun y hy => hl y (by simp [hy])) r; have ha := h.app x hx (l.flatMap e ++ r); rw [List.flatMap_cons, List.append_assoc, List.length_cons, tN, if_neg, ha, ih]; intro h0; have : (e x ++ (l.flatMap e ++ r)).length = 0 := h0; rw [List.length_append] at this; exact h.pos x hx (List.eq_nil_of_length_eq_zero (by omega))
theorem tL_app (h : Codec t e ok) (l : List α) (hl : ∀ x ∈ l, ok x) (hn : l.length < 18446744073709551616) (r : List Nat) : tL t (.at (eL e l ++ r)) = (l, .at r) := by
 unfold tL eL; rw [List.append_assoc, tVar_vb _ hn (by omega)]; exact tN_app h l hl r
theorem vb_ne (v : Nat) : vb v ≠ [] := by
 intro h; rw [vb] at h; split at h <;> cases h
theorem eL_codec (h : Codec t e ok) : Codec (tL t) (eL e) (fun l => (∀ x ∈ l, ok x) ∧ l.length < 18446744073709551616) :=
 ⟨fun l hl r => tL_app h l hl.1 hl.2 r, fun l _ hn => vb_ne _ (List.append_eq_nil_iff.1 hn).1, fun l hl b hb => by
  unfold eL at hb; rcases List.mem_append.1 hb with hb | hb
  ·exact vb_byte _ b hb
  ·obtain ⟨x, hx, hb⟩ := List.mem_flatMap.1 hb; exact h.byte x (hl.1 x hx) b hb⟩
theorem pair_codec {u : Ds → β × Ds} {f : β → List Nat} {ok' : β → Prop} (h : Codec t e ok) (k : Codec u f ok') : Codec (fun d => (((t d).1, (u (t d).2).1), (u (t d).2).2)) (fun p : α × β => e p.1 ++ f p.2) (fun p => ok p.1 ∧ ok' p.2) :=
 ⟨fun p hp r => by rw [List.append_assoc, h.app p.1 hp.1, k.app p.2 hp.2], fun p hp hn => h.pos p.1 hp.1 (List.append_eq_nil_iff.1 hn).1, fun p hp b hb => by
  rcases List.mem_append.1 hb with hb | hb
  ·exact h.byte _ hp.1 b hb
  ·exact k.byte _ hp.2 b hb⟩
end
theorem var_codec (m : Nat) (hm : m ≤ 18446744073709551615) : Codec (tVar m) vb (fun v => v ≤ m) :=
 ⟨fun v hv r => tVar_vb r (by omega) hv, fun v _ => vb_ne v, fun v _ => vb_byte v⟩
theorem text_codec (m : Nat) (hm : m ≤ 18446744073709551615) : Codec (tText m) eText (fun s => s.length ≤ m ∧ ∀ b ∈ s, b < 256) :=
 ⟨fun s hs r => tText_app s r (by omega) hs.1, fun s _ hn => vb_ne _ (List.append_eq_nil_iff.1 hn).1, fun s hs b hb => by
  unfold eText at hb; rcases List.mem_append.1 hb with hb | hb
  ·exact vb_byte _ b hb
  ·exact hs.2 b hb⟩
theorem byte_codec : Codec tByte (fun b => [b]) (fun b => b < 256) :=
 ⟨fun b _ r => rfl, fun b _ h => (by cases h), fun b hb c hc => (by simp at hc; omega)⟩
theorem flag_codec : Codec tFlag (fun b => [if b then 1 else 0]) (fun _ => True) :=
 ⟨fun b _ r => by cases b <;> rfl, fun b _ h => (by cases h), fun b _ c hc => (by cases b <;> simp at hc <;> omega)⟩
theorem tL_stop {α : Type} (t : Ds → α × Ds) (e : Int) : tL t (.stop e) = ([], .stop e) := by
 unfold tL; exact tN_zero _ _ rfl
def Shrinks {α : Type} (t : Ds → α × Ds) : Prop := ∀ d, (t d).2.left.length ≤ d.left.length
theorem tN_shrinks {α : Type} {t : Ds → α × Ds} (h : Shrinks t) : ∀ n, Shrinks (tN t n)
 | 0, d => Nat.le_refl _
 | n + 1, d => by
  rw [tN]; split
  ·exact Nat.le_refl _
  ·exact Nat.le_trans (tN_shrinks h n _) (h d)
theorem tN_len {α : Type} {t : Ds → α × Ds} : ∀ (n : Nat) (d : Ds), (tN t n d).1.length ≤ n
 | 0, d => Nat.le_refl _
 | n + 1, d => by
  rw [tN]; split
  ·simp
  ·simp only [List.length_cons]; have := tN_len (t := t) n (t d).2; omega
end Ig
section
def lessB (a b c x y z : Int) : Bool := if a = x then (if b = y then decide (c < z) else decide (b < y)) else decide (a < x)
def sameB (a b c x y z : Int) : Bool := (a == x) && ((b == y) && (c == z))
theorem sameB_iff {a b c x y z : Int} : sameB a b c x y z = true ↔ a = x ∧ b = y ∧ c = z := by simp [sameB]
theorem sameB_self (a b c : Int) : sameB a b c a b c = true := by simp [sameB]
theorem lessB_iff {a b c x y z : Int} : lessB a b c x y z = true ↔ a < x ∨ (a = x ∧ (b < y ∨ (b = y ∧ c < z))) := by
 unfold lessB; by_cases h1 : a = x
 ·by_cases h2 : b = y
  ·simp [h1, h2]
  ·simp [h1, h2]
 ·simp [h1]
theorem lessB_iff_false {a b c x y z : Int} : lessB a b c x y z = false ↔ ¬ (a < x ∨ (a = x ∧ (b < y ∨ (b = y ∧ c < z)))) := by
 rw [← lessB_iff]; simp
theorem less_irr (a b c : Int) : lessB a b c a b c = false := by simp [lessB]
theorem less_trans {a b c x y z r s t : Int} (h : lessB a b c x y z = true) (k : lessB x y z r s t = true) : lessB a b c r s t = true := by
 rw [lessB_iff] at *; omega
open Go.RowKit Go.Sort
abbrev stv (a b c : Int) : Value := .agg #[.int .u64 a, .int .u32 b, .int .u32 c]
def StampAt (w : World) (p : Nat) (a b c : Int) : Prop :=
 w.cell? ⟨p, 0, none⟩ = some (.int .u64 a) ∧ w.cell? ⟨p, 1, none⟩ = some (.int .u32 b) ∧ w.cell? ⟨p, 2, none⟩ = some (.int .u32 c)
theorem StampAt.later {w w' : World} {p : Nat} {a b c : Int} (h : StampAt w p a b c) (hb : Below w.heap.size w w') : StampAt w' p a b c :=
 ⟨cell_later hb h.1, cell_later hb h.2.1, cell_later hb h.2.2⟩
theorem bor {w w' : World} (h : ∃ p : Regrown, w' = grow (redrawn w p.d) p.os) : Below w.heap.size w w' := by
 obtain ⟨p, rfl⟩ := h; exact below_regrown _ _ _
theorem Below.on {w0 w w' : World} (h : Below w0.heap.size w0 w) (k : Below w.heap.size w w') : Below w0.heap.size w0 w' := h.trans (k.mono h.size)
theorem Below.al {w0 w : World} (h : Below w0.heap.size w0 w) (o : Obj) : Below w0.heap.size w0 (w.alloc o) := h.alloc h.size o
theorem bcell {W w1 : World} (hb : Below W.heap.size W w1) : (∀ b o, b < W.heap.size → w1.cell? ⟨b, o, none⟩ = W.cell? ⟨b, o, none⟩) ∧ (∀ b o, b < W.heap.size → w1.frozen? ⟨b, o, none⟩ = W.frozen? ⟨b, o, none⟩) :=
 ⟨fun b o h => hb.cell (p := ⟨b, o, none⟩) h, fun b o h => hb.frozen (p := ⟨b, o, none⟩) h⟩
theorem hid {p : Prop} (h : p) : Hid p := h
def Loose (w : World) (p : Nat) : Prop := ∀ o, w.frozen? ⟨p, o, none⟩ = false
theorem Loose.later {w w' : World} {p : Nat} (h : Loose w p) (hb : Below w.heap.size w w') (hp : p < w.heap.size) : Loose w' p := fun o =>
 (hb.frozen (p := ⟨p, o, none⟩) hp).trans (h o)
open Go.RowKit Go.Sort
def nums (s : ByteArray) : List Nat := s.data.toList.map UInt8.toNat
def ofNats (l : List Nat) : ByteArray := ⟨(l.map UInt8.ofNat).toArray⟩
def B8 (l : List Nat) : Prop := ∀ b ∈ l, b < 256
theorem nln (s : ByteArray) : (nums s).length = s.size := by unfold nums; rw [List.length_map]; rfl
theorem nums_b8 (s : ByteArray) : B8 (nums s) := by
 intro b hb; simp only [nums, List.mem_map] at hb; obtain ⟨x, _, rfl⟩ := hb; exact x.toNat_lt
theorem ofNats_nums (s : ByteArray) : ofNats (nums s) = s := by
 have h : (UInt8.ofNat ∘ UInt8.toNat) = id := by funext x; simp
 cases s with
 | mk a => simp [ofNats, nums, h]
theorem nums_ofNats {l : List Nat} (h : B8 l) : nums (ofNats l) = l := by
 simp only [nums, ofNats, List.map_map]; conv => rhs; rw [← List.map_id l]
 refine List.map_congr_left fun x hx => ?_
 have := h x hx; simp only [Function.comp, id]; exact Nat.mod_eq_of_lt this
theorem ons (l : List Nat) : (ofNats l).size = l.length := by simp [ofNats, ByteArray.size]
theorem ofNats_inj {a b : List Nat} (ha : B8 a) (hb : B8 b) (h : ofNats a = ofNats b) : a = b := by
 rw [← nums_ofNats ha, ← nums_ofNats hb, h]
theorem nums_extract (s : ByteArray) (i j : Nat) : nums (s.extract i j) = ((nums s).take j).drop i := by
 simp [nums, List.map_take, List.map_drop, List.drop_take]
theorem B8.append {a b : List Nat} (ha : B8 a) (hb : B8 b) : B8 (a ++ b) := by
 intro x hx; rcases List.mem_append.1 hx with h | h
 ·exact ha x h
 ·exact hb x h
theorem B8.right {a b : List Nat} (h : B8 (a ++ b)) : B8 b := fun x hx => h x (List.mem_append.2 (.inr hx))
theorem B8.take {a : List Nat} (h : B8 a) (n : Nat) : B8 (a.take n) := fun x hx => h x (List.mem_of_mem_take hx)
theorem B8.drop {a : List Nat} (h : B8 a) (n : Nat) : B8 (a.drop n) := fun x hx => h x (List.mem_of_mem_drop hx)
theorem ofNats_extract {l : List Nat} (h : B8 l) (i j : Nat) : (ofNats l).extract i j = ofNats ((l.take j).drop i) := by
 have := nums_extract (ofNats l) i j; rw [nums_ofNats h] at this; rw [← this, ofNats_nums]
theorem strOfNums_nats (l : List Nat) : strOfNums (l.map Int.ofNat) = ofNats l := by
 simp [strOfNums, ofNats]
theorem B8.nil : B8 [] := fun x hx => by simp at hx
theorem B8.one {v : Nat} (h : v < 256) : B8 [v] := fun x hx => by simp at hx; omega
open Go.RowKit Go.Sort
structure Onl (F : Nat → Prop) (w w' : World) : Prop where
 os : w'.os = w.os
 tape : w'.tape = w.tape
 output : w'.output = w.output
 size : w.heap.size ≤ w'.heap.size
 block : ∀ k, k < w.heap.size → ¬ F k → w'.heap[k]? = w.heap[k]?
theorem Onl.refl (F : Nat → Prop) (w : World) : Onl F w w := ⟨rfl, rfl, rfl, Nat.le_refl _, fun _ _ _ => rfl⟩
theorem Onl.mono {F G : Nat → Prop} {w w' : World} (h : Onl F w w') (hg : ∀ k, F k → G k) : Onl G w w' := ⟨h.os, h.tape, h.output, h.size, fun k hk hn => h.block k hk (fun hf => hn (hg k hf))⟩
theorem Onl.trans {F : Nat → Prop} {a b c : World} (h : Onl F a b) (k : Onl F b c) : Onl F a c :=
 ⟨k.os.trans h.os, k.tape.trans h.tape, k.output.trans h.output, Nat.le_trans h.size k.size, fun i hi hn => (k.block i (Nat.lt_of_lt_of_le hi h.size) hn).trans (h.block i hi hn)⟩
theorem Onl.of_below {F : Nat → Prop} {w w' : World} (h : Below w.heap.size w w') : Onl F w w' := ⟨h.os, h.tape, h.output, h.size, fun k hk _ => h.block k hk⟩
theorem Onl.on {F : Nat → Prop} {a w w' : World} (h : Onl F a w) (k : Below w.heap.size w w') : Onl F a w' := h.trans (Onl.of_below k)
theorem Onl.al {F : Nat → Prop} {a w : World} (h : Onl F a w) (o : Obj) : Onl F a (w.alloc o) := h.on (Below.al (Below.refl _ _) o)
theorem Onl.drew {F : Nat → Prop} {a w : World} (h : Onl F a w) : Onl F a w.drew := ⟨h.os, h.tape, h.output, h.size, h.block⟩
theorem Onl.set {F : Nat → Prop} {a w : World} (h : Onl F a w) {p : Nat} (hp : F p) (o : Nat) (v : Value) : Onl F a (w.setCell ⟨p, o, none⟩ v) :=
 h.trans ⟨rfl, rfl, rfl, by simp [World.setCell], fun k _ hn => Below.heap_setCell _ _ _ _ (by show k ≠ p; exact fun e => hn (e ▸ hp))⟩
theorem Onl.setNew {F : Nat → Prop} {a w : World} (h : Onl F a w) {q : Nat} (hq : a.heap.size ≤ q) (o : Nat) (v : Value) : Onl F a (w.setCell ⟨q, o, none⟩ v) :=
 ⟨h.os, h.tape, h.output, by simpa [World.setCell] using h.size, fun k hk hn => (Below.heap_setCell _ _ _ _ (by show k ≠ q; omega)).trans (h.block k hk hn)⟩
theorem Onl.below {F : Nat → Prop} {B : Nat} {w w' : World} (h : Onl F w w') (hF : ∀ k, F k → B ≤ k) (hB : B ≤ w.heap.size) : Below B w w' :=
 ⟨h.os, h.tape, h.output, h.size, fun k hk => h.block k (by omega) (fun hf => by have := hF k hf; omega)⟩
theorem Onl.cell {F : Nat → Prop} {b o : Nat} {w w' : World} {v : Value} (h : Onl F w w') (hb : ¬ F b) (k : w.cell? ⟨b, o, none⟩ = some v) : w'.cell? ⟨b, o, none⟩ = some v := by
 rw [← k]; exact World.cell?_of_block (a := ⟨b, o, none⟩) (h.block b (World.block_lt_of_cell? _ _ k) hb)
theorem Onl.fresh {F G : Nat → Prop} {a b c : World} (h : Onl F a b) (k : Onl G b c) (hg : ∀ i, G i → F i ∨ a.heap.size ≤ i) : Onl F a c :=
 ⟨k.os.trans h.os, k.tape.trans h.tape, k.output.trans h.output, Nat.le_trans h.size k.size, fun i hi hn => (k.block i (Nat.lt_of_lt_of_le hi h.size) (fun hG => by
  rcases hg i hG with h1 | h1
  ·exact hn h1
  ·omega)).trans (h.block i hi hn)⟩
theorem grown_onl {w w' : World} {r : Option Nat} (h : w.grownBy w' r) : Onl (fun k => r = some k) w w' :=
 ⟨h.os, h.tape, h.output, h.size, fun k hk hn => h.block k hk (fun e => hn e.symm)⟩
theorem owk {w w' : World} {B size n : Nat} {e : TypeId} {v : Value} {xs : List Value} (h : w.ownsRow B e size v n xs) (hb : ∀ g, v.ownBlock = some g → w'.heap[g]? = w.heap[g]?) : w'.ownsRow B e size v n xs := by
 obtain ⟨h1, h2 | ⟨g, cap, cur, rfl, hg, hh, r⟩⟩ := h
 ·exact ⟨h1, .inl h2⟩
 ·exact ⟨h1, .inr ⟨g, cap, cur, rfl, hg, by rw [hb g rfl]; exact hh, r⟩⟩
theorem ows {w : World} {B size n : Nat} {e : TypeId} {v : Value} {xs : List Value} (h : w.ownsRow B e size v n xs) : ∃ a c, v = .slice a n c := by
 obtain ⟨h1, ⟨rfl, rfl⟩ | ⟨g, cap, cur, rfl, r⟩⟩ := h
 ·exact ⟨none, 0, rfl⟩
 ·exact ⟨_, cap, rfl⟩
theorem Loose.setc {w : World} {p : Nat} (h : Loose w p) (a : Addr) (v : Value) : Loose (w.setCell a v) p := fun o => by
 rw [World.frozen?_setCell]; exact h o
theorem cell_setc {w : World} {a b : Addr} {v u : Value} (hne : b ≠ a) (h : w.cell? b = some u) : (w.setCell a v).cell? b = some u := by
 rw [World.cell?_setCell_other _ _ _ _ (fun e => hne e.symm), h]
open Go.RowKit Go.Sort
structure Cel (b o n : Nat) (w w' : World) : Prop where
 os : w'.os = w.os
 tape : w'.tape = w.tape
 output : w'.output = w.output
 size : w.heap.size ≤ w'.heap.size
 block : ∀ k, k < w.heap.size → k ≠ b → w'.heap[k]? = w.heap[k]?
 cells : ∀ i, b < w.heap.size → (i < o ∨ o + n ≤ i) → w'.cell? ⟨b, i, none⟩ = w.cell? ⟨b, i, none⟩
 frz : ∀ i, b < w.heap.size → w'.frozen? ⟨b, i, none⟩ = w.frozen? ⟨b, i, none⟩
theorem Cel.refl (b o n : Nat) (w : World) : Cel b o n w w := ⟨rfl, rfl, rfl, Nat.le_refl _, fun _ _ _ => rfl, fun _ _ _ => rfl, fun _ _ => rfl⟩
theorem Cel.trans {b o n : Nat} {w1 w2 w3 : World} (h : Cel b o n w1 w2) (k : Cel b o n w2 w3) : Cel b o n w1 w3 :=
 ⟨k.os.trans h.os, k.tape.trans h.tape, k.output.trans h.output, Nat.le_trans h.size k.size, fun i hi hp => (k.block i (Nat.lt_of_lt_of_le hi h.size) hp).trans (h.block i hi hp),
  fun i hb hi => (k.cells i (Nat.lt_of_lt_of_le hb h.size) hi).trans (h.cells i hb hi), fun i hb => (k.frz i (Nat.lt_of_lt_of_le hb h.size)).trans (h.frz i hb)⟩
theorem Cel.of_below {b o n : Nat} {w w' : World} (h : Below w.heap.size w w') : Cel b o n w w' :=
 ⟨h.os, h.tape, h.output, h.size, fun k hk _ => h.block k hk, fun i hb _ => h.cell (p := ⟨b, i, none⟩) hb, fun i hb => h.frozen (p := ⟨b, i, none⟩) hb⟩
theorem Cel.on {b o n : Nat} {a w w' : World} (h : Cel b o n a w) (k : Below w.heap.size w w') : Cel b o n a w' := h.trans (Cel.of_below k)
theorem Cel.al {b o n : Nat} {a w : World} (h : Cel b o n a w) (x : Obj) : Cel b o n a (w.alloc x) := h.on (Below.al (Below.refl _ _) x)
theorem Cel.drew {b o n : Nat} {a w : World} (h : Cel b o n a w) : Cel b o n a w.drew := ⟨h.os, h.tape, h.output, h.size, h.block, h.cells, h.frz⟩
theorem Cel.set {b o n : Nat} {a w : World} (h : Cel b o n a w) (i : Nat) (hi : o ≤ i ∧ i < o + n) (v : Value) : Cel b o n a (w.setCell ⟨b, i, none⟩ v) :=
 h.trans ⟨rfl, rfl, rfl, by simp [World.setCell], fun k _ hp => Below.heap_setCell _ _ _ _ hp, fun j _ hj => World.cell?_setCell_other _ _ _ _ (fun e => by have := congrArg Addr.off e; dsimp only at this; omega), fun j _ => World.frozen?_setCell _ _ _ _⟩
theorem Cel.setNew {b o n q : Nat} {a w : World} (h : Cel b o n a w) (hq : a.heap.size ≤ q) (i : Nat) (v : Value) : Cel b o n a (w.setCell ⟨q, i, none⟩ v) :=
 ⟨h.os, h.tape, h.output, by simpa [World.setCell] using h.size, fun k hk hp => (Below.heap_setCell _ _ _ _ (by show k ≠ q; omega)).trans (h.block k hk hp),
  fun j hb hj => (World.cell?_setCell_other _ _ _ _ (fun e => by have := congrArg Addr.block e; dsimp only at this; omega)).trans (h.cells j hb hj), fun j hb => (World.frozen?_setCell _ _ _ _).trans (h.frz j hb)⟩
theorem Cel.cell {b o n c i : Nat} {w w' : World} {v : Value} (h : Cel b o n w w') (hc : c ≠ b ∨ i < o ∨ o + n ≤ i) (k : w.cell? ⟨c, i, none⟩ = some v) : w'.cell? ⟨c, i, none⟩ = some v := by
 have hl := World.block_lt_of_cell? _ _ k; by_cases hb : c = b
 ·subst hb; rw [← k]; exact h.cells i hl (by omega)
 ·rw [← k]; exact World.cell?_of_block (a := ⟨c, i, none⟩) (h.block c hl hb)
theorem Cel.loose {b o n c : Nat} {w w' : World} (h : Cel b o n w w') (hs : c < w.heap.size) (k : Loose w c) : Loose w' c := fun i => by
 by_cases hb : c = b
 ·subst hb; rw [← k i]; exact h.frz i hs
 ·rw [← k i]; exact World.frozen?_of_block (a := ⟨c, i, none⟩) (h.block c hs hb)
theorem Cel.below {b o n B : Nat} {w w' : World} (h : Cel b o n w w') (hb : B ≤ b) (hB : B ≤ w.heap.size) : Below B w w' :=
 ⟨h.os, h.tape, h.output, h.size, fun k hk => h.block k (by omega) (by omega)⟩
def ptrOf : List (Nat × List Nat) → Value
 | [] => .pointer none
 | (g, _) :: _ => .pointer (some ⟨g, 0, none⟩)
def Chain (w : World) : List (Nat × List Nat) → Prop
 | [] => True
 | (g, t) :: r => w.cell? ⟨g, 0, none⟩ = some (ptrOf r) ∧ w.cell? ⟨g, 1, none⟩ = some (.string (ofNats t)) ∧ B8 t ∧ Chain w r
def total : List (Nat × List Nat) → List Nat
 | [] => []
 | (_, t) :: r => total r ++ t
structure EncAt (w : World) (A : Nat → Prop) (b o : Nat) (bs : List Nat) : Prop where
 self : A b
 ex : ∃ cs, total cs = bs ∧ Chain w cs ∧ (∀ x ∈ cs, ¬ A x.1) ∧ w.cell? ⟨b, o, none⟩ = some (ptrOf cs)
 size : w.cell? ⟨b, o + 1, none⟩ = some (.int .i64 bs.length)
 loose : Loose w b
theorem Chain.keep {w w' : World} {A : Nat → Prop} : ∀ {cs : List (Nat × List Nat)}, Chain w cs → (∀ x ∈ cs, ¬ A x.1) → (∀ k i v, ¬ A k → w.cell? ⟨k, i, none⟩ = some v → w'.cell? ⟨k, i, none⟩ = some v) → Chain w' cs
 | [], _, _, _ => trivial
 | (g, t) :: r, ⟨h1, h2, h3, h4⟩, hA, hk => by
  have hg : ¬ A g := hA (g, t) (by simp); exact ⟨hk _ _ _ hg h1, hk _ _ _ hg h2, h3, Chain.keep h4 (fun x hx => hA x (by simp [hx])) hk⟩
theorem Chain.b8 {w : World} : ∀ {cs : List (Nat × List Nat)}, Chain w cs → B8 (total cs)
 | [], _ => B8.nil
 | (_, _) :: _, ⟨_, _, h3, h4⟩ => (Chain.b8 h4).append h3
theorem EncAt.lt {w : World} {A : Nat → Prop} {b o : Nat} {bs : List Nat} (h : EncAt w A b o bs) : b < w.heap.size := World.block_lt_of_cell? _ _ h.size
theorem EncAt.b8 {w : World} {A : Nat → Prop} {b o : Nat} {bs : List Nat} (h : EncAt w A b o bs) : B8 bs := by
 obtain ⟨cs, rfl, hc, _⟩ := h.ex; exact hc.b8
theorem EncAt.later {w w' : World} {A : Nat → Prop} {b o : Nat} {bs : List Nat} (h : EncAt w A b o bs) (k : Below w.heap.size w w') : EncAt w' A b o bs := by
 obtain ⟨cs, ht, hch, hA, hp⟩ := h.ex; exact ⟨h.self, ⟨cs, ht, hch.keep hA (fun q i v hq hv => cell_later k hv), hA, cell_later k hp⟩, cell_later k h.size, h.loose.later k h.lt⟩
structure DecR (w : World) (b o : Nat) (s : List Nat) (r : Int) : Prop where
 c0 : w.cell? ⟨b, o, none⟩ = some (.string (ofNats s))
 c1 : w.cell? ⟨b, o + 1, none⟩ = some (.int .i64 r)
 b8 : B8 s
 loose : Loose w b
theorem DecR.lt {w : World} {b o : Nat} {s : List Nat} {r : Int} (h : DecR w b o s r) : b < w.heap.size := World.block_lt_of_cell? _ _ h.c0
theorem DecR.keep {w w' : World} {b o : Nat} {s : List Nat} {r : Int} (h : DecR w b o s r) {c p n : Nat} (k : Cel c p n w w') (hd : c ≠ b ∨ o + 2 ≤ p ∨ p + n ≤ o) : DecR w' b o s r :=
 ⟨k.cell (by omega) h.c0, k.cell (by omega) h.c1, h.b8, k.loose h.lt h.loose⟩
theorem DecR.later {w w' : World} {b o : Nat} {s : List Nat} {r : Int} (h : DecR w b o s r) (k : Below w.heap.size w w') : DecR w' b o s r :=
 ⟨cell_later k h.c0, cell_later k h.c1, h.b8, h.loose.later k h.lt⟩
theorem DecR.set0 {w : World} {b o : Nat} {s : List Nat} {r : Int} (h : DecR w b o s r) {t : List Nat} (ht : B8 t) : DecR (w.setCell ⟨b, o, none⟩ (.string (ofNats t))) b o t r :=
 ⟨World.cell?_setCell_same _ _ _ h.c0, cell_setc (by simp) h.c1, ht, h.loose.setc _ _⟩
theorem DecR.set1 {w : World} {b o : Nat} {s : List Nat} {r : Int} (h : DecR w b o s r) (q : Int) : DecR (w.setCell ⟨b, o + 1, none⟩ (.int .i64 q)) b o s q :=
 ⟨cell_setc (by simp) h.c0, World.cell?_setCell_same _ _ _ h.c1, h.b8, h.loose.setc _ _⟩
def Ds.num : Ds → Int
 | .at _ => 0
 | .stop e => e
def Ds.ok : Ds → Prop
 | .at _ => True
 | .stop e => e ≠ 0
structure DecAt (w : World) (b o : Nat) (d : Ds) : Prop where
 raw : DecR w b o d.left d.num
 ok : d.ok
open Go.RowKit Go.Sort
theorem or128_fin : ∀ x : Fin 256, bits .or .u8 ((x.val : Nat) : Int) 128 = ((x.val % 128 + 128 : Nat) : Int) := by decide +kernel
theorem or128 (x : Nat) (h : x < 256) : bits .or .u8 (x : Int) 128 = ((x % 128 + 128 : Nat) : Int) := or128_fin ⟨x, h⟩
theorem not128_fin : ∀ x : Fin 256, bits .andNot .u8 ((x.val : Nat) : Int) 128 = ((x.val % 128 : Nat) : Int) := by decide +kernel
theorem not128 (x : Nat) (h : x < 256) : bits .andNot .u8 (x : Int) 128 = ((x % 128 : Nat) : Int) := not128_fin ⟨x, h⟩
theorem or_above (x y k : Nat) (hk : k ≤ 64) (hx : x < 2 ^ k) (hy : y * 2 ^ k < 18446744073709551616) : bits .or .u64 (x : Int) ((y * 2 ^ k : Nat) : Int) = ((x + y * 2 ^ k : Nat) : Int) := by
 have hx' : x < 18446744073709551616 := Nat.lt_of_lt_of_le hx (Nat.pow_le_pow_right (n := 2) (j := 64) (by decide) hk); have h := bits_or_u64_nat x (y * 2 ^ k) (by omega) (by omega); have e : x ||| y * 2 ^ k = x + y * 2 ^ k := by
  have := Nat.shiftLeft_add_eq_or_of_lt (b := x) (i := k) hx y; rw [Nat.shiftLeft_eq] at this; rw [Nat.or_comm, ← this, Nat.add_comm]
 rw [e] at h; exact h
end
end Go.Proofs.YtofpaldolcnmiaaGreat
