import Derived.Test.YtneojeidpfjpbaaGreatDoorB09
import Derived.RangeFuncBox
import Derived.RangeFuncNested
import Derived.RangeFuncBound
import Derived.RangeFuncCalls
import Derived.RangeFuncLeaves
import Derived.Shelf.Abstract
import Derived.Shelf.RegionOpen
import Derived.OwnWalkIn
import Derived.TacticsInMore
import Derived.LoopNIn
import Derived.LoopIn
import Derived.Stop.RegionWithIn
set_option linter.unusedVariables false
set_option maxHeartbeats 2000000
namespace Go.Proofs.YtneojeidpfjpbaaGreatDoor.Vs
open Go.RowKit Go.Sort
theorem node_new {S : Nat → Prop} {w w' : World} {k : ByteArray} {v : Hd} {l r : Tr} {n : Int} (hn : n = ((l.n + 1 + r.n : Nat) : Int)) (hl : TrIn S w l) (hr : TrIn S w r) (hS : S w.heap.size)
  (h : w' = w.alloc (.cells #[.string k, .slice (some ⟨v.g, 0, none⟩) v.n v.cap, .pointer l.pt, .pointer r.pt, .int .i64 n] 249)) : TrIn S w' (.node w.heap.size k v l r) ∧ Below w.heap.size w w' := by
 subst h hn; have hb : Below w.heap.size w (w.alloc (.cells #[.string k, .slice (some ⟨v.g, 0, none⟩) v.n v.cap, .pointer l.pt, .pointer r.pt, .int .i64 ((l.n + 1 + r.n : Nat) : Int)] 249)) := Below.al (Below.refl _ _) _; have hc := World.alloc_heap_new w (.cells #[.string k, .slice (some ⟨v.g, 0, none⟩) v.n v.cap, .pointer l.pt, .pointer r.pt, .int .i64 ((l.n + 1 + r.n : Nat) : Int)] 249); refine ⟨⟨⟨hS, hc⟩, ?_, ?_, ?_, ?_, ?_, hl.later hb, hr.later hb⟩, hb⟩ <;> (simp only [World.cell?, hc]; rfl)
theorem count_is {S : Nat → Prop} {T : Tr} {w : World} (h : TrIn S w T) :
  Calls Tryz.prog 231 #[.pointer T.pt] w fun e w' => e = .returned (.int .i64 (T.n : Int)) ∧ w' = w := by
 cases T with
 | nil =>
  show Calls Tryz.prog 231 #[.pointer none] w _
  go_enter Tryz.func231, Tryz.ntmps231
  go_wp2_with fail
  go_ret
  exact ⟨rfl, rfl⟩
 | node b k v l r =>
  obtain ⟨hb, h0, h1, h2, h3, h4, hl, hr⟩ := h; show Calls Tryz.prog 231 #[.pointer (some ⟨b, 0, none⟩)] w _
  clear h0 h1 h2 h3 hl hr; obtain ⟨m, hm⟩ : ∃ m : Int, m = ((Tr.node b k v l r).n : Int) := ⟨_, rfl⟩; rw [show ((l.n + 1 + r.n : Nat) : Int) = m from hm.symm] at h4; rw [← hm]; clear hm; go_enter Tryz.func231, Tryz.ntmps231
  go_wp2_with fail
  go_ret
  exact ⟨rfl, rfl⟩
theorem weight_is {S : Nat → Prop} {T : Tr} {w : World} (h : TrIn S w T) (hn : T.n ≤ 1152921504606846976) :
  Calls Tryz.prog 260 #[.pointer T.pt] w fun e w' => e = .returned (.int .i64 ((T.n : Int) + 1)) ∧ w' = w := by
 have hc := count_is h; obtain ⟨m, hm⟩ : ∃ m : Nat, m = T.n := ⟨_, rfl⟩; obtain ⟨p, hp⟩ : ∃ p, p = T.pt := ⟨_, rfl⟩; rw [← hm] at hc hn ⊢; rw [← hp] at hc ⊢; clear h hm hp; go_enter Tryz.func260, Tryz.ntmps260
 go_wp2_with (go_at_call 231; refine hc.mono ?_; clear hc; rintro e w' ⟨rfl, rfl⟩)
 go_ret
 exact ⟨by go_num, rfl⟩
theorem over_is {S : Nat → Prop} {b : Nat} {k : ByteArray} {v : Hd} {l r : Tr} {w : World} (hS : ∀ i, w.heap.size ≤ i → S i) (h0 : w.cell? ⟨b, 0, none⟩ = some (.string k)) (h1 : w.cell? ⟨b, 1, none⟩ = some (.slice (some ⟨v.g, 0, none⟩) v.n v.cap))
  (hl : TrIn S w l) (hr : TrIn S w r) (hn : l.n + r.n ≤ 1152921504606846976) :
  Calls Tryz.prog 263 #[.pointer (some ⟨b, 0, none⟩), .pointer l.pt, .pointer r.pt] w fun e w' => ∃ b', e = .returned (.pointer (some ⟨b', 0, none⟩)) ∧ TrIn S w' (.node b' k v l r) ∧ Below w.heap.size w w' := by
 have cl : ∀ W, Below w.heap.size w W → _ := fun W hb => count_is (hl.later hb)
 have cr : ∀ W, Below w.heap.size w W → _ := fun W hb => count_is (hr.later hb)
 have HL := hid hl; have HR := hid hr; obtain ⟨pl, hpl⟩ : ∃ p, p = l.pt := ⟨_, rfl⟩; obtain ⟨pr, hpr⟩ : ∃ p, p = r.pt := ⟨_, rfl⟩; obtain ⟨nl, hnl⟩ : ∃ p, p = l.n := ⟨_, rfl⟩; obtain ⟨nr, hnr⟩ : ∃ p, p = r.n := ⟨_, rfl⟩; rw [← hpl, ← hnl] at cl; rw [← hpr, ← hnr] at cr; rw [← hpl, ← hpr]; rw [← hnl, ← hnr] at hn; have HQ := hid (And.intro hpl (And.intro hpr (And.intro hnl hnr))); have HS := hid hS; have CL := hid cl; have CR := hid cr; clear hl hr hpl hpr hnl hnr cl cr hS; go_enter Tryz.func263, Tryz.ntmps263
 go_wp2_with fail
 go_region_held3 (fun w' => w'.cell? ⟨b, 0, none⟩ = some (.string k) ∧ w'.cell? ⟨b, 1, none⟩ = some (.slice (some ⟨v.g, 0, none⟩) v.n v.cap) ∧ Below w.heap.size w w')
  ((refine (fun (hB : Below w.heap.size w _) => ⟨cell_later hB h0, cell_later hB h1, hB⟩) ?_; (repeat (first | exact Below.refl _ _ | assumption | refine Below.drew ?_ | refine Below.al ?_ _ | refine Below.setCell ?_ (by first | exact Nat.le_refl _ | (simp; omega) | (simp; done)) _ | refine Below.on ?_ (by assumption)))))
  (first | (go_at_call_of 231 pl; refine (CL.out _ ?_).mono ?_; ((repeat (first | exact Below.refl _ _ | assumption | refine Below.drew ?_ | refine Below.al ?_ _ | refine Below.setCell ?_ (by first | exact Nat.le_refl _ | (simp; omega) | (simp; done)) _ | refine Below.on ?_ (by assumption)))); rintro e w1 ⟨rfl, rfl⟩) | (go_at_call_of 231 pr; refine (CR.out _ ?_).mono ?_; ((repeat (first | exact Below.refl _ _ | assumption | refine Below.drew ?_ | refine Below.al ?_ _ | refine Below.setCell ?_ (by first | exact Nat.le_refl _ | (simp; omega) | (simp; done)) _ | refine Below.on ?_ (by assumption)))); rintro e w1 ⟨rfl, rfl⟩))
 go_wp2_with fail
 obtain ⟨rfl, rfl, rfl, rfl⟩ := HQ.out; obtain ⟨t1, t2⟩ := node_new (S := S) (k := k) (v := v) (show (IntKind.i64.wrap (IntKind.i64.wrap ((l.n : Int) + 1) + (r.n : Int))) = ((l.n + 1 + r.n : Nat) : Int) by rw [IntKind.wrap_i64, IntKind.wrap_i64]; omega) HL.out HR.out (HS.out _ (Nat.le_refl _)) rfl; go_ret
 exact ⟨_, rfl, t1.later (Below.drew (Below.refl _ _)), Below.drew t2⟩
theorem toList_beq' {a b : ByteArray} {u : Bool} (h : decide (a = b) = u) : (a.toList == b.toList) = u := by
 rw [← h, Bool.eq_iff_iff]; simp only [beq_iff_eq, decide_eq_true_eq]; exact ⟨bytes_inj, fun e => by rw [e]⟩
theorem find_is {S : Nat → Prop} {T : Tr} {w : World} (key : ByteArray) (h : TrIn S w T) :
  Calls Tryz.prog 178 #[.pointer T.pt, .string key] w fun e w' => e = .returned (.pointer (T.find key).pt) ∧ w' = w := by
 have HT := hid h; clear h; go_enter Tryz.func178, Tryz.ntmps178
 go_wp2_with fail
 go_loopg [0] T.n (fun g s0 wr => ∃ C : Tr, g = C.n ∧ s0 = .pointer C.pt ∧ Hid (TrIn S w C) ∧ Hid (T.find key = C.find key) ∧ wr = w)
 case atStart => exact ⟨T, rfl, rfl, HT, rfl, rfl⟩
 case round =>
  obtain ⟨C, rfl, rfl, HC, HE, rfl⟩ := hrel; cases C with
  | nil =>
   show Code.wp _ _ _ _ _
   simp only [Tr.pt]; go_wp2_with fail
   go_ret
   exact ⟨by rw [HE.out]; rfl, rfl⟩
  | node b k v l r =>
   obtain ⟨hb, h0, h1, h2, h3, h4, hl, hr⟩ := HC.out; simp only [Tr.pt]; clear h1 h4; by_cases hk : k = key
   ·have q1 := toList_beq' (decide_eq_true hk); have HF : Hid ((Tr.node b k v l r).find key = .node b k v l r) := by show _ = _; rw [Tr.find, if_pos hk]
    clear hk; go_wp2_with fail
    go_ret
    exact ⟨by rw [HE.out, HF.out]; rfl, rfl⟩
   ·have q1 := toList_beq' (decide_eq_false hk); cases hlt : lt key k with
    | true =>
     have q2 : Op.bytesLess key.toList k.toList = true := hlt; have HF : Hid ((Tr.node b k v l r).find key = l.find key) := by show _ = _; rw [Tr.find, if_neg hk, if_pos hlt]
     clear hk hlt; have HL := hid hl; clear hl hr h3; go_wp2_with fail
     go_roundg l.n
     case measure => simp only [Tr.n]; omega
     case rel => exact ⟨l, rfl, rfl, HL, by show _ = _; rw [HE.out, HF.out], rfl⟩
    | false =>
     have q2 : Op.bytesLess key.toList k.toList = false := hlt; have HF : Hid ((Tr.node b k v l r).find key = r.find key) := by show _ = _; rw [Tr.find, if_neg hk, if_neg (by rw [hlt]; decide)]
     clear hk hlt; have HL := hid hr; clear hl hr h2; go_wp2_with fail
     go_roundg r.n
     case measure => simp only [Tr.n]; omega
     case rel => exact ⟨r, rfl, rfl, HL, by show _ = _; rw [HE.out, HF.out], rfl⟩
def Tr.least : Tr → Tr
 | .nil => .nil
 | .node b k v .nil r => .node b k v .nil r
 | .node _ _ _ (.node b k v l r) _ => (Tr.node b k v l r).least
theorem least_is {S : Nat → Prop} {T : Tr} {w : World} (h : TrIn S w T) (hT : T ≠ .nil) :
  Calls Tryz.prog 230 #[.pointer T.pt] w fun e w' => e = .returned (.pointer T.least.pt) ∧ w' = w := by
 have HT := hid h; clear h; have HN := hid hT; clear hT; go_enter Tryz.func230, Tryz.ntmps230
 go_wp2_with fail
 go_loopg [0] T.n (fun g s0 wr => ∃ C : Tr, g = C.n ∧ s0 = .pointer C.pt ∧ Hid (TrIn S w C) ∧ Hid (T.least = C.least) ∧ Hid (C ≠ .nil) ∧ wr = w)
 case atStart => exact ⟨T, rfl, rfl, HT, rfl, HN, rfl⟩
 case round =>
  obtain ⟨C, rfl, rfl, HC, HE, HN, rfl⟩ := hrel; cases C with
  | nil => exact absurd rfl HN.out
  | node b k v l r =>
   obtain ⟨hb, h0, h1, h2, h3, h4, hl, hr⟩ := HC.out; simp only [Tr.pt]; clear h0 h1 h3 h4 hr; cases l with
   | nil =>
    simp only [Tr.pt] at h2; go_wp2_with fail
    go_ret
    exact ⟨by rw [HE.out]; rfl, rfl⟩
   | node b2 k2 v2 l2 r2 =>
    simp only [Tr.pt] at h2; have HL := hid hl; clear hl; go_wp2_with fail
    go_roundg (Tr.node b2 k2 v2 l2 r2).n
    case measure => simp only [Tr.n]; omega
    case rel => exact ⟨_, rfl, rfl, HL, by show _ = _; rw [HE.out]; rfl, fun e => (by cases e), rfl⟩
theorem Tr.least_spec : ∀ (T : Tr), T ≠ .nil → ∃ b k v l r, T.least = .node b k v l r ∧ ∃ rest, T.list = (k, v) :: rest
 | .nil, h => absurd rfl h
 | .node b k v .nil r, _ => ⟨b, k, v, .nil, r, rfl, r.list, rfl⟩
 | .node b0 k0 v0 (.node b k v l r) r0, _ => by
  obtain ⟨b', k', v', l', r', e, rest, hl⟩ := Tr.least_spec (.node b k v l r) (fun e => by cases e); exact ⟨b', k', v', l', r', e, rest ++ (k0, v0) :: r0.list, by rw [Tr.list, hl]; rfl⟩
theorem TrIn.least {S : Nat → Prop} {w : World} : ∀ {T : Tr}, TrIn S w T → TrIn S w T.least
 | .nil, h => h
 | .node _ _ _ .nil _, h => h
 | .node _ _ _ (.node b k v l r) _, h => TrIn.least (T := .node b k v l r) h.2.2.2.2.2.2.1
theorem leq_less' : ∀ a b : List UInt8, (Op.bytesLess a b || a == b) = !Op.bytesLess b a
 | a, b => by
  rcases bless_tri a b with h | h | h
  ·subst h; rw [bless_irrefl]; simp
  ·have h2 : Op.bytesLess b a = false := by
    cases hb : Op.bytesLess b a with
    | false => rfl
    | true => exact absurd (bless_trans _ _ _ h hb) (by rw [bless_irrefl]; decide)
   rw [h, h2]; rfl
  ·have h2 : Op.bytesLess a b = false := by
    cases hb : Op.bytesLess a b with
    | false => rfl
    | true => exact absurd (bless_trans _ _ _ h hb) (by rw [bless_irrefl]; decide)
   have h3 : (a == b) = false := by
    rw [beq_eq_false_iff_ne]; intro e; subst e; rw [bless_irrefl] at h; cases h
   rw [h, h2, h3]; rfl
theorem retB {a b : Bool} (h : a = b) : Ending.returned (Value.bool a) = Ending.returned (Value.bool b) := by rw [h]
theorem Below.drewN {B : Nat} {a w : World} (h : Below B a w) (n : Nat) : Below B a (w.drewN n) := ⟨h.os, h.tape, h.output, h.size, h.block⟩
theorem from_is {b : Nat} {k lo hi : ByteArray} {w : World} {u : Bool} (hu : fromB lo k = u) (h0 : w.cell? ⟨b, 0, none⟩ = some (.string k)) :
  Calls Tryz.prog 182 #[.pointer (some ⟨b, 0, none⟩), .agg #[.string lo, .string hi]] w fun e w' => e = .returned (.bool u) ∧ Below w.heap.size w w' := by
 have hle : (Op.bytesLess lo.toList k.toList || lo.toList == k.toList) = u := by rw [leq_less', ← hu]; rfl
 have k0 : (w.alloc (.cells #[.string lo, .string hi] 25)).cell? ⟨b, 0, none⟩ = some (.string k) := cell_later (Below.al (Below.refl _ w) _) h0; clear hu; go_enter Tryz.func182, Tryz.ntmps182
 go_wp2_with fail
 go_region
 all_goals go_wp2_with fail
 all_goals go_ret
 all_goals exact ⟨retB (by first | rfl | simp_all), by (repeat (first | exact Below.refl _ _ | assumption | refine Below.drew ?_ | refine Below.al ?_ _ | refine Below.setCell ?_ (by first | exact Nat.le_refl _ | (simp; omega) | (simp; done)) _ | refine Below.on ?_ (by assumption)))⟩
theorem under_is {b : Nat} {k lo hi : ByteArray} {w : World} {u : Bool} (hu : underB hi k = u) (h0 : w.cell? ⟨b, 0, none⟩ = some (.string k)) :
  Calls Tryz.prog 183 #[.pointer (some ⟨b, 0, none⟩), .agg #[.string lo, .string hi]] w fun e w' => e = .returned (.bool u) ∧ Below w.heap.size w w' := by
 obtain ⟨b2, h2⟩ : ∃ b, hi.toList.isEmpty = b := ⟨_, rfl⟩; obtain ⟨b3, h3⟩ : ∃ b, Op.bytesLess k.toList hi.toList = b := ⟨_, rfl⟩; have HQ : Hid (u = (b2 || b3)) := by show _ = _; rw [← hu, underB, lt, h2, h3]
 have h2' : (hi.toList = []) = (b2 = true) := by rw [← h2]; simp
 have k0 : (w.alloc (.cells #[.string lo, .string hi] 25)).cell? ⟨b, 0, none⟩ = some (.string k) := cell_later (Below.al (Below.refl _ w) _) h0; clear hu; cases b2 <;> cases b3
 all_goals (try simp only [Bool.false_eq_true] at h2')
 all_goals
  go_enter Tryz.func183, Tryz.ntmps183
  go_wp2_with fail
  go_quiet (fail)
  go_wp2_with fail
  go_ret
  exact ⟨retB (by rw [HQ.out]; first | rfl | simp_all), Below.drewN (by (repeat (first | exact Below.refl _ _ | assumption | refine Below.drew ?_ | refine Below.al ?_ _ | refine Below.setCell ?_ (by first | exact Nat.le_refl _ | (simp; omega) | (simp; done)) _ | refine Below.on ?_ (by assumption)))) _⟩
open Go.RowKit Go.Sort Go.Shelf
attribute [local go_sem] Oper.semAt_some
theorem YieldAt.anyD {m : Nat} (m' : Nat) {P : Program} {l : Nat} {args : Array Value} {W : World} {R : Ending → World → Prop} (h : YieldAt Fence.wide m P l args W R) : YieldAt Fence.wide m' P l args W R := by
 obtain ⟨fn, tmps, assign, body, hy, hR⟩ := h; exact ⟨fn, tmps, assign, body, hy, ⟨hR.1, fun c cs _ => hR.2 c cs (room_wide _)⟩⟩
structure Loops {α : Type} (f : α → En) (l N : Nat) (J Jx : List α → World → Prop) : Prop where
 round : ∀ m pre x W, J pre W → pre.length < N → YieldAt Fence.wide m Tryz.prog l #[.string (f x).1, .slice (some ⟨(f x).2.g, 0, none⟩) (f x).2.n (f x).2.cap] W fun e W' => ∃ u, e = .returned (.bool u) ∧ (u = true → J (pre ++ [x]) W' ∧ Kp W W') ∧ (u = false → Jx (pre ++ [x]) W')
 later : ∀ pre W W', J pre W → Below W.heap.size W W' → J pre W'
theorem map_parts {α : Type} {f : α → En} {ys : List α} {a b c : List En} (h : ys.map f = a ++ b ++ c) : ∃ y1 y2 y3, ys = y1 ++ y2 ++ y3 ∧ y1.map f = a ∧ y2.map f = b ∧ y3.map f = c := by
 obtain ⟨y12, y3, rfl, h12, h3⟩ := List.map_eq_append_iff.1 h; obtain ⟨y1, y2, rfl, h1, h2⟩ := List.map_eq_append_iff.1 h12; exact ⟨y1, y2, y3, rfl, h1, h2, h3⟩
theorem map_one {α : Type} {f : α → En} {ys : List α} {e : En} (h : ys.map f = [e]) : ∃ y, ys = [y] ∧ f y = e := by
 cases ys with
 | nil => simp at h
 | cons y t =>
  cases t with
  | nil => exact ⟨y, rfl, by simpa using h⟩
  | cons z t => simp at h
def Ran {α : Type} (J Jx : List α → World → Prop) (pre ys : List α) (W : World) : Ending → World → Prop := fun e W' =>
 ∃ u, e = .returned (.bool u) ∧ (u = true → J (pre ++ ys) W' ∧ Kp W W') ∧ (u = false → ∃ q, q <+: ys ∧ Jx (pre ++ q) W')
theorem box_new (w : World) (lo hi : ByteArray) : (w.alloc (.cells #[.string lo, .string hi] 25)).heap[w.heap.size]? = some (.cells #[.string lo, .string hi] 25 (0, 0)) := World.alloc_heap_new w _
theorem box_kp {w w' : World} {B : Nat} {lo hi : ByteArray} (h : Kp w w') (hb : w.heap[B]? = some (.cells #[.string lo, .string hi] 25 (0, 0))) : w'.heap[B]? = some (.cells #[.string lo, .string hi] 25 (0, 0)) := h.2 B _ _ _ (.inr (.inl rfl)) hb
open Go.RowKit Go.Sort Go.Shelf
attribute [local go_sem] Oper.semAt_some
set_option maxRecDepth 100000 in
theorem up_tt {α : Type} {f : α → En} {l N : Nat} {J Jx : List α → World → Prop} (H : Loops f l N J Jx) {b : Nat} {k lo hi : ByteArray} {v : Hd} {tl tr : Tr} {pre y1 y3 : List α} {y : α} {W : World}
  (h : TrIn (fun _ => True) W (.node b k v tl tr)) (hf : fromB lo k = true) (hu : underB hi k = true) (hy : f y = (k, v)) (hJ : J pre W) (hN : (pre ++ y1).length < N)
  (il : ∀ W', Kp W W' → J pre W' → Calls Tryz.prog 134 #[.pointer tl.pt, .agg #[.string lo, .string hi], .func (.yield l) #[] #[]] W' (Ran J Jx (pre) y1 W'))
  (ir : ∀ W', Kp W W' → J (pre ++ y1 ++ [y]) W' → Calls Tryz.prog 134 #[.pointer tr.pt, .agg #[.string lo, .string hi], .func (.yield l) #[] #[]] W' (Ran J Jx (pre ++ y1 ++ [y]) y3 W')) :
  Calls Tryz.prog 134 #[.pointer (some ⟨b, 0, none⟩), .agg #[.string lo, .string hi], .func (.yield l) #[] #[]] W (Ran J Jx pre (y1 ++ [y] ++ y3) W) := by
 obtain ⟨⟨-, ho⟩, h0, h1, h2, h3, h4, hl, hr⟩ := h; clear h0 h1 h2 h3 h4 hl hr; have bx := box_new W lo hi; have k1 : Kp W (W.alloc (.cells #[.string lo, .string hi] 25)) := Kp.of_below (Below.al (Below.refl _ _) _); have ho1 := k1.2 b _ _ _ (.inl rfl) ho; have hJ1 := H.later _ _ _ hJ (Below.al (Below.refl _ W) (.cells #[.string lo, .string hi] 25)); have FR : Hid (∀ W', W'.cell? ⟨b, 0, none⟩ = some (.string k) → Calls Tryz.prog 182 #[.pointer (some ⟨b, 0, none⟩), .agg #[.string lo, .string hi]] W' fun e w' => e = .returned (.bool true) ∧ Below W'.heap.size W' w') := fun W' h => from_is hf h
 have UN : Hid (∀ W', W'.cell? ⟨b, 0, none⟩ = some (.string k) → Calls Tryz.prog 183 #[.pointer (some ⟨b, 0, none⟩), .agg #[.string lo, .string hi]] W' fun e w' => e = .returned (.bool true) ∧ Below W'.heap.size W' w') := fun W' h => under_is hu h
 have IL := hid il; have IR := hid ir; have HH := hid H; clear il ir H hf hu; obtain ⟨W0, hW0⟩ : ∃ W0, W0 = W.alloc (.cells #[.string lo, .string hi] 25) := ⟨_, rfl⟩; obtain ⟨B, hB⟩ : ∃ B, B = W.heap.size := ⟨_, rfl⟩; go_enter Tryz.func134, Tryz.ntmps134
 go_wp2_with fail
 rw [← hW0] at bx k1 ho1 hJ1 ⊢; rw [← hB] at bx ⊢; have c0 : W0.cell? ⟨B, 0, none⟩ = some (.string lo) := cell_of_obj bx rfl; have c1 : W0.cell? ⟨B, 1, none⟩ = some (.string hi) := cell_of_obj bx rfl; have n0 : W0.cell? ⟨b, 0, none⟩ = some (.string k) := cell_of_obj ho1 rfl; have n2 : W0.cell? ⟨b, 2, none⟩ = some (.pointer tl.pt) := cell_of_obj ho1 rfl; clear hW0 hB ho hJ; go_cut [21] (fun s21 wx => ∃ u1 : Bool, s21 = .bool (!u1) ∧ (u1 = true → J (pre ++ y1) wx ∧ Kp W0 wx) ∧ (u1 = false → ∃ q, q <+: y1 ∧ Jx (pre ++ q) wx))
 case first =>
  go_region_with (first
   | (go_at_call 182; refine (FR.out _ ?_).mono ?_; (simp [n0]); rintro e w1 ⟨rfl, hb1⟩; have c0' := cell_later hb1 c0; have c1' := cell_later hb1 c1; have n2' := cell_later hb1 n2)
   | (go_at_call 134; refine (IL.out _ (k1.trans (Kp.of_below (Below.on (Below.drew (Below.refl _ _)) hb1))) (HH.out.later _ _ _ hJ1 (Below.on (Below.drew (Below.refl _ _)) hb1))).mono ?_; rintro e w2 ⟨u1, rfl, t1, t2⟩))
  all_goals (try go_wp2_with fail)
  all_goals go_meet
  all_goals exact ⟨u1, rfl, fun hu => ⟨(t1 hu).1, (Kp.of_below (Below.on (Below.drew (Below.refl _ _)) hb1)).trans (t1 hu).2⟩, t2⟩
 case rest =>
  obtain ⟨u1, rfl, t1, t2⟩ := hcut; cases u1 with
  | false =>
   obtain ⟨q, hq, hx⟩ := t2 rfl; have HX := hid hx; have HQ := hid hq; clear t1 t2 hx hq; go_wp2_with fail
   go_ret
   exact ⟨false, rfl, fun e => (by cases e), fun _ => ⟨q, HQ.out.trans (by rw [List.append_assoc]; exact List.prefix_append _ _), HX.out⟩⟩
  | true =>
   obtain ⟨hJ2, k2⟩ := t1 rfl; clear t1 t2; have bx2 := box_kp k2 bx; have ho2 := k2.2 b _ _ _ (.inl rfl) ho1; have k02 := k1.trans k2; clear bx ho1 k1 k2 hJ1 c0 c1 n0 n2; have c0 : wc.cell? ⟨B, 0, none⟩ = some (.string lo) := cell_of_obj bx2 rfl; have c1 : wc.cell? ⟨B, 1, none⟩ = some (.string hi) := cell_of_obj bx2 rfl; have n0 : wc.cell? ⟨b, 0, none⟩ = some (.string k) := cell_of_obj ho2 rfl; have n1 : wc.cell? ⟨b, 1, none⟩ = some (.slice (some ⟨v.g, 0, none⟩) v.n v.cap) := cell_of_obj ho2 rfl; have UY : Hid (∀ W', Below wc.heap.size wc W' → Calls Tryz.prog 183 #[.pointer (some ⟨b, 0, none⟩), .agg #[.string lo, .string hi]] W' fun e w' => e = .returned (.bool true) ∧ w'.cell? ⟨b, 0, none⟩ = some (.string k) ∧ w'.cell? ⟨b, 1, none⟩ = some (.slice (some ⟨v.g, 0, none⟩) v.n v.cap) ∧ Hid (Kp wc w') ∧
     YieldAt Fence.wide (7 - 1) Tryz.prog l #[.string k, .slice (some ⟨v.g, 0, none⟩) v.n v.cap] w' fun e W' => ∃ u, e = .returned (.bool u) ∧ (u = true → J (pre ++ y1 ++ [y]) W' ∧ Kp w' W') ∧ (u = false → Jx (pre ++ y1 ++ [y]) W')) := fun W' hb =>
    (UN.out W' (cell_later hb n0)).mono fun e w' hw => ⟨hw.1, cell_later (Below.on hb hw.2) n0, cell_later (Below.on hb hw.2) n1, Kp.of_below (Below.on hb hw.2), by
     have := HH.out.round (7 - 1) (pre ++ y1) y w' (HH.out.later _ _ _ hJ2 (Below.on hb hw.2)) hN; rw [hy] at this; exact this⟩
   go_wp2_with fail
   go_cut [42] (fun s42 wx => ∃ u2 : Bool, s42 = .bool (!u2) ∧ (u2 = true → J (pre ++ y1 ++ [y]) wx ∧ Kp wc wx) ∧ (u2 = false → Jx (pre ++ y1 ++ [y]) wx))
   case first =>
    refine (wpIn_wide (n := 7)).1 ?_; refine wpIn_region_any (by kernel_rfl) ?_; change wpAnyIn _ _ _ _ _ _ 21 #[false, false, false, false, false, false, false, false, false, false, false, false, false, false, false, false, false, false, false, false, false] _ (World.drew _)
    refine wpAnyIn_take (i := 0) (v := ?_) rfl rfl (by kernel_rfl) (by kernel_rfl) (by kernel_rfl) (fun _ _ _ h => h) ⟨Or.inl ⟨by rfl, (by intro w; go_simp; try with_reducible rfl)⟩, fun _ => rfl⟩ ?_; simp only [Act.put, List.setIfInBounds_toArray, List.set_cons_zero, List.set_cons_succ, List.getElem_toArray, List.getElem_cons_zero]; refine wpAnyIn_ready (rs := [1]) (by kernel_rfl) (by simp) (AllReadyIn.cons rfl (fun K hK => ?_) AllReadyIn.nil); go_simp
    refine hK _ _ ?_; clear hK K; simp only [List.setIfInBounds_toArray, List.set_cons_zero, List.set_cons_succ]; refine wpAnyIn_ready (rs := [2]) (by kernel_rfl) (by simp) (AllReadyIn.cons rfl (fun K hK => ?_) AllReadyIn.nil); go_simp
    gi_wp2_with ((try refine ⟨trivial, ?_⟩); gi_at_call 182; refine (callsIn_wide.2 (FR.out _ ?_)).mono ?_; (simp [n0]); rintro e w1 ⟨rfl, hb1⟩; have c0' := cell_later hb1 c0; have c1' := cell_later hb1 c1)
    first | simp only [List.setIfInBounds_toArray, List.set_cons_zero, List.set_cons_succ] | (refine hK _ _ ?_; clear hK K; simp only [List.setIfInBounds_toArray, List.set_cons_zero, List.set_cons_succ])
    refine wpAnyIn_take (i := 3) (v := ?_) rfl rfl (by kernel_rfl) (by kernel_rfl) (by kernel_rfl) (fun _ _ _ h => h) ⟨Or.inl ⟨by rfl, (by intro w; go_simp; try with_reducible rfl)⟩, fun _ => rfl⟩ ?_; simp only [Act.put, List.setIfInBounds_toArray, List.set_cons_zero, List.set_cons_succ, List.getElem_toArray, List.getElem_cons_zero, List.getElem_cons_succ]; refine wpAnyIn_take (i := 4) (v := ?_) rfl rfl (by kernel_rfl) (by kernel_rfl) (by kernel_rfl) (fun _ _ _ h => h) ⟨Or.inl ⟨by rfl, (by intro w; go_simp; try with_reducible rfl)⟩, fun _ => rfl⟩ ?_; simp only [Act.put, List.setIfInBounds_toArray, List.set_cons_zero, List.set_cons_succ, List.getElem_toArray, List.getElem_cons_zero, List.getElem_cons_succ]; refine wpAnyIn_ready (rs := [5]) (by kernel_rfl) (by simp) (AllReadyIn.cons rfl (fun K hK => ?_) AllReadyIn.nil); go_simp
    refine hK _ _ ?_; clear hK K; simp only [List.setIfInBounds_toArray, List.set_cons_zero, List.set_cons_succ]; refine wpAnyIn_ready (rs := [6]) (by kernel_rfl) (by simp) (AllReadyIn.cons rfl (fun K hK => ?_) AllReadyIn.nil); go_simp
    gi_wp2_with ((try refine ⟨trivial, ?_⟩); gi_at_call 183; refine (callsIn_wide.2 (UY.out _ (Below.on (Below.drew (Below.refl _ _)) hb1))).mono ?_; rintro e w2 ⟨rfl, m0, m1, hk2, fn, tmps, assign, body, hyy, hR⟩)
    first | simp only [List.setIfInBounds_toArray, List.set_cons_zero, List.set_cons_succ] | (refine hK _ _ ?_; clear hK K; simp only [List.setIfInBounds_toArray, List.set_cons_zero, List.set_cons_succ])
    refine wpAnyIn_take (i := 7) (v := ?_) rfl rfl (by kernel_rfl) (by kernel_rfl) (by kernel_rfl) (fun _ _ _ h => h) ⟨Or.inl ⟨by rfl, (by intro w; go_simp; try with_reducible rfl)⟩, fun _ => rfl⟩ ?_; simp only [Act.put, List.setIfInBounds_toArray, List.set_cons_zero, List.set_cons_succ, List.getElem_toArray, List.getElem_cons_zero, List.getElem_cons_succ]; refine wpAnyIn_take (i := 8) (v := ?_) rfl rfl (by kernel_rfl) (by kernel_rfl) (by kernel_rfl) (fun _ _ _ h => h) ⟨Or.inl ⟨by rfl, (by intro w; go_simp; try with_reducible rfl)⟩, fun _ => rfl⟩ ?_; simp only [Act.put, List.setIfInBounds_toArray, List.set_cons_zero, List.set_cons_succ, List.getElem_toArray, List.getElem_cons_zero, List.getElem_cons_succ]
    refine wpAnyIn_take (i := 9) (v := ?_) rfl rfl (by kernel_rfl) (by kernel_rfl) (by kernel_rfl) (fun _ _ _ h => h) ⟨Or.inl ⟨by rfl, (by intro w; go_simp; try with_reducible rfl)⟩, fun _ => rfl⟩ ?_; simp only [Act.put, List.setIfInBounds_toArray, List.set_cons_zero, List.set_cons_succ, List.getElem_toArray, List.getElem_cons_zero, List.getElem_cons_succ]; refine wpAnyIn_take (i := 10) (v := ?_) rfl rfl (by kernel_rfl) (by kernel_rfl) (by kernel_rfl) (fun _ _ _ h => h) ⟨Or.inl ⟨by rfl, (by intro w; go_simp; try with_reducible rfl)⟩, fun _ => rfl⟩ ?_; simp only [Act.put, List.setIfInBounds_toArray, List.set_cons_zero, List.set_cons_succ, List.getElem_toArray, List.getElem_cons_zero, List.getElem_cons_succ]
    refine wpAnyIn_take (i := 11) (v := ?_) rfl rfl (by kernel_rfl) (by kernel_rfl) (by kernel_rfl) (fun _ _ _ h => h) ⟨Or.inl ⟨by rfl, (by intro w; go_simp; try with_reducible rfl)⟩, fun _ => rfl⟩ ?_; simp only [Act.put, List.setIfInBounds_toArray, List.set_cons_zero, List.set_cons_succ, List.getElem_toArray, List.getElem_cons_zero, List.getElem_cons_succ]; refine wpAnyIn_take (i := 12) (v := ?_) rfl rfl (by kernel_rfl) (by kernel_rfl) (by kernel_rfl) (fun _ _ _ h => h) ⟨Or.inl ⟨by rfl, (by intro w; go_simp; try with_reducible rfl)⟩, fun _ => rfl⟩ ?_; simp only [Act.put, List.setIfInBounds_toArray, List.set_cons_zero, List.set_cons_succ, List.getElem_toArray, List.getElem_cons_zero, List.getElem_cons_succ]
    refine wpAnyIn_take (i := 14) (v := ?_) rfl rfl (by kernel_rfl) (by kernel_rfl) (by kernel_rfl) (fun _ _ _ h => h) ⟨Or.inl ⟨by rfl, (by intro w; go_simp; try with_reducible rfl)⟩, fun _ => rfl⟩ ?_; simp only [Act.put, List.setIfInBounds_toArray, List.set_cons_zero, List.set_cons_succ, List.getElem_toArray, List.getElem_cons_zero, List.getElem_cons_succ]; refine wpAnyIn_take (i := 15) (v := ?_) rfl rfl (by kernel_rfl) (by kernel_rfl) (by kernel_rfl) (fun _ _ _ h => h) ⟨Or.inl ⟨by rfl, (by intro w; go_simp; try with_reducible rfl)⟩, fun _ => rfl⟩ ?_; simp only [Act.put, List.setIfInBounds_toArray, List.set_cons_zero, List.set_cons_succ, List.getElem_toArray, List.getElem_cons_zero, List.getElem_cons_succ]
    refine wpAnyIn_take (i := 16) (v := ?_) rfl rfl (by kernel_rfl) (by kernel_rfl) (by kernel_rfl) (fun _ _ _ h => h) ⟨Or.inl ⟨by rfl, (by intro w; go_simp; try with_reducible rfl)⟩, fun _ => rfl⟩ ?_; simp only [Act.put, List.setIfInBounds_toArray, List.set_cons_zero, List.set_cons_succ, List.getElem_toArray, List.getElem_cons_zero, List.getElem_cons_succ]; refine wpAnyIn_ready (rs := [13, 17]) (by kernel_rfl) (by simp) (AllReadyIn.cons rfl (fun K hK => ?_) (AllReadyIn.cons rfl (fun K hK => ?_) AllReadyIn.nil))
    ·go_simp
     refine hK _ _ ?_; clear hK K; simp only [List.setIfInBounds_toArray, List.set_cons_zero, List.set_cons_succ]; refine wpAnyIn_ready (rs := [17]) (by kernel_rfl) (by simp) (AllReadyIn.cons rfl (fun K hK => ?_) AllReadyIn.nil); go_simp
     refine hK _ _ ?_; clear hK K; simp only [List.setIfInBounds_toArray, List.set_cons_zero, List.set_cons_succ]; refine wpAnyIn_ready (rs := [18]) (by kernel_rfl) (by simp) (AllReadyIn.cons rfl (fun K hK => ?_) AllReadyIn.nil); go_simp
     refine hR.mono ?_; clear hR; rintro e w3 ⟨u2, rfl, s1, s2⟩; refine hK _ _ ?_; clear hK K; simp only [List.setIfInBounds_toArray, List.set_cons_zero, List.set_cons_succ]; refine wpAnyIn_take (i := 19) (v := ?_) rfl rfl (by kernel_rfl) (by kernel_rfl) (by kernel_rfl) (fun _ _ _ h => h) ⟨Or.inl ⟨by rfl, (by intro w; go_simp; try with_reducible rfl)⟩, fun _ => rfl⟩ ?_; simp only [Act.put, List.setIfInBounds_toArray, List.set_cons_zero, List.set_cons_succ, List.getElem_toArray, List.getElem_cons_zero, List.getElem_cons_succ]; refine wpAnyIn_take (i := 20) (v := ?_) rfl rfl (by kernel_rfl) (by kernel_rfl) (by kernel_rfl) (fun _ _ _ h => h) ⟨Or.inl ⟨by rfl, (by intro w; go_simp; try with_reducible rfl)⟩, fun _ => rfl⟩ ?_; simp only [Act.put, List.setIfInBounds_toArray, List.set_cons_zero, List.set_cons_succ, List.getElem_toArray, List.getElem_cons_zero, List.getElem_cons_succ]
     refine wpAnyIn_done (by kernel_rfl) ?_ _; go_wp2_with fail
     go_meet
     exact ⟨u2, rfl, fun hu => ⟨(s1 hu).1, hk2.out.trans (s1 hu).2⟩, s2⟩
    ·go_simp
     refine hK _ _ ?_; clear hK K; simp only [List.setIfInBounds_toArray, List.set_cons_zero, List.set_cons_succ]; refine wpAnyIn_ready (rs := [13]) (by kernel_rfl) (by simp) (AllReadyIn.cons rfl (fun K hK => ?_) AllReadyIn.nil); go_simp
     refine hK _ _ ?_; clear hK K; simp only [List.setIfInBounds_toArray, List.set_cons_zero, List.set_cons_succ]; refine wpAnyIn_ready (rs := [18]) (by kernel_rfl) (by simp) (AllReadyIn.cons rfl (fun K hK => ?_) AllReadyIn.nil); go_simp
     refine hR.mono ?_; clear hR; rintro e w3 ⟨u2, rfl, s1, s2⟩; refine hK _ _ ?_; clear hK K; simp only [List.setIfInBounds_toArray, List.set_cons_zero, List.set_cons_succ]; refine wpAnyIn_take (i := 19) (v := ?_) rfl rfl (by kernel_rfl) (by kernel_rfl) (by kernel_rfl) (fun _ _ _ h => h) ⟨Or.inl ⟨by rfl, (by intro w; go_simp; try with_reducible rfl)⟩, fun _ => rfl⟩ ?_; simp only [Act.put, List.setIfInBounds_toArray, List.set_cons_zero, List.set_cons_succ, List.getElem_toArray, List.getElem_cons_zero, List.getElem_cons_succ]; refine wpAnyIn_take (i := 20) (v := ?_) rfl rfl (by kernel_rfl) (by kernel_rfl) (by kernel_rfl) (fun _ _ _ h => h) ⟨Or.inl ⟨by rfl, (by intro w; go_simp; try with_reducible rfl)⟩, fun _ => rfl⟩ ?_; simp only [Act.put, List.setIfInBounds_toArray, List.set_cons_zero, List.set_cons_succ, List.getElem_toArray, List.getElem_cons_zero, List.getElem_cons_succ]
     refine wpAnyIn_done (by kernel_rfl) ?_ _; go_wp2_with fail
     go_meet
     exact ⟨u2, rfl, fun hu => ⟨(s1 hu).1, hk2.out.trans (s1 hu).2⟩, s2⟩
   case rest =>
    obtain ⟨u2, rfl, s1, s2⟩ := hcut; cases u2 with
    | false =>
     have HX := hid (s2 rfl); clear s1 s2; go_wp2_with fail
     go_ret
     exact ⟨false, rfl, fun e => (by cases e), fun _ => ⟨y1 ++ [y], List.prefix_append _ _, by rw [← List.append_assoc]; exact HX.out⟩⟩
    | true =>
     obtain ⟨hJ3, k3⟩ := s1 rfl; clear s1 s2 UY c0 c1 n0 n1; have bx3 := box_kp k3 bx2; have ho3 := k3.2 b _ _ _ (.inl rfl) ho2; have k03 := k02.trans k3; clear bx2 ho2 k02 k3 hJ2; have d0 : wc.cell? ⟨B, 0, none⟩ = some (.string lo) := cell_of_obj bx3 rfl; have d1 : wc.cell? ⟨B, 1, none⟩ = some (.string hi) := cell_of_obj bx3 rfl; have e0 : wc.cell? ⟨b, 0, none⟩ = some (.string k) := cell_of_obj ho3 rfl; have e2 : wc.cell? ⟨b, 3, none⟩ = some (.pointer tr.pt) := cell_of_obj ho3 rfl; clear bx3 ho3; go_wp2_with fail
     go_region_with (first
      | (go_at_call 183; refine (UN.out _ ?_).mono ?_; (simp [e0]); rintro e w1 ⟨rfl, hb1⟩; have d0' := cell_later hb1 d0; have d1' := cell_later hb1 d1; have e2' := cell_later hb1 e2)
      | (go_at_call 134; refine (IR.out _ (k03.trans (Kp.of_below (Below.on (Below.drew (Below.refl _ _)) hb1))) (HH.out.later _ _ _ hJ3 (Below.on (Below.drew (Below.refl _ _)) hb1))).mono ?_; rintro e w2 ⟨u3, rfl, t1, t2⟩))
     all_goals (try go_wp2_with fail)
     all_goals go_ret
     all_goals exact ⟨u3, rfl, fun hu => ⟨by rw [List.append_assoc, List.append_assoc] at t1; simpa [List.append_assoc] using (t1 hu).1, (k03.trans (Kp.of_below (Below.on (Below.drew (Below.refl _ _)) hb1))).trans (t1 hu).2⟩, fun hu => by obtain ⟨q, hq, hx⟩ := t2 hu; exact ⟨y1 ++ [y] ++ q, (List.prefix_append_right_inj _).2 hq, by simpa [List.append_assoc] using hx⟩⟩
end Go.Proofs.YtneojeidpfjpbaaGreatDoor.Vs
