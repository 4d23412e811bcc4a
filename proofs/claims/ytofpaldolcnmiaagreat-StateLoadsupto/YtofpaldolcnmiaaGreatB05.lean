import Derived.Test.YtofpaldolcnmiaaGreatB04
set_option linter.unusedVariables false
namespace Go.Proofs.YtofpaldolcnmiaaGreat
namespace Lk
open Go.RowKit Go.Sort
open Go.ChangeMaps (setBlock heap_setBlock_same heap_setBlock_other)
abbrev ixv (i : Ix) : Value := .agg #[.int .u32 i.1, .int .u32 i.2]
def sameI (a b : Ix) : Bool := decide (a = b)
theorem sameI_eq (a b : Ix) : sameI a b = (a.1 == b.1 && a.2 == b.2) := by
 obtain ⟨a1, a2⟩ := a; obtain ⟨b1, b2⟩ := b; rw [Bool.eq_iff_iff]; simp [sameI]
theorem eq_u32 (d : Nat) (x y : Int) (w : World) : (Op.equalIn (d + 1) 22 (.int .u32 x) (.int .u32 y)).run Tryz.prog w = .ok (x == y) w := by
 unfold Op.equalIn; simp only [Sem.run_bind, run_underlying Tryz.underlying22, Result.andThen]; simp
theorem run_equal (a b : Ix) (w : World) : (Op.equal 33 (ixv a) (ixv b)).run Tryz.prog w = .ok (sameI a b) w := by
 rw [sameI_eq]; have hi : ∀ (x y : Int) (w : World), (Op.equalIn 9999 22 (.int .u32 x) (.int .u32 y)).run Tryz.prog w = .ok (x == y) w := fun x y w => eq_u32 9998 x y w
 show (Op.equalIn (9999 + 1) _ _ _).run _ _ = _
 rw [run_equalIn_struct w _ _ _ _ (by kernel_rfl) (by kernel_rfl)]; by_cases h1 : a.1 = b.1 <;> by_cases h2 : a.2 = b.2 <;> simp [h1, h2, hi, go_sem, Tryz.underlying33]
theorem run_eqI (a b : Ix) (w : World) : (binOp .eql 33 (ixv a) (ixv b)).run Tryz.prog w = .ok (.bool (sameI a b)) w := by
 rw [sameI_eq]; by_cases h1 : a.1 = b.1 <;> by_cases h2 : a.2 = b.2 <;> simp [h1, h2, go_sem, Tryz.underlying33]
theorem run_neI (a b : Ix) (w : World) : (binOp .neq 33 (ixv a) (ixv b)).run Tryz.prog w = .ok (.bool (!sameI a b)) w := by
 rw [sameI_eq]; by_cases h1 : a.1 = b.1 <;> by_cases h2 : a.2 = b.2 <;> simp [h1, h2, go_sem, Tryz.underlying33]
theorem ixv_inj (a b : Ix) (h : ixv a = ixv b) : a = b := by
 obtain ⟨a1, a2⟩ := a; obtain ⟨b1, b2⟩ := b; simp at h; rw [h.1, h.2]
theorem asking (a : Ix) (w : World) : ∀ (es : List MapEntry) (i : Nat), (∀ x ∈ es, ∃ b, True ∧ x.key = ixv b) →
  ((Instr.findAsking 33 (ixv a) es i).run Tryz.prog w = .ok none w ∧ ∀ x ∈ es, x.key ≠ ixv a) ∨ ∃ j x, (Instr.findAsking 33 (ixv a) es i).run Tryz.prog w = .ok (some (i + j, x.val)) w ∧ es[j]? = some x ∧ x.key = ixv a
 | [], i, _ => .inl ⟨by simp [Instr.findAsking], by simp⟩
 | y :: es, i, h => by
  obtain ⟨b, _, e⟩ := h y (by simp); by_cases hab : a = b
  ·subst hab; refine .inr ⟨0, y, ?_, rfl, e⟩; have := run_equal a a w; simp [Instr.findAsking, e, this, sameI, Result.andThen]
  ·have hf : sameI a b = false := by simp [sameI, hab]
   have hrun := run_equal a b w; rw [hf] at hrun; have hne : y.key ≠ ixv a := fun k => hab (ixv_inj _ _ (k.symm.trans e))
   have step : (Instr.findAsking 33 (ixv a) (y :: es) i).run Tryz.prog w = (Instr.findAsking 33 (ixv a) es (i + 1)).run Tryz.prog w := by
    simp [Instr.findAsking, e, hrun, Result.andThen]
   rw [step]; rcases asking a w es (i + 1) (fun x hx => h x (by simp [hx])) with ⟨h1, h2⟩ | ⟨j, x, h1, h2, h3⟩
   ·refine .inl ⟨h1, fun x hx => ?_⟩; rcases List.mem_cons.1 hx with rfl | hx
    ·exact hne
    ·exact h2 x hx
   ·exact .inr ⟨j + 1, x, by rw [h1, show i + 1 + j = i + (j + 1) by omega], by simpa using h2, h3⟩
set_option maxRecDepth 1000000 in
theorem check_ix (em : Bool) (a : Ix) (w : World) : (Instr.checkKey em 10000 33 (ixv a)).run Tryz.prog w = .ok () w := by kernel_rfl
theorem ids : KeyKind Tryz.prog 33 ixv (fun _ => True) where
 inj := ixv_inj
 check := fun w em a _ => check_ix em a w
 find := fun w a _ es hes => by
  have hw : (Instr.findKey 33 (ixv a) es).run Tryz.prog w = (Instr.findAsking 33 (ixv a) es).run Tryz.prog w := by
   cases es with
   | nil => simp [Instr.findKey, run_underlying Tryz.underlying33, Instr.findNow, Instr.findAsking, Result.andThen]
   | cons y es =>
    obtain ⟨b, _, e⟩ := hes y (by simp); simp [Instr.findKey, run_underlying Tryz.underlying33, Instr.findNow, Instr.sameNow, e, Result.andThen]
  rw [hw]; simpa using asking a w es 0 hes
 stays := fun w a _ => by simp [Instr.keyThatStays, Instr.sameBits]
theorem keysS : KeyKind Tryz.prog 9 Value.string (fun _ => True) := KeyKind.strings Tryz.underlying9
section
variable {α β : Type} {P : Program} {k e t : TypeId} {ev : α → Value} {fv : β → Value} {w w' : World} {m : Option Nat} {r : Nat} {ps todo : List (α × β)}
def MapO (ev : α → Value) (fv : β → Value) (w : World) (m : Option Nat) (ps : List (α × β)) : Prop :=
 match m with
 | none => ps = []
 | some b => MapAt ev (fun _ => True) fv w b ps
theorem MapO.at {b : Nat} (h : MapO ev fv w (some b) ps) : MapAt ev (fun _ => True) fv w b ps := h
theorem MapO.same (h : MapO ev fv w m ps) (hs : ∀ b, m = some b → w'.heap[b]? = w.heap[b]?) : MapO ev fv w' m ps := by
 cases m with
 | none => exact h
 | some b => exact MapAt.same h.at (hs b rfl)
theorem MapO.lt (h : MapO ev fv w m ps) : ∀ b, m = some b → b < w.heap.size := by
 rintro b rfl; exact MapAt.lt h.at
theorem MapO.later (h : MapO ev fv w m ps) (hb : Below w.heap.size w w') : MapO ev fv w' m ps := h.same fun b e => hb.block b (h.lt b e)
theorem MapO.nodup (h : MapO ev fv w m ps) (K : KeyKind P k ev (fun _ => True)) : (ps.map (·.1)).Nodup := by
 cases m with
 | none => rw [show ps = [] from h]; simp
 | some b => exact MapAt.nodup K h.at
theorem MapO.look (h : MapO ev fv w m ps) (K : KeyKind P k ev (fun _ => True)) (ht : P.underlying t = some (.map k e)) {z : Value} (hz : (zeroValue e).run P w = .ok z w) (a : α) :
  (a ∉ ps.map (·.1) ∧ ∀ c, (Instr.lookup t (.map m) (ev a) c).run P w = .ok (if c then .tuple #[z, .bool false] else z) w) ∨
  ∃ v, (a, v) ∈ ps ∧ ∀ c, (Instr.lookup t (.map m) (ev a) c).run P w = .ok (if c then .tuple #[fv v, .bool true] else fv v) w := by
 cases m with
 | some b => exact MapAt.look h.at K ht hz trivial
 | none =>
  rw [show ps = [] from h]; refine .inl ⟨by simp, fun c => ?_⟩; have hk : (Instr.findKey k (ev a) []).run P w = .ok none w := by
   rcases K.find w a trivial [] (by simp) with ⟨h1, _⟩ | ⟨j, x, _, h2, _⟩
   ·exact h1
   ·simp at h2
  simp [Instr.lookup, run_underlying ht, K.check w _ a trivial, hk, hz, Result.andThen]
theorem MapO.looks (h : MapO ev fv w m ps) (K : KeyKind P k ev (fun _ => True)) (ht : P.underlying t = some (.map k e)) {z : Value} (hz : ∀ W, (zeroValue e).run P W = .ok z W) (a : α) :
  (a ∉ ps.map (·.1) ∧ ∀ W, (∀ b, m = some b → W.heap[b]? = w.heap[b]?) → ∀ c, (Instr.lookup t (.map m) (ev a) c).run P W = .ok (if c then .tuple #[z, .bool false] else z) W) ∨
  ∃ v, (a, v) ∈ ps ∧ ∀ W, (∀ b, m = some b → W.heap[b]? = w.heap[b]?) → ∀ c, (Instr.lookup t (.map m) (ev a) c).run P W = .ok (if c then .tuple #[fv v, .bool true] else fv v) W := by
 have hnd := h.nodup K; rcases h.look K ht (hz w) a with ⟨h1, _⟩ | ⟨v, h1, _⟩
 ·refine .inl ⟨h1, fun W hW => ?_⟩; rcases (h.same hW).look K ht (hz W) a with ⟨_, h2⟩ | ⟨v, h2, _⟩
  ·exact h2
  ·exact absurd (List.mem_map.2 ⟨_, h2, rfl⟩) h1
 ·refine .inr ⟨v, h1, fun W hW => ?_⟩; rcases (h.same hW).look K ht (hz W) a with ⟨h2, _⟩ | ⟨v', h2, h3⟩
  ·exact absurd (List.mem_map.2 ⟨_, h1, rfl⟩) h2
  ·have := nodup_inj hnd h1 h2 rfl; injection this with _ e
   subst e; exact h3
theorem MapO.lookT (h : MapO ev fv w m ps) (K : KeyKind P k ev (fun _ => True)) (ht : P.underlying t = some (.map k e)) {z : β} (hz : ∀ W, (zeroValue e).run P W = .ok (fv z) W) (a : α) :
  ∃ v ok, (ok = true → (a, v) ∈ ps) ∧ (ok = false → a ∉ ps.map (·.1) ∧ v = z) ∧ ∀ W, (∀ b, m = some b → W.heap[b]? = w.heap[b]?) → (Instr.lookup t (.map m) (ev a) true).run P W = .ok (.tuple #[fv v, .bool ok]) W := by
 rcases h.looks K ht hz a with ⟨h1, h2⟩ | ⟨v, h1, h2⟩
 ·exact ⟨z, false, by simp, fun _ => ⟨h1, rfl⟩, fun W hW => h2 W hW true⟩
 ·exact ⟨v, true, fun _ => h1, by simp, fun W hW => h2 W hW true⟩
theorem MapO.put [DecidableEq α] {b : Nat} (h : MapO ev fv w (some b) ps) (K : KeyKind P k ev (fun _ => True)) (ht : P.underlying t = some (.map k e)) (a : α) (v : β) :
  ∃ w', (Instr.mapUpdate t (.map (some b)) (ev a) (fv v)).run P w = .ok () w' ∧ MapO ev fv w' (some b) (putA ps a v) ∧ Onl (fun c => b = c) w w' ∧ w'.heap.size = w.heap.size := by
 obtain ⟨es, clock, hbk, _⟩ := h.at; obtain ⟨o, h1, h2⟩ := MapAt.put h.at K ht trivial v; exact ⟨_, h1, h2, ⟨rfl, rfl, rfl, by simp [setBlock], fun i _ hne => heap_setBlock_other hbk _ (fun e => hne (by rw [e]))⟩, by simp [setBlock]⟩
def RngO (ev : α → Value) (fv : β → Value) (w : World) (m : Option Nat) (r : Nat) (ps todo : List (α × β)) : Prop :=
 match m with
 | none => ps = [] ∧ todo = [] ∧ w.heap[r]? = some (.mapIter none 0 #[] 0)
 | some b => Rng ev (fun _ => True) fv w b r ps todo
theorem RngO.at {b : Nat} (h : RngO ev fv w (some b) r ps todo) : Rng ev (fun _ => True) fv w b r ps todo := h
theorem RngO.same (h : RngO ev fv w m r ps todo) (hs : ∀ b, m = some b → w'.heap[b]? = w.heap[b]?) (hr : w'.heap[r]? = w.heap[r]?) : RngO ev fv w' m r ps todo := by
 cases m with
 | none => exact ⟨h.1, h.2.1, hr.trans h.2.2⟩
 | some b => exact Rng.same h.at (hs b rfl) hr
theorem RngO.lt (h : RngO ev fv w m r ps todo) : r < w.heap.size ∧ ∀ b, m = some b → b < w.heap.size := by
 cases m with
 | none => exact ⟨(Array.getElem?_eq_some_iff.1 h.2.2).1, by simp⟩
 | some b => exact ⟨Rng.lt h.at, by rintro b' e; injection e with e; subst e; exact MapAt.lt (Rng.map h.at)⟩
theorem RngO.later (h : RngO ev fv w m r ps todo) (hb : Below w.heap.size w w') : RngO ev fv w' m r ps todo := h.same (fun b e => hb.block b (h.lt.2 b e)) (hb.block r h.lt.1)
theorem MapO.range (h : MapO ev fv w m ps) (ht : P.underlying t = some (.map k e)) :
  ∃ o, (Instr.range t (.map m)).run P w = .ok (.pointer (some ⟨w.heap.size, 0, none⟩)) (w.alloc o) ∧ RngO ev fv (w.alloc o) m w.heap.size ps ps := by
 cases m with
 | some b => exact MapAt.range h.at ht
 | none =>
  refine ⟨.mapIter none 0 #[] 0, ?_, h, h, (MapKept.heap_alloc w _).1⟩; simp [Instr.range, run_underlying ht, Result.andThen]
theorem RngO.next (P : Program) (h : RngO ev fv w m r ps todo) :
  (todo = [] ∧ ∀ ty, (Instr.next (.pointer (some ⟨r, 0, none⟩)) false ty).run P w = .ok (.tuple #[.bool false]) w) ∨
  ∃ p todo' w', todo.Perm (p :: todo') ∧ p ∈ ps ∧ (∀ ty, (Instr.next (.pointer (some ⟨r, 0, none⟩)) false ty).run P w = .ok (.tuple #[.bool true, ev p.1, fv p.2]) w') ∧
   RngO ev fv w' m r ps todo' ∧ (Instr.entry (.pointer (some ⟨r, 0, none⟩))).run P w' = .ok (.tuple #[ev p.1, fv p.2]) w' ∧ Onl (fun b => b = r) w w' ∧ w'.heap.size = w.heap.size := by
 cases m with
 | none =>
  refine .inl ⟨h.2.1, fun ty => ?_⟩; simp [Instr.next, getObj, Sem.run, h.2.2, Result.andThen]
 | some b =>
  have hlt := Rng.lt h.at; rcases Rng.next (P := P) h.at 0 with ⟨h1, h2⟩ | ⟨p, todo', w1, o, h1, h2, _, h3, h4, h5, h6, h7⟩
  ·exact .inl ⟨h1, fun ty => h2⟩
  ·refine .inr ⟨p, todo', _, h1, h2, fun ty => h4, h5, h6, ?_, ?_⟩
   ·have e0 : w1.heap = w.heap := by rcases h3 with rfl | rfl <;> rfl
    have hr1 : w1.heap[r]? = some w.heap[r] := by rw [e0]; exact Array.getElem?_eq_getElem hlt
    refine ⟨by rcases h3 with rfl | rfl <;> rfl, by rcases h3 with rfl | rfl <;> rfl, by rcases h3 with rfl | rfl <;> rfl, by simp [setBlock, e0], fun i _ hne => ?_⟩; simp only [setBlock, e0]; rw [Array.getElem?_setIfInBounds_ne (Ne.symm hne)]
   ·have e0 : w1.heap = w.heap := by rcases h3 with rfl | rfl <;> rfl
    simp [setBlock, e0]
end
end Lk
namespace Lg
open Go.RowKit Go.Sort Lk
structure En where
 id : Ix
 home : Int
 oc : Int
 w : Int
 l : Int
 n : Int
abbrev En.val (e : En) : Value := .agg #[.int .u32 e.id.1, .int .u32 e.id.2, .int .u32 e.home, .int .i64 e.oc, .int .u64 e.w, .int .u32 e.l, .int .u32 e.n]
abbrev ecs (e : En) : List Value := [.int .u32 e.id.1, .int .u32 e.id.2, .int .u32 e.home, .int .i64 e.oc, .int .u64 e.w, .int .u32 e.l, .int .u32 e.n]
abbrev En.zero : En := ⟨(0, 0), 0, 0, 0, 0, 0⟩
def mayB (e : En) : Bool := e.oc == 1 || (e.oc == 2 && sameB e.w e.l e.n 0 0 0)
def agrB (a b : En) : Bool := a.oc == b.oc && sameB a.w a.l a.n b.w b.l b.n
theorem agrB_self (a : En) : agrB a a = true := by simp [agrB, sameB_self]
theorem run_eqS (a b c x y z : Int) (w : World) : (binOp .eql 36 (.agg #[.int .u64 a, .int .u32 b, .int .u32 c]) (.agg #[.int .u64 x, .int .u32 y, .int .u32 z])).run Tryz.prog w = .ok (.bool (sameB a b c x y z)) w := by
 by_cases h1 : a = x <;> by_cases h2 : b = y <;> by_cases h3 : c = z <;> simp [sameB, h1, h2, h3, go_sem, Tryz.underlying36]
def outM (M : List En) (t : Ix) : Option En := M.find? (fun e => sameI e.id t)
def decM (M : List En) (e : En) : List En := if mayB e then (match outM M e.id with | none => M ++ [e] | some _ => M) else M
def decE (M : List En) (e : En) : En := if mayB e then (outM M e.id).getD e else En.zero
def decX (M : List En) (e : En) : Int := if mayB e then (if agrB e ((outM M e.id).getD e) then 0 else 110) else 1
theorem sameI_iff {a b : Ix} : sameI a b = true ↔ a = b := by simp [sameI]
theorem outM_some {M : List En} {t : Ix} {f : En} (h : outM M t = some f) : f ∈ M ∧ f.id = t := by
 have h1 : sameI f.id t = true := List.find?_some (p := fun e : En => sameI e.id t) h; exact ⟨List.mem_of_find?_eq_some h, sameI_iff.1 h1⟩
theorem outM_none {M : List En} {t : Ix} : outM M t = none ↔ t ∉ M.map En.id := by
 rw [outM, List.find?_eq_none]; simp only [Bool.not_eq_true, List.mem_map, not_exists, not_and]; constructor
 ·intro h e he ht; have := h e he; rw [← Bool.not_eq_true, sameI_iff] at this; exact this ht
 ·intro h e he; rw [← Bool.not_eq_true, sameI_iff]; exact fun ht => h e he ht
theorem outM_mem {M : List En} (hn : (M.map En.id).Nodup) {f : En} (h : f ∈ M) : outM M f.id = some f := by
 cases ho : outM M f.id with
 | none => exact absurd (List.mem_map.2 ⟨f, h, rfl⟩) (outM_none.1 ho)
 | some g =>
  obtain ⟨h1, h2⟩ := outM_some ho; rw [nodup_inj hn h1 h h2]
end Lg
section
theorem snoc_ind {α : Type} {P : List α → Prop} (nil : P []) (snoc : ∀ l a, P l → P (l ++ [a])) (l : List α) : P l := by
 have h : ∀ r : List α, P r.reverse := fun r => by
  induction r with
  | nil => exact nil
  | cons a r ih => rw [List.reverse_cons]; exact snoc _ _ ih
 have := h l.reverse; rwa [List.reverse_reverse] at this
abbrev Key := List UInt8
theorem bless_irrefl : ∀ a : Key, Op.bytesLess a a = false
 | [] => rfl
 | a :: x => by
  have ih := bless_irrefl x; have h : ¬ a < a := by show ¬ a.toNat < a.toNat; omega
  rw [Op.bytesLess, ih]; simp [h]
theorem bless_trans : ∀ a b c : Key, Op.bytesLess a b = true → Op.bytesLess b c = true → Op.bytesLess a c = true
 | _, _, [], _, h => by rw [Op.bytesLess] at h; cases h
 | [], _, _ :: _, _, _ => rfl
 | _ :: _, [], _ :: _, h, _ => by rw [Op.bytesLess] at h; cases h
 | a :: x, b :: y, c :: z, h1, h2 => by
  rw [Op.bytesLess] at h1 h2 ⊢; simp only [Bool.or_eq_true, Bool.and_eq_true, decide_eq_true_eq, beq_iff_eq] at h1 h2 ⊢; rcases h1 with h1 | ⟨rfl, h1⟩
  ·rcases h2 with h2 | ⟨rfl, h2⟩
   ·left
    have e1 : a.toNat < b.toNat := h1; have e2 : b.toNat < c.toNat := h2; show a.toNat < c.toNat
    omega
   ·exact .inl h1
  ·rcases h2 with h2 | ⟨rfl, h2⟩
   ·exact .inl h2
   ·exact .inr ⟨rfl, bless_trans x y z h1 h2⟩
theorem bless_tri : ∀ a b : Key, a = b ∨ Op.bytesLess a b = true ∨ Op.bytesLess b a = true
 | [], [] => .inl rfl
 | [], _ :: _ => .inr (.inl rfl)
 | _ :: _, [] => .inr (.inr rfl)
 | a :: x, b :: y => by
  rw [Op.bytesLess, Op.bytesLess]; simp only [Bool.or_eq_true, Bool.and_eq_true, decide_eq_true_eq, beq_iff_eq]; rcases Nat.lt_trichotomy a.toNat b.toNat with h | h | h
  ·exact .inr (.inl (.inl h))
  ·obtain rfl : a = b := UInt8.toNat.inj h; rcases bless_tri x y with h | h | h
   ·exact .inl (by rw [h])
   ·exact .inr (.inl (.inr ⟨rfl, h⟩))
   ·exact .inr (.inr (.inr ⟨rfl, h⟩))
  ·exact .inr (.inr (.inl h))
def lt (a b : ByteArray) : Bool := Op.bytesLess a.toList b.toList
theorem bytes_inj {a b : ByteArray} (h : a.toList = b.toList) : a = b := by
 rw [ByteArray.toList_eq, ByteArray.toList_eq] at h; exact ByteArray.ext (Array.toList_inj.1 h)
theorem lt_irrefl (a : ByteArray) : lt a a = false := bless_irrefl _
theorem lt_trans {a b c : ByteArray} (h1 : lt a b = true) (h2 : lt b c = true) : lt a c = true := bless_trans _ _ _ h1 h2
theorem lt_tri (a b : ByteArray) : a = b ∨ lt a b = true ∨ lt b a = true := (bless_tri a.toList b.toList).imp bytes_inj id
theorem lt_ne {a b : ByteArray} (h : lt a b = true) : a ≠ b := fun e => by subst e; rw [lt_irrefl] at h; cases h
theorem lt_asymm {a b : ByteArray} (h : lt a b = true) : lt b a = false := by
 cases hb : lt b a with
 | false => rfl
 | true => exact absurd (lt_trans h hb) (by rw [lt_irrefl]; decide)
def inS (lo hi k : ByteArray) : Bool := !lt k lo && (hi.toList.isEmpty || lt k hi)
end
end Go.Proofs.YtofpaldolcnmiaaGreat
