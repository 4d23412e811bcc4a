import Derived.Test.YtneojeidpfjpbaaGreatDoorStateFreshC01
set_option linter.unusedVariables false
namespace Go.Proofs.YtneojeidpfjpbaaGreatDoor.Ig
open Go.RowKit Go.Sort Ys
def Ov (B : Nat) (w0 w : World) (T : TypeId) (k : Nat) (a : Option Addr) (m c : Nat) : Prop := (∃ xs, w.ownsRow B T k (.slice a m c) m xs) ∧ Onl (fun b => (Value.slice a m c).ownBlock = some b) w0 w
theorem Ov.start {B : Nat} {w : World} {T : TypeId} {k : Nat} {a : Option Addr} {m c : Nat} {xs : List Value} (h : w.ownsRow B T k (.slice a m c) m xs) : Ov B w w T k a m c := ⟨⟨xs, h⟩, Onl.refl _ _⟩
theorem Ov.at {B : Nat} {w0 w : World} {T : TypeId} {k : Nat} {a : Option Addr} {m c : Nat} (h : Ov B w0 w T k a m c) {q : Nat} (hq : q < m) (hk : 0 < k) : ∃ g, a = some ⟨g, 0, none⟩ ∧ (∀ o, o < k → ∃ u, w.cell? ⟨g, q * k + o, none⟩ = some u) ∧ ∀ o, w.frozen? ⟨g, o, none⟩ = false := by
 obtain ⟨⟨xs, h⟩, _⟩ := h; have hl : xs.length = m * k := h.1; obtain ⟨g, rfl, _, hc⟩ := Lk.own_cells h (by omega); refine ⟨g, rfl, fun o ho => ⟨_, hc _ _ (List.getElem?_eq_getElem ?_)⟩, Lk.own_loose h⟩; have := Nat.mul_le_mul_right k (show q + 1 ≤ m by omega); rw [Nat.add_mul, Nat.one_mul] at this; omega
theorem Ov.set {B : Nat} {w0 w : World} {T : TypeId} {k g m c : Nat} (h : Ov B w0 w T k (some ⟨g, 0, none⟩) m c) (o : Nat) (x : Value) : Ov B w0 (w.setCell ⟨g, o, none⟩ x) T k (some ⟨g, 0, none⟩) m c := by
 obtain ⟨⟨xs, h⟩, ho⟩ := h; have h1 := World.ownsRow.stored h o x; exact ⟨⟨_, h1.1⟩, ho.trans ((grown_onl h1.2).mono fun b hb => by simpa [Value.ownBlock] using hb)⟩
theorem Ov.later {B : Nat} {w0 w w' : World} {T : TypeId} {k : Nat} {a : Option Addr} {m c : Nat} (h : Ov B w0 w T k a m c) (hb : Below w.heap.size w w') : Ov B w0 w' T k a m c := by
 obtain ⟨⟨xs, h⟩, ho⟩ := h; exact ⟨⟨xs, owns_keep h fun g hg => hb.block g (World.ownsRow.lt h g hg).2⟩, ho.on hb⟩
structure Fo (B : Nat) (F : Nat → Prop) (w0 w : World) (ae : Option Addr) (ne ce : Nat) (av : Option Addr) (nv cv : Nat) (ap : Option Addr) (np cp : Nat) (ai : Option Addr) (ni ci : Nat) : Prop where
 e : ∃ xs, w.ownsRow B 91 7 (.slice ae ne ce) ne xs
 v : ∃ xs, w.ownsRow B 97 6 (.slice av nv cv) nv xs
 p : ∃ xs, w.ownsRow B 113 2 (.slice ap np cp) np xs
 i : ∃ xs, w.ownsRow B 38 2 (.slice ai ni ci) ni xs
 be : ∀ b, (Value.slice ae ne ce).ownBlock = some b → F b ∨ w0.heap.size ≤ b
 bv : ∀ b, (Value.slice av nv cv).ownBlock = some b → F b ∨ w0.heap.size ≤ b
 bp : ∀ b, (Value.slice ap np cp).ownBlock = some b → F b ∨ w0.heap.size ≤ b
 bi : ∀ b, (Value.slice ai ni ci).ownBlock = some b → F b ∨ w0.heap.size ≤ b
 on : Onl F w0 w
 le : B ≤ w.heap.size
section
variable {B : Nat} {F : Nat → Prop} {w0 w w' : World} {ae av ap ai : Option Addr} {ne ce nv cv np cp ni ci : Nat}
theorem Fo.later (h : Fo B F w0 w ae ne ce av nv cv ap np cp ai ni ci) (hb : Below w.heap.size w w') : Fo B F w0 w' ae ne ce av nv cv ap np cp ai ni ci := by
 obtain ⟨⟨xe, he⟩, ⟨xv, hv⟩, ⟨xp, hp⟩, ⟨xi, hi⟩, b1, b2, b3, b4, ho, hl⟩ := h; exact ⟨⟨xe, owns_keep he fun g hg => hb.block g (World.ownsRow.lt he g hg).2⟩, ⟨xv, owns_keep hv fun g hg => hb.block g (World.ownsRow.lt hv g hg).2⟩, ⟨xp, owns_keep hp fun g hg => hb.block g (World.ownsRow.lt hp g hg).2⟩, ⟨xi, owns_keep hi fun g hg => hb.block g (World.ownsRow.lt hi g hg).2⟩, b1, b2, b3, b4, ho.on hb, Nat.le_trans hl hb.size⟩
theorem Fo.moree (h : Fo B F w0 w ae ne ce av nv cv ap np cp ai ni ci) {a' : Option Addr} {c' : Nat} {ys : List Value} (hown : w'.ownsRow B 91 7 (.slice a' (ne + 1) c') (ne + 1) ys) (hg9 : w.grownBy w' (Value.slice ae ne ce).ownBlock) (hr : (Value.slice a' (ne + 1) c').ownBlock = (Value.slice ae ne ce).ownBlock ∨ ∃ z, (Value.slice a' (ne + 1) c').ownBlock = some z ∧ w.heap.size ≤ z) : Fo B F w0 w' a' (ne + 1) c' av nv cv ap np cp ai ni ci := by
 obtain ⟨⟨xe, he⟩, ⟨xv, hv⟩, ⟨xp, hp⟩, ⟨xi, hi⟩, be, bv, bp, bi, ho, hl⟩ := h; have hO := grown_onl hg9; have hnew : ∀ b, (Value.slice a' (ne + 1) c').ownBlock = some b → F b ∨ w0.heap.size ≤ b := fun b hb => by
  rcases hr with e | ⟨z, e, h1⟩
  ·exact be b (e.symm.trans hb)
  ·rw [e] at hb; injection hb with hb
   right; rw [← hb]; exact Nat.le_trans ho.size h1
 exact ⟨⟨_, hown⟩, ⟨xv, owns_keep hv fun g hg => hg9.block g (World.ownsRow.lt hv g hg).2 (fun e => Lk.own_apart hv he (by decide) hg e.symm)⟩, ⟨xp, owns_keep hp fun g hg => hg9.block g (World.ownsRow.lt hp g hg).2 (fun e => Lk.own_apart hp he (by decide) hg e.symm)⟩, ⟨xi, owns_keep hi fun g hg => hg9.block g (World.ownsRow.lt hi g hg).2 (fun e => Lk.own_apart hi he (by decide) hg e.symm)⟩, fun b hb => hnew b hb, bv, bp, bi, Onl.fresh ho hO be, Nat.le_trans hl hO.size⟩
theorem Fo.morev (h : Fo B F w0 w ae ne ce av nv cv ap np cp ai ni ci) {a' : Option Addr} {c' : Nat} {ys : List Value} (hown : w'.ownsRow B 97 6 (.slice a' (nv + 1) c') (nv + 1) ys) (hg9 : w.grownBy w' (Value.slice av nv cv).ownBlock) (hr : (Value.slice a' (nv + 1) c').ownBlock = (Value.slice av nv cv).ownBlock ∨ ∃ z, (Value.slice a' (nv + 1) c').ownBlock = some z ∧ w.heap.size ≤ z) : Fo B F w0 w' ae ne ce a' (nv + 1) c' ap np cp ai ni ci := by
 obtain ⟨⟨xe, he⟩, ⟨xv, hv⟩, ⟨xp, hp⟩, ⟨xi, hi⟩, be, bv, bp, bi, ho, hl⟩ := h; have hO := grown_onl hg9; have hnew : ∀ b, (Value.slice a' (nv + 1) c').ownBlock = some b → F b ∨ w0.heap.size ≤ b := fun b hb => by
  rcases hr with e | ⟨z, e, h1⟩
  ·exact bv b (e.symm.trans hb)
  ·rw [e] at hb; injection hb with hb
   right; rw [← hb]; exact Nat.le_trans ho.size h1
 exact ⟨⟨xe, owns_keep he fun g hg => hg9.block g (World.ownsRow.lt he g hg).2 (fun e => Lk.own_apart he hv (by decide) hg e.symm)⟩, ⟨_, hown⟩, ⟨xp, owns_keep hp fun g hg => hg9.block g (World.ownsRow.lt hp g hg).2 (fun e => Lk.own_apart hp hv (by decide) hg e.symm)⟩, ⟨xi, owns_keep hi fun g hg => hg9.block g (World.ownsRow.lt hi g hg).2 (fun e => Lk.own_apart hi hv (by decide) hg e.symm)⟩, be, fun b hb => hnew b hb, bp, bi, Onl.fresh ho hO bv, Nat.le_trans hl hO.size⟩
theorem Fo.morep (h : Fo B F w0 w ae ne ce av nv cv ap np cp ai ni ci) {a' : Option Addr} {c' : Nat} {ys : List Value} (hown : w'.ownsRow B 113 2 (.slice a' (np + 1) c') (np + 1) ys) (hg9 : w.grownBy w' (Value.slice ap np cp).ownBlock) (hr : (Value.slice a' (np + 1) c').ownBlock = (Value.slice ap np cp).ownBlock ∨ ∃ z, (Value.slice a' (np + 1) c').ownBlock = some z ∧ w.heap.size ≤ z) : Fo B F w0 w' ae ne ce av nv cv a' (np + 1) c' ai ni ci := by
 obtain ⟨⟨xe, he⟩, ⟨xv, hv⟩, ⟨xp, hp⟩, ⟨xi, hi⟩, be, bv, bp, bi, ho, hl⟩ := h; have hO := grown_onl hg9; have hnew : ∀ b, (Value.slice a' (np + 1) c').ownBlock = some b → F b ∨ w0.heap.size ≤ b := fun b hb => by
  rcases hr with e | ⟨z, e, h1⟩
  ·exact bp b (e.symm.trans hb)
  ·rw [e] at hb; injection hb with hb
   right; rw [← hb]; exact Nat.le_trans ho.size h1
 exact ⟨⟨xe, owns_keep he fun g hg => hg9.block g (World.ownsRow.lt he g hg).2 (fun e => Lk.own_apart he hp (by decide) hg e.symm)⟩, ⟨xv, owns_keep hv fun g hg => hg9.block g (World.ownsRow.lt hv g hg).2 (fun e => Lk.own_apart hv hp (by decide) hg e.symm)⟩, ⟨_, hown⟩, ⟨xi, owns_keep hi fun g hg => hg9.block g (World.ownsRow.lt hi g hg).2 (fun e => Lk.own_apart hi hp (by decide) hg e.symm)⟩, be, bv, fun b hb => hnew b hb, bi, Onl.fresh ho hO bp, Nat.le_trans hl hO.size⟩
theorem Fo.morei (h : Fo B F w0 w ae ne ce av nv cv ap np cp ai ni ci) {a' : Option Addr} {c' : Nat} {ys : List Value} (hown : w'.ownsRow B 38 2 (.slice a' (ni + 1) c') (ni + 1) ys) (hg9 : w.grownBy w' (Value.slice ai ni ci).ownBlock) (hr : (Value.slice a' (ni + 1) c').ownBlock = (Value.slice ai ni ci).ownBlock ∨ ∃ z, (Value.slice a' (ni + 1) c').ownBlock = some z ∧ w.heap.size ≤ z) : Fo B F w0 w' ae ne ce av nv cv ap np cp a' (ni + 1) c' := by
 obtain ⟨⟨xe, he⟩, ⟨xv, hv⟩, ⟨xp, hp⟩, ⟨xi, hi⟩, be, bv, bp, bi, ho, hl⟩ := h; have hO := grown_onl hg9; have hnew : ∀ b, (Value.slice a' (ni + 1) c').ownBlock = some b → F b ∨ w0.heap.size ≤ b := fun b hb => by
  rcases hr with e | ⟨z, e, h1⟩
  ·exact bi b (e.symm.trans hb)
  ·rw [e] at hb; injection hb with hb
   right; rw [← hb]; exact Nat.le_trans ho.size h1
 exact ⟨⟨xe, owns_keep he fun g hg => hg9.block g (World.ownsRow.lt he g hg).2 (fun e => Lk.own_apart he hi (by decide) hg e.symm)⟩, ⟨xv, owns_keep hv fun g hg => hg9.block g (World.ownsRow.lt hv g hg).2 (fun e => Lk.own_apart hv hi (by decide) hg e.symm)⟩, ⟨xp, owns_keep hp fun g hg => hg9.block g (World.ownsRow.lt hp g hg).2 (fun e => Lk.own_apart hp hi (by decide) hg e.symm)⟩, ⟨_, hown⟩, be, bv, bp, fun b hb => hnew b hb, Onl.fresh ho hO bi, Nat.le_trans hl hO.size⟩
end
theorem infoFe : (Tryz.prog.info? 91).map (fun i => (i.zero, i.size, i.bytes)) = some (some (.agg #[.int .u32 0, .int .u32 0, .int .u32 0, .int .i64 0, .int .u64 0, .int .u32 0, .int .u32 0]), 7, 40) := by kernel_rfl
theorem oneFe : ∀ u ∈ ([.int .u32 0, .int .u32 0, .int .u32 5, .int .i64 0, .int .u64 0, .int .u32 0, .int .u32 0] : List Value), u.oneCell' = true := by
 intro u hu; simp only [List.mem_cons, List.not_mem_nil, or_false] at hu; rcases hu with rfl | rfl | rfl | rfl | rfl | rfl | rfl <;> rfl
theorem step_Fe {w : World} {ops : Array Oper} {rest : List Oper} {o : Oper} {a : Act} {Q : Exit → Act → World → Prop} (hg : o.guard = none) (s x : Operand)
  (hop : o.op = Op.call { callee := Callee.builtin Builtin.append, args := #[s, x], argTypes := #[92, 92] }) {B m : Nat} {v : Value} {xs : List Value} (hs : a.eval s = v) (hown : w.ownsRow B 91 7 v m xs)
  (hx : a.eval x = .slice (some ⟨w.heap.size, 0, none⟩) 1 1) (hl : (m + 1) * 64 ≤ 140737488355328) (hB : B ≤ w.heap.size)
  (hK : ∀ v' w', w'.ownsRow B 91 7 v' (m + 1) (xs ++ [.int .u32 0, .int .u32 0, .int .u32 5, .int .i64 0, .int .u64 0, .int .u32 0, .int .u32 0]) → (w.alloc (.cells #[.int .u32 0, .int .u32 0, .int .u32 5, .int .i64 0, .int .u64 0, .int .u32 0, .int .u32 0] 91)).grownBy w' v.ownBlock → (v'.ownBlock = v.ownBlock ∨ ∃ z, v'.ownBlock = some z ∧ (w.alloc (.cells #[.int .u32 0, .int .u32 0, .int .u32 5, .int .i64 0, .int .u64 0, .int .u32 0, .int .u32 0] 91)).heap.size ≤ z) → wpList Tryz.prog ops Q rest (a.put o.dst v') w') : wpList Tryz.prog ops Q (o :: rest) a (w.alloc (.cells #[.int .u32 0, .int .u32 0, .int .u32 5, .int .i64 0, .int .u64 0, .int .u32 0, .int .u32 0] 91)) := by
 obtain ⟨i0, hi, hz0, hz1, hz2⟩ := Go.Proofs.YtneojeidpfjpbaaGreatDoor.info_of infoFe; have hb : Below w.heap.size w (w.alloc (.cells #[.int .u32 0, .int .u32 0, .int .u32 5, .int .i64 0, .int .u64 0, .int .u32 0, .int .u32 0] 91)) := Below.al (Below.refl _ _) _; have ho1 : (w.alloc (.cells #[.int .u32 0, .int .u32 0, .int .u32 5, .int .i64 0, .int .u64 0, .int .u32 0, .int .u32 0] 91)).ownsRow B 91 7 v m xs := owns_keep hown fun g hg => hb.block g (World.ownsRow.lt hown g hg).2
 exact wpList_append_keep _ hg s x 92 hop B 91 i0 (.agg #[.int .u32 0, .int .u32 0, .int .u32 0, .int .i64 0, .int .u64 0, .int .u32 0, .int .u32 0]) 7 40 Tryz.underlying92 hi hz0 hz1 hz2 rfl (by decide) v m xs hs ho1 ⟨w.heap.size, 0, none⟩ 1 1 [.int .u32 0, .int .u32 0, .int .u32 5, .int .i64 0, .int .u64 0, .int .u32 0, .int .u32 0] hx rfl (Lk.newC w [.int .u32 0, .int .u32 0, .int .u32 5, .int .i64 0, .int .u64 0, .int .u32 0, .int .u32 0] 91) oneFe (by unfold maxLen; omega) (by omega) (Nat.le_trans hB hb.size) (by decide) fun v' w' h1 h2 h3 h4 => hK v' w' h1 h2 h4
theorem infoFv : (Tryz.prog.info? 97).map (fun i => (i.zero, i.size, i.bytes)) = some (some (.agg #[.string ⟨#[]⟩, .int .u64 0, .int .u32 0, .int .u32 0, .bool false, .string ⟨#[]⟩]), 6, 56) := by kernel_rfl
theorem oneFv : ∀ u ∈ ([.string ⟨#[98, 101, 121, 111, 110, 100]⟩, .int .u64 0, .int .u32 0, .int .u32 0, .bool false, .string ⟨#[]⟩] : List Value), u.oneCell' = true := by
 intro u hu; simp only [List.mem_cons, List.not_mem_nil, or_false] at hu; rcases hu with rfl | rfl | rfl | rfl | rfl | rfl <;> rfl
theorem step_Fv {w : World} {ops : Array Oper} {rest : List Oper} {o : Oper} {a : Act} {Q : Exit → Act → World → Prop} (hg : o.guard = none) (s x : Operand)
  (hop : o.op = Op.call { callee := Callee.builtin Builtin.append, args := #[s, x], argTypes := #[98, 98] }) {B m : Nat} {v : Value} {xs : List Value} (hs : a.eval s = v) (hown : w.ownsRow B 97 6 v m xs)
  (hx : a.eval x = .slice (some ⟨w.heap.size, 0, none⟩) 1 1) (hl : (m + 1) * 64 ≤ 140737488355328) (hB : B ≤ w.heap.size)
  (hK : ∀ v' w', w'.ownsRow B 97 6 v' (m + 1) (xs ++ [.string ⟨#[98, 101, 121, 111, 110, 100]⟩, .int .u64 0, .int .u32 0, .int .u32 0, .bool false, .string ⟨#[]⟩]) → (w.alloc (.cells #[.string ⟨#[98, 101, 121, 111, 110, 100]⟩, .int .u64 0, .int .u32 0, .int .u32 0, .bool false, .string ⟨#[]⟩] 97)).grownBy w' v.ownBlock → (v'.ownBlock = v.ownBlock ∨ ∃ z, v'.ownBlock = some z ∧ (w.alloc (.cells #[.string ⟨#[98, 101, 121, 111, 110, 100]⟩, .int .u64 0, .int .u32 0, .int .u32 0, .bool false, .string ⟨#[]⟩] 97)).heap.size ≤ z) → wpList Tryz.prog ops Q rest (a.put o.dst v') w') : wpList Tryz.prog ops Q (o :: rest) a (w.alloc (.cells #[.string ⟨#[98, 101, 121, 111, 110, 100]⟩, .int .u64 0, .int .u32 0, .int .u32 0, .bool false, .string ⟨#[]⟩] 97)) := by
 obtain ⟨i0, hi, hz0, hz1, hz2⟩ := Go.Proofs.YtneojeidpfjpbaaGreatDoor.info_of infoFv; have hb : Below w.heap.size w (w.alloc (.cells #[.string ⟨#[98, 101, 121, 111, 110, 100]⟩, .int .u64 0, .int .u32 0, .int .u32 0, .bool false, .string ⟨#[]⟩] 97)) := Below.al (Below.refl _ _) _; have ho1 : (w.alloc (.cells #[.string ⟨#[98, 101, 121, 111, 110, 100]⟩, .int .u64 0, .int .u32 0, .int .u32 0, .bool false, .string ⟨#[]⟩] 97)).ownsRow B 97 6 v m xs := owns_keep hown fun g hg => hb.block g (World.ownsRow.lt hown g hg).2
 exact wpList_append_keep _ hg s x 98 hop B 97 i0 (.agg #[.string ⟨#[]⟩, .int .u64 0, .int .u32 0, .int .u32 0, .bool false, .string ⟨#[]⟩]) 6 56 Tryz.underlying98 hi hz0 hz1 hz2 rfl (by decide) v m xs hs ho1 ⟨w.heap.size, 0, none⟩ 1 1 [.string ⟨#[98, 101, 121, 111, 110, 100]⟩, .int .u64 0, .int .u32 0, .int .u32 0, .bool false, .string ⟨#[]⟩] hx rfl (Lk.newC w [.string ⟨#[98, 101, 121, 111, 110, 100]⟩, .int .u64 0, .int .u32 0, .int .u32 0, .bool false, .string ⟨#[]⟩] 97) oneFv (by unfold maxLen; omega) (by omega) (Nat.le_trans hB hb.size) (by decide) fun v' w' h1 h2 h3 h4 => hK v' w' h1 h2 h4
theorem infoFp : (Tryz.prog.info? 113).map (fun i => (i.zero, i.size, i.bytes)) = some (some (.agg #[.string ⟨#[]⟩, .string ⟨#[]⟩]), 2, 32) := by kernel_rfl
theorem oneFp : ∀ u ∈ ([.string ⟨#[98, 101, 121, 111, 110, 100]⟩, .string ⟨#[]⟩] : List Value), u.oneCell' = true := by
 intro u hu; simp only [List.mem_cons, List.not_mem_nil, or_false] at hu; rcases hu with rfl | rfl <;> rfl
theorem step_Fp {w : World} {ops : Array Oper} {rest : List Oper} {o : Oper} {a : Act} {Q : Exit → Act → World → Prop} (hg : o.guard = none) (s x : Operand)
  (hop : o.op = Op.call { callee := Callee.builtin Builtin.append, args := #[s, x], argTypes := #[109, 109] }) {B m : Nat} {v : Value} {xs : List Value} (hs : a.eval s = v) (hown : w.ownsRow B 113 2 v m xs)
  (hx : a.eval x = .slice (some ⟨w.heap.size, 0, none⟩) 1 1) (hl : (m + 1) * 64 ≤ 140737488355328) (hB : B ≤ w.heap.size)
  (hK : ∀ v' w', w'.ownsRow B 113 2 v' (m + 1) (xs ++ [.string ⟨#[98, 101, 121, 111, 110, 100]⟩, .string ⟨#[]⟩]) → (w.alloc (.cells #[.string ⟨#[98, 101, 121, 111, 110, 100]⟩, .string ⟨#[]⟩] 113)).grownBy w' v.ownBlock → (v'.ownBlock = v.ownBlock ∨ ∃ z, v'.ownBlock = some z ∧ (w.alloc (.cells #[.string ⟨#[98, 101, 121, 111, 110, 100]⟩, .string ⟨#[]⟩] 113)).heap.size ≤ z) → wpList Tryz.prog ops Q rest (a.put o.dst v') w') : wpList Tryz.prog ops Q (o :: rest) a (w.alloc (.cells #[.string ⟨#[98, 101, 121, 111, 110, 100]⟩, .string ⟨#[]⟩] 113)) := by
 obtain ⟨i0, hi, hz0, hz1, hz2⟩ := Go.Proofs.YtneojeidpfjpbaaGreatDoor.info_of infoFp; have hb : Below w.heap.size w (w.alloc (.cells #[.string ⟨#[98, 101, 121, 111, 110, 100]⟩, .string ⟨#[]⟩] 113)) := Below.al (Below.refl _ _) _; have ho1 : (w.alloc (.cells #[.string ⟨#[98, 101, 121, 111, 110, 100]⟩, .string ⟨#[]⟩] 113)).ownsRow B 113 2 v m xs := owns_keep hown fun g hg => hb.block g (World.ownsRow.lt hown g hg).2
 exact wpList_append_keep _ hg s x 109 hop B 113 i0 (.agg #[.string ⟨#[]⟩, .string ⟨#[]⟩]) 2 32 Tryz.underlying109 hi hz0 hz1 hz2 rfl (by decide) v m xs hs ho1 ⟨w.heap.size, 0, none⟩ 1 1 [.string ⟨#[98, 101, 121, 111, 110, 100]⟩, .string ⟨#[]⟩] hx rfl (Lk.newC w [.string ⟨#[98, 101, 121, 111, 110, 100]⟩, .string ⟨#[]⟩] 113) oneFp (by unfold maxLen; omega) (by omega) (Nat.le_trans hB hb.size) (by decide) fun v' w' h1 h2 h3 h4 => hK v' w' h1 h2 h4
theorem infoFi : (Tryz.prog.info? 38).map (fun i => (i.zero, i.size, i.bytes)) = some (some (.agg #[.int .u32 0, .int .u32 0]), 2, 8) := by kernel_rfl
theorem oneFi : ∀ u ∈ ([.int .u32 5, .int .u32 0] : List Value), u.oneCell' = true := by
 intro u hu; simp only [List.mem_cons, List.not_mem_nil, or_false] at hu; rcases hu with rfl | rfl <;> rfl
theorem step_Fi {w : World} {ops : Array Oper} {rest : List Oper} {o : Oper} {a : Act} {Q : Exit → Act → World → Prop} (hg : o.guard = none) (s x : Operand)
  (hop : o.op = Op.call { callee := Callee.builtin Builtin.append, args := #[s, x], argTypes := #[114, 114] }) {B m : Nat} {v : Value} {xs : List Value} (hs : a.eval s = v) (hown : w.ownsRow B 38 2 v m xs)
  (hx : a.eval x = .slice (some ⟨w.heap.size, 0, none⟩) 1 1) (hl : (m + 1) * 64 ≤ 140737488355328) (hB : B ≤ w.heap.size)
  (hK : ∀ v' w', w'.ownsRow B 38 2 v' (m + 1) (xs ++ [.int .u32 5, .int .u32 0]) → (w.alloc (.cells #[.int .u32 5, .int .u32 0] 38)).grownBy w' v.ownBlock → (v'.ownBlock = v.ownBlock ∨ ∃ z, v'.ownBlock = some z ∧ (w.alloc (.cells #[.int .u32 5, .int .u32 0] 38)).heap.size ≤ z) → wpList Tryz.prog ops Q rest (a.put o.dst v') w') : wpList Tryz.prog ops Q (o :: rest) a (w.alloc (.cells #[.int .u32 5, .int .u32 0] 38)) := by
 obtain ⟨i0, hi, hz0, hz1, hz2⟩ := Go.Proofs.YtneojeidpfjpbaaGreatDoor.info_of infoFi; have hb : Below w.heap.size w (w.alloc (.cells #[.int .u32 5, .int .u32 0] 38)) := Below.al (Below.refl _ _) _; have ho1 : (w.alloc (.cells #[.int .u32 5, .int .u32 0] 38)).ownsRow B 38 2 v m xs := owns_keep hown fun g hg => hb.block g (World.ownsRow.lt hown g hg).2
 exact wpList_append_keep _ hg s x 114 hop B 38 i0 (.agg #[.int .u32 0, .int .u32 0]) 2 8 Tryz.underlying114 hi hz0 hz1 hz2 rfl (by decide) v m xs hs ho1 ⟨w.heap.size, 0, none⟩ 1 1 [.int .u32 5, .int .u32 0] hx rfl (Lk.newC w [.int .u32 5, .int .u32 0] 38) oneFi (by unfold maxLen; omega) (by omega) (Nat.le_trans hB hb.size) (by decide) fun v' w' h1 h2 h3 h4 => hK v' w' h1 h2 h4
end Go.Proofs.YtneojeidpfjpbaaGreatDoor.Ig
