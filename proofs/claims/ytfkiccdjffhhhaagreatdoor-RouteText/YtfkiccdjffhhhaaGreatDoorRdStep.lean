import Derived.Test.YtfkiccdjffhhhaaGreatDoorRdTake
import Derived.Test.YtfkiccdjffhhhaaGreatDoorRdSplit
import Derived.Test.YtfkiccdjffhhhaaGreatDoorRdLine
import Derived.Test.YtfkiccdjffhhhaaGreatDoorRdReason
import Derived.WalkSmall
/- A draft while the lines are taken; one line, taken. -/
namespace Go.Proofs.YtfkiccdjffhhhaaGreatDoor.Rt
open Go.RowKit Go.Sort
set_option linter.unusedVariables false

/-- what the program asks of the variables -/
structure Gl (w : World) (a b : Addr) : Prop where
  errs : Errs w a b
  max : ∃ m, w.cell? ⟨7, 0, none⟩ = some (.int .i64 m)
  rng : ∃ ty ad, w.cell? ⟨6, 0, none⟩ = some (.iface ty (.pointer ad))
theorem Gl.later {w w' : World} {a b : Addr} (h : Gl w a b) (hb : Below w.heap.size w w') : Gl w' a b := by
  obtain ⟨m, hm⟩ := h.max
  obtain ⟨ty, ad, hr⟩ := h.rng
  exact ⟨h.errs.later hb, ⟨m, cell_later hb hm⟩, ⟨ty, ad, cell_later hb hr⟩⟩
theorem Gl.rlt {w : World} {a b : Addr} (h : Gl w a b) : 6 < w.heap.size := by
  obtain ⟨ty, ad, hr⟩ := h.rng
  exact World.block_lt_of_cell? _ _ hr
/-- the draft at p; wg: a world ahead of it; wl: the world ahead of the lines -/
structure StD (wg wl w : World) (p : Nat) (d : Dr) (v : Value) : Prop where
  box : BoxD w p d v
  loose : ∀ o, w.frozen? ⟨p, o, none⟩ = false
  row : w.ownsRow wl.heap.size 9 1 v d.sp.length (d.sp.map fun s => .string (ofNats s))
  onl : Onl (fun k => k = p) wl w
  bel : Below wg.heap.size wg w
  num : ∀ k, (d.f k).getD 0 < 18446744073709551616
  lt : p < wl.heap.size
  gp : wg.heap.size ≤ p
section
variable {wg wl w : World} {p : Nat} {d : Dr} {v : Value}
theorem StD.ltw (h : StD wg wl w p d v) : p < w.heap.size := Nat.lt_of_lt_of_le h.lt h.onl.size
theorem StD.own (h : StD wg wl w p d v) : v.ownBlock ≠ some p := fun e => by
  have := (World.ownsRow.lt h.row p e).1
  have := h.lt
  omega
theorem StD.drew (h : StD wg wl w p d v) (n : Nat) : StD wg wl (w.drewN n) p d v :=
  ⟨⟨h.box.s0, h.box.v0, h.box.s1, h.box.v1, h.box.s2, h.box.v2, h.box.s3, h.box.v3, h.box.s4, h.box.v4, h.box.sp⟩, h.loose, owns_keep h.row fun g _ => rfl, ⟨h.onl.os, h.onl.tape, h.onl.output, h.onl.size, h.onl.block⟩, below_drewN h.bel n, h.num, h.lt, h.gp⟩
theorem StD.later (h : StD wg wl w p d v) {w' : World} (hb : Below w.heap.size w w') : StD wg wl w' p d v :=
  ⟨h.box.later hb, fun o => (hb.frozen (p := ⟨p, o, none⟩) h.ltw).trans (h.loose o), owns_keep h.row fun g hg => hb.block g (World.ownsRow.lt h.row g hg).2, h.onl.on hb, Below.on h.bel hb, h.num, h.lt, h.gp⟩
/-- a number said -/
theorem StD.put (h : StD wg wl w p d v) {k n : Nat} (hk : k < 5) (hn : n < 18446744073709551616) {w1 : World} (hb : Below w.heap.size (w.setCell ⟨p, 2 * k, none⟩ (.bool true)) w1) :
    StD wg wl (w1.setCell ⟨p, 2 * k + 1, none⟩ (.int .u64 (n : Nat))) p (d.put k n) v := by
  obtain ⟨wa, hwa⟩ : ∃ wa, wa = w.setCell ⟨p, 2 * k, none⟩ (.bool true) := ⟨_, rfl⟩
  obtain ⟨wz, hwz⟩ : ∃ wz, wz = w1.setCell ⟨p, 2 * k + 1, none⟩ (.int .u64 (n : Nat)) := ⟨_, rfl⟩
  have hsa : wa.heap.size = w.heap.size := by rw [hwa, World.size_setCell]
  rw [← hwa, ← hsa] at hb
  rw [← hwz]
  have key : ∀ (j : Nat) (x : Value), w.cell? ⟨p, j, none⟩ = some x → wz.cell? ⟨p, j, none⟩ = some (if j = 2 * k then .bool true else if j = 2 * k + 1 then .int .u64 (n : Nat) else x) := by
    intro j x hx
    by_cases h1 : j = 2 * k
    · subst h1
      rw [if_pos rfl, hwz, World.cell?_setCell_other (h := fun e => by have := congrArg Addr.off e; simp at this)]
      exact cell_later hb (by rw [hwa]; exact World.cell?_setCell_same _ _ _ hx)
    · rw [if_neg h1]
      have hx1 : w1.cell? ⟨p, j, none⟩ = some x := cell_later hb (by rw [hwa, World.cell?_setCell_other (h := fun e => h1 (congrArg Addr.off e).symm)]; exact hx)
      by_cases h2 : j = 2 * k + 1
      · subst h2
        rw [if_pos rfl, hwz]
        exact World.cell?_setCell_same _ _ _ hx1
      · rw [if_neg h2, hwz, World.cell?_setCell_other (h := fun e => h2 (congrArg Addr.off e).symm)]
        exact hx1
  have o1 : Onl (fun k => k = p) w wz := by
    rw [hwz]
    exact Onl.set (F := fun k => k = p) (Onl.on (F := fun k => k = p) (by rw [hwa]; exact Onl.set (F := fun k => k = p) (Onl.refl _ _) rfl _ _) hb) rfl _ _
  have hz : ∀ g, g ≠ p → g < w.heap.size → wz.heap[g]? = w.heap[g]? := fun g hg hl => o1.block g hl hg
  refine ⟨?_, fun o => ?_, owns_keep h.row fun g hg => hz g (fun e => h.own (e ▸ hg)) (World.ownsRow.lt h.row g hg).2, h.onl.trans o1, ?_, fun j => ?_, h.lt, h.gp⟩
  · match k, hk with
    | 0, _ => exact ⟨key 0 _ h.box.s0, key 1 _ h.box.v0, key 2 _ h.box.s1, key 3 _ h.box.v1, key 4 _ h.box.s2, key 5 _ h.box.v2, key 6 _ h.box.s3, key 7 _ h.box.v3, key 8 _ h.box.s4, key 9 _ h.box.v4, key 10 _ h.box.sp⟩
    | 1, _ => exact ⟨key 0 _ h.box.s0, key 1 _ h.box.v0, key 2 _ h.box.s1, key 3 _ h.box.v1, key 4 _ h.box.s2, key 5 _ h.box.v2, key 6 _ h.box.s3, key 7 _ h.box.v3, key 8 _ h.box.s4, key 9 _ h.box.v4, key 10 _ h.box.sp⟩
    | 2, _ => exact ⟨key 0 _ h.box.s0, key 1 _ h.box.v0, key 2 _ h.box.s1, key 3 _ h.box.v1, key 4 _ h.box.s2, key 5 _ h.box.v2, key 6 _ h.box.s3, key 7 _ h.box.v3, key 8 _ h.box.s4, key 9 _ h.box.v4, key 10 _ h.box.sp⟩
    | 3, _ => exact ⟨key 0 _ h.box.s0, key 1 _ h.box.v0, key 2 _ h.box.s1, key 3 _ h.box.v1, key 4 _ h.box.s2, key 5 _ h.box.v2, key 6 _ h.box.s3, key 7 _ h.box.v3, key 8 _ h.box.s4, key 9 _ h.box.v4, key 10 _ h.box.sp⟩
    | 4, _ => exact ⟨key 0 _ h.box.s0, key 1 _ h.box.v0, key 2 _ h.box.s1, key 3 _ h.box.v1, key 4 _ h.box.s2, key 5 _ h.box.v2, key 6 _ h.box.s3, key 7 _ h.box.v3, key 8 _ h.box.s4, key 9 _ h.box.v4, key 10 _ h.box.sp⟩
  · rw [hwz, World.frozen?_setCell, hb.frozen (p := ⟨p, o, none⟩) (by rw [hsa]; exact h.ltw), hwa, World.frozen?_setCell]
    exact h.loose o
  · exact h.bel.trans (o1.below (fun k hk => by rw [hk]; exact h.gp) h.bel.size)
  · show ((if j = k then some n else d.f j).getD 0) < _
    by_cases hj : j = k
    · rw [if_pos hj]; exact hn
    · rw [if_neg hj]; exact h.num j
/-- a split key said -/
theorem StD.add (h : StD wg wl w p d v) {s : List Nat} {v' : Value} {w1 : World} (hr : w1.ownsRow wl.heap.size 9 1 v' (d.sp.length + 1) (d.sp.map (fun s => .string (ofNats s)) ++ [.string (ofNats s)])) (hc : w1.cell? ⟨p, 10, none⟩ = some v) (ho : Onl (fun k => v.ownBlock = some k) w w1) :
    StD wg wl (w1.setCell ⟨p, 10, none⟩ v') p (d.add s) v' := by
  obtain ⟨wz, hwz⟩ : ∃ wz, wz = w1.setCell ⟨p, 10, none⟩ v' := ⟨_, rfl⟩
  rw [← hwz]
  have key : ∀ (j : Nat) (x : Value), j ≠ 10 → w.cell? ⟨p, j, none⟩ = some x → wz.cell? ⟨p, j, none⟩ = some x := by
    intro j x hj hx
    rw [hwz, World.cell?_setCell_other (h := fun e => hj (congrArg Addr.off e).symm)]
    exact ho.cell h.own hx
  have hlo : ∀ k, v.ownBlock = some k → wl.heap.size ≤ k := fun k hk => (World.ownsRow.lt h.row k hk).1
  have hp1 : p ≠ v'.ownBlock.getD (p + 1) := by
    intro e
    cases hb : v'.ownBlock with
    | none => rw [hb] at e; simp at e
    | some g =>
      rw [hb] at e
      have := (World.ownsRow.lt hr g hb).1
      have := h.lt
      simp at e
      omega
  have o1 : Onl (fun k => k = p) wl w1 := h.onl.fresh ho fun i hi => .inr (hlo i hi)
  refine ⟨⟨key 0 _ (by decide) h.box.s0, key 1 _ (by decide) h.box.v0, key 2 _ (by decide) h.box.s1, key 3 _ (by decide) h.box.v1, key 4 _ (by decide) h.box.s2, key 5 _ (by decide) h.box.v2, key 6 _ (by decide) h.box.s3, key 7 _ (by decide) h.box.v3, key 8 _ (by decide) h.box.s4, key 9 _ (by decide) h.box.v4, ?_⟩, fun o => ?_, ?_, ?_, ?_, h.num, h.lt, h.gp⟩
  · rw [hwz]; exact World.cell?_setCell_same _ _ _ hc
  · rw [hwz, World.frozen?_setCell]
    exact (ho.loose h.own h.ltw h.loose) o
  · have hl : (d.add s).sp.length = d.sp.length + 1 := by simp [Dr.add]
    have hm : ((d.add s).sp.map fun s => Value.string (ofNats s)) = d.sp.map (fun s => .string (ofNats s)) ++ [.string (ofNats s)] := by simp [Dr.add]
    rw [hl, hm]
    refine owns_keep hr fun g hg => ?_
    rw [hwz]
    exact Below.heap_setCell _ _ _ _ (by show g ≠ p; intro e; rw [hg, e] at hp1; exact hp1 rfl)
  · rw [hwz]; exact Onl.set (F := fun k => k = p) o1 rfl _ _
  · rw [hwz]
    refine Below.setCell (h.bel.trans (ho.below (fun k hk => ?_) h.bel.size)) (p := ⟨p, 10, none⟩) h.gp _
    have := hlo k hk
    have := h.lt
    have := h.gp
    omega
end
/-- lines that the statement's texts are made of -/
def Gd (l : List UInt8) : Prop := l = [] ∨ (∃ r, l = 35 :: r) ∨ (∃ k n, k < 5 ∧ n < 18446744073709551616 ∧ l = ln k (Lib.decDigits n)) ∨ ∃ t s, unword (t.map UInt8.toNat) = some s ∧ l = ln 5 t
/-- how a line fares -/
def rOf (a : Addr) (c : Nat) : Value := if c = 0 then .nilIface else errV a
theorem ba_eq {L t : ByteArray} (h : L.data.toList = t.data.toList) : L = t := by
  cases L; cases t; simp at h; rw [h]
theorem mk_data (l : List UInt8) : (⟨l.toArray⟩ : ByteArray).data.toList = l := by simp
theorem mk_size (l : List UInt8) : (⟨l.toArray⟩ : ByteArray).size = l.length := by rw [Lib.size_eq]
theorem take_num_is {wg wl w : World} {p k n : Nat} {d : Dr} {v : Value} {a b : Addr} {t : ByteArray} (hg : Gl wg a b) (h : StD wg wl w p d v) (hk : k < 5) (hn : n < 18446744073709551616) (ht : t.data.toList = Lib.decDigits n) (hs : t.size ≤ 1000) (m : Nat) :
    Calls Tryz.prog 54 #[.pointer (some ⟨p, 2 * k, none⟩), .string t] (w.drewN m) fun e w' => e = .returned (rOf a (if (d.f k).isSome then 1 else 0)) ∧ ∃ v', StD wg wl w' p (if (d.f k).isSome then d else d.put k n) v' := by
  have h' := h.drew m
  have c0 : (w.drewN m).cell? ⟨p, 2 * k, none⟩ = some (.bool (d.f k).isSome) := by
    match k, hk with
    | 0, _ => exact h'.box.s0
    | 1, _ => exact h'.box.s1
    | 2, _ => exact h'.box.s2
    | 3, _ => exact h'.box.s3
    | 4, _ => exact h'.box.s4
  have c1 : ∃ x, (w.drewN m).cell? ⟨p, 2 * k + 1, none⟩ = some x := by
    match k, hk with
    | 0, _ => exact ⟨_, h'.box.v0⟩
    | 1, _ => exact ⟨_, h'.box.v1⟩
    | 2, _ => exact ⟨_, h'.box.v2⟩
    | 3, _ => exact ⟨_, h'.box.v3⟩
    | 4, _ => exact ⟨_, h'.box.v4⟩
  obtain ⟨x, c1⟩ := c1
  cases hf : (d.f k).isSome with
  | true =>
    rw [hf] at c0
    refine (ftwice_is c0 (hg.later h'.bel).errs.form).mono ?_
    rintro e w' ⟨rfl, rfl⟩
    exact ⟨rfl, v, h'⟩
  | false =>
    rw [hf] at c0
    obtain ⟨ty, ad, hr⟩ := (hg.later h'.bel).rng
    refine (ftake_is hn ht hs hr (by have := hg.rlt; have := h.gp; omega) c0 c1 h'.loose h'.ltw).mono ?_
    rintro e w' ⟨rfl, w1, hb, rfl⟩
    exact ⟨rfl, v, h'.put hk hn hb⟩
theorem gd_01 {d : Dr} {l : List UInt8} (hG : Gd l) : (takeL d l).1 = 0 ∨ (takeL d l).1 = 1 := by
  rcases hG with rfl | ⟨r, rfl⟩ | ⟨k, n, hk, hn, rfl⟩ | ⟨t, s, hu, rfl⟩
  · rw [take_nil]; exact .inl rfl
  · rw [take_note]; exact .inl rfl
  · rw [take_num d hk (num_dec hn)]
    cases (d.f k).isSome
    · exact .inl rfl
    · exact .inr rfl
  · rw [take_split d hu]; exact .inl rfl
theorem gd_len {d : Dr} {l : List UInt8} (hG : Gd l) : (takeL d l).2.sp.length ≤ d.sp.length + 1 := by
  rcases hG with rfl | ⟨r, rfl⟩ | ⟨k, n, hk, hn, rfl⟩ | ⟨t, s, hu, rfl⟩
  · rw [take_nil]; exact Nat.le_succ _
  · rw [take_note]; exact Nat.le_succ _
  · rw [take_num d hk (num_dec hn)]
    cases (d.f k).isSome
    · exact Nat.le_succ _
    · exact Nat.le_succ _
  · rw [take_split d hu]; simp [Dr.add]
theorem take_is {wg wl w : World} {p : Nat} {d : Dr} {v : Value} {a b : Addr} {L : ByteArray} (hg : Gl wg a b) (h : StD wg wl w p d v) (hG : Gd L.data.toList) (hs : L.size ≤ 1000) (hn : d.sp.length ≤ 1000) :
    Calls Tryz.prog 37 #[.pointer (some ⟨p, 0, none⟩), .string L] w fun e w' => e = .returned (rOf a (takeL d L.data.toList).1) ∧ ∃ v', StD wg wl w' p (takeL d L.data.toList).2 v' := by
  obtain ⟨m, hm⟩ := (hg.later h.bel).max
  rcases hG with hL | ⟨r, hL⟩ | ⟨k, n, hk, hn', hL⟩ | ⟨t, s, hu, hL⟩
  · have e0 : L = ⟨#[]⟩ := ba_eq (by rw [hL])
    subst e0
    refine (takeE_is (p := p) (w := w)).mono ?_
    rintro e w' ⟨rfl, rfl⟩
    rw [show (⟨#[]⟩ : ByteArray).data.toList = [] from rfl, take_nil]
    exact ⟨rfl, v, h⟩
  · refine (takeH_is (p := p) (w := w) hL).mono ?_
    rintro e w' ⟨rfl, rfl⟩
    rw [hL, take_note]
    exact ⟨rfl, v, h⟩
  · have hT := take_num d hk (num_dec hn')
    obtain ⟨t, ht⟩ : ∃ t : ByteArray, t = ⟨(Lib.decDigits n).toArray⟩ := ⟨_, rfl⟩
    have htd : t.data.toList = Lib.decDigits n := by rw [ht]
    have hts : t.size ≤ 1000 := by
      have : L.size = (ln k (Lib.decDigits n)).length := by rw [Lib.size_eq, hL]
      have h2 : (ln k (Lib.decDigits n)).length = (nm k).length + 1 + (Lib.decDigits n).length := by unfold ln; simp; omega
      have h3 : t.size = (Lib.decDigits n).length := by rw [Lib.size_eq, htd]
      omega
    have hL' : L.data.toList = ln k t.data.toList := by rw [hL, htd]
    have FT := fun q => take_num_is hg h hk hn' htd hts q
    rw [hL, hT]
    have e1 : ∀ {c : Bool} {x y : Dr}, (if c = true then (1, x) else (0, y) : Nat × Dr).1 = if c then 1 else 0 := fun {c x y} => by cases c <;> rfl
    have e2 : ∀ {c : Bool} {x y : Dr}, (if c = true then (1, x) else (0, y) : Nat × Dr).2 = if c then x else y := fun {c x y} => by cases c <;> rfl
    rw [e1, e2]
    match k, hk, hL', FT with
    | 0, _, hL', FT => exact take0_is hL' hs hm FT
    | 1, _, hL', FT => exact take1_is hL' hs hm FT
    | 2, _, hL', FT => exact take2_is hL' hs hm FT
    | 3, _, hL', FT => exact take3_is hL' hs hm FT
    | 4, _, hL', FT => exact take4_is hL' hs hm FT
  · rw [hL, take_split d hu]
    obtain ⟨T, hT⟩ : ∃ T : ByteArray, T = ⟨t.toArray⟩ := ⟨_, rfl⟩
    have hTd : T.data.toList = t := by rw [hT]
    have hTs : T.size ≤ 1000 := by
      have : L.size = (ln 5 t).length := by rw [Lib.size_eq, hL]
      have h2 : (ln 5 t).length = (nm 5).length + 1 + t.length := by unfold ln; simp; omega
      have h3 : T.size = t.length := by rw [Lib.size_eq, hTd]
      omega
    have hL' : L.data.toList = ln 5 T.data.toList := by rw [hL, hTd]
    refine take5_is hL' hs hm fun q => ?_
    have h' := h.drew q
    have hun : unA (nums T) = (s, 0) := by
      have : nums T = t.map UInt8.toNat := by unfold nums; rw [hTd]
      rw [this, unA, hu]
    have C := tsplit_is (w := w.drewN q) (p := p) (nums_b8 T) (by rw [nums_length]; exact hTs) hun h'.box.sp h'.loose h'.ltw h'.row h'.onl.size hn h'.own
    rw [ofNats_nums] at C
    refine C.mono ?_
    rintro e w' ⟨rfl, v', w1, hr, hc, ho, rfl⟩
    exact ⟨rfl, v', h'.add hr hc ho⟩
end Go.Proofs.YtfkiccdjffhhhaaGreatDoor.Rt
