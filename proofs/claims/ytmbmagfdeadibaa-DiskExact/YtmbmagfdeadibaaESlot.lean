import Derived.Test.YtmbmagfdeadibaaEOwn
/- The calls of the program's slots. -/
namespace Go.Proofs.Ytmbmagfdeadibaa
open Go.RowKit Go.Sort Go.Lib
set_option linter.unusedVariables false

/-- a slot at p, o -/
structure SlAt (w : World) (p o : Nat) (v : Value) (s : Sl) : Prop where
  c0 : w.cell? ⟨p, o, none⟩ = some v
  c1 : w.cell? ⟨p, o + 1, none⟩ = some (.int .i64 (s.s : Int))
  row : BRow w v s.b
  loose : Loose w p
  np : v.ownBlock ≠ some p
  len : s.b.length ≤ 1048576
/-- behind a call of a slot -/
structure SlTo (w w' : World) (p o : Nat) (v v' : Value) (s' : Sl) : Prop where
  at' : SlAt w' p o v' s'
  onl : Onl (fun k => k = p ∨ v.ownBlock = some k) w w'
  rest : ∀ i, i ≠ o → i ≠ o + 1 → w'.cell? ⟨p, i, none⟩ = w.cell? ⟨p, i, none⟩
  new : ∀ g, v'.ownBlock = some g → v.ownBlock = some g ∨ w.heap.size ≤ g
theorem SlAt.lt {w : World} {p o : Nat} {v : Value} {s : Sl} (h : SlAt w p o v s) : p < w.heap.size := World.block_lt_of_cell? _ _ h.c0
theorem SlTo.trans {w w1 w2 : World} {p o : Nat} {v v1 v2 : Value} {s1 s2 : Sl} (h : SlTo w w1 p o v v1 s1) (k : SlTo w1 w2 p o v1 v2 s2) : SlTo w w2 p o v v2 s2 := by
  refine ⟨k.at', h.onl.fresh k.onl ?_, fun i h1 h2 => (k.rest i h1 h2).trans (h.rest i h1 h2), fun g hg => ?_⟩
  · rintro i (e | e)
    · exact .inl (.inl e)
    · exact (h.new i e).imp .inr id
  · rcases k.new g hg with e | e
    · exact h.new g e
    · exact .inr (Nat.le_trans h.onl.size e)
theorem SlAt.later {w w' : World} {p o : Nat} {v : Value} {s : Sl} (h : SlAt w p o v s) (hb : Below w.heap.size w w') : SlAt w' p o v s :=
  ⟨cell_later hb h.c0, cell_later hb h.c1, h.row.later hb, h.loose.later hb h.lt, h.np, h.len⟩
theorem SlTo.from {w w1 w' : World} {p o : Nat} {v v' : Value} {s' : Sl} (hp : p < w.heap.size) (hb : Below w.heap.size w w1) (h : SlTo w1 w' p o v v' s') : SlTo w w' p o v v' s' :=
  ⟨h.at', (Onl.of_below hb).trans h.onl, fun i h1 h2 => (h.rest i h1 h2).trans (World.cell?_of_block (a := ⟨p, i, none⟩) (hb.block p hp)), fun g hg => (h.new g hg).imp id (Nat.le_trans hb.size)⟩
/-- the slot's bytes are another row now -/
theorem SlAt.setRow {w w1 : World} {p o : Nat} {v v' : Value} {s s' : Sl} (h : SlAt w p o v s) (ho : Onl (fun k => v.ownBlock = some k) w w1) (hr : BRow w1 v' s'.b) (hn : ∀ g, v'.ownBlock = some g → v.ownBlock = some g ∨ w.heap.size ≤ g) (hs : s'.s = s.s) (hl : s'.b.length ≤ 1048576) :
    SlTo w (w1.setCell ⟨p, o, none⟩ v') p o v v' s' := by
  have lp := h.lt
  have hvp : v'.ownBlock ≠ some p := fun e => by
    rcases hn _ e with h1 | h1
    · exact h.np h1
    · omega
  have hs' : Onl (fun k => k = p) w1 (w1.setCell ⟨p, o, none⟩ v') := (Onl.refl (fun k => k = p) w1).set (p := p) rfl _ _
  refine ⟨⟨World.cell?_setCell_same _ _ _ (ho.cell h.np h.c0), cell_setc (by simp) (by rw [hs]; exact ho.cell h.np h.c1), hr.onl hs' (fun g hg e => hvp (e ▸ hg)), (ho.loose h.np lp h.loose).setc _ _, hvp, hl⟩, ?_, ?_, hn⟩
  · exact (ho.mono (fun k e => .inr e)).trans ((Onl.refl _ _).set (.inl rfl) _ _)
  · intro i h1 h2
    rw [World.cell?_setCell_other _ _ _ _ (by simp only [ne_eq, Addr.mk.injEq]; omega)]
    exact World.cell?_of_block (a := ⟨p, i, none⟩) (ho.block p lp h.np)
/-- how many are synced is another number now -/
theorem SlAt.setSync {w : World} {p o : Nat} {v : Value} {s : Sl} {n : Nat} (h : SlAt w p o v s) : SlTo w (w.setCell ⟨p, o + 1, none⟩ (.int .i64 (n : Int))) p o v v ⟨s.b, n⟩ := by
  have hs' : Onl (fun k => k = p) w (w.setCell ⟨p, o + 1, none⟩ (.int .i64 (n : Int))) := (Onl.refl (fun k => k = p) w).set (p := p) rfl _ _
  refine ⟨⟨cell_setc (by simp) h.c0, World.cell?_setCell_same _ _ _ h.c1, h.row.onl hs' (fun g hg e => h.np (e ▸ hg)), h.loose.setc _ _, h.np, h.len⟩, hs'.mono (fun k e => .inl e), ?_, fun g hg => .inl hg⟩
  intro i h1 h2
  rw [World.cell?_setCell_other _ _ _ _ (by simp only [ne_eq, Addr.mk.injEq]; omega)]

set_option maxHeartbeats 1000000 in
theorem slot_sync {w : World} {p o : Nat} {v : Value} {s : Sl} (h : SlAt w p o v s) :
    Calls Try.prog 28 #[.pointer (some ⟨p, o, none⟩)] w fun e w' => e = .returned (.tuple #[]) ∧ SlTo w w' p o v v s.sync := by
  obtain ⟨a, c, rfl, hc⟩ := h.row.slice
  have c0 := h.c0
  have c1 := h.c1
  have lo := h.loose (o + 1)
  have HT := hid (h.setSync (n := s.b.length))
  clear h
  go_enter Try.func28, Try.ntmps28
  go_wp2_with fail
  go_end0
  exact ⟨rfl, HT.out⟩

set_option maxHeartbeats 1000000 in
theorem slot_first {w : World} {p o n : Nat} {a : Option Addr} {m c : Nat} {s : Sl} (h : SlAt w p o (.slice a m c) s) (hn : n ≤ s.b.length) :
    Calls Try.prog 44 #[.pointer (some ⟨p, o, none⟩), .int .i64 (n : Int)] w fun e w' => e = .returned (.slice a n n) ∧ w' = w := by
  have c0 := h.c0
  have hc := (h.row.first hn).1
  clear h
  go_enter Try.func44, Try.ntmps44
  go_wp2_with fail
  go_ret
  exact ⟨rfl, rfl⟩

set_option maxHeartbeats 1000000 in
theorem slot_add {w : World} {p o : Nat} {v : Value} {s : Sl} {t : List Nat} (h : SlAt w p o v s) (ht : B8 t) (hl : s.b.length + t.length ≤ 1048576) :
    Calls Try.prog 27 #[.pointer (some ⟨p, o, none⟩), .string (ofNats t)] w fun e w' => e = .returned (.tuple #[]) ∧ ∃ v', SlTo w w' p o v v' (s.app t) := by
  have c0 := h.c0
  have lo := h.loose
  have H := hid h
  clear h
  go_enter Try.func27, Try.ntmps27
  go_wp2_with (first
    | (at_builtin; refine wpList_append_brow rfl _ _ rfl _ s.b t rfl rfl H.out.row ht hl ?_)
    | go_in)
  intro v' w1 hr hg hn
  have HT := hid (H.out.setRow (grown_onl hg) (s' := s.app t) hr hn rfl (by show (s.b ++ t).length ≤ _; rw [List.length_append]; omega))
  have lo1 := (grown_onl hg).loose (b := p) H.out.np H.out.lt lo o
  have c1 := (grown_onl hg).cell (b := p) H.out.np c0
  obtain ⟨a', c', rfl, _⟩ := hr.slice
  rw [List.length_append] at HT
  clear hr hg hn lo c0
  go_wp2_with fail
  go_end0
  exact ⟨rfl, _, HT.out⟩

set_option maxHeartbeats 1000000 in
theorem slot_cut {w : World} {p o n : Nat} {v : Value} {s : Sl} (h : SlAt w p o v s) (hn : n ≤ s.b.length) :
    Calls Try.prog 41 #[.pointer (some ⟨p, o, none⟩), .int .i64 (n : Int)] w fun e w' => e = .returned (.tuple #[]) ∧ ∃ v', SlTo w w' p o v v' (s.cut n) := by
  obtain ⟨a, c, rfl, hc⟩ := h.row.slice
  have c0 := h.c0
  have l0 := h.loose o
  have hlt : (s.b.take n).length = n := by rw [List.length_take]; omega
  have ht : SlTo w (w.setCell ⟨p, o, none⟩ (.slice a n n)) p o (.slice a s.b.length c) (.slice a n n) ⟨s.b.take n, s.s⟩ :=
    h.setRow (Onl.refl _ _) (s' := ⟨s.b.take n, s.s⟩) (h.row.first hn).2 (fun g hg => .inl (by cases a <;> exact hg)) rfl (by show (s.b.take n).length ≤ _; have := h.len; omega)
  have d1 := ht.at'.c1
  have l1 := ht.at'.loose (o + 1)
  have HT := hid (ht.trans (ht.at'.setSync (n := min s.s n)))
  have H := hid h
  have hmin : min (s.s : Int) (n : Int) = ((min s.s n : Nat) : Int) := by omega
  clear h ht
  go_enter Try.func41, Try.ntmps41
  go_wp2_with fail
  refine (slot_first H.out hn).mono ?_
  rintro e w1 ⟨rfl, rfl⟩
  go_wp2_with fail
  · go_end0
    refine ⟨rfl, .slice a n n, ?_⟩
    have e : min s.s n = n := by omega
    have := HT.out
    rw [e] at this
    show SlTo _ _ _ _ _ _ ⟨s.b.take n, min s.s n⟩
    rw [e]
    exact this
  · go_end0
    refine ⟨rfl, .slice a n n, ?_⟩
    have e : min s.s n = s.s := by omega
    have := HT.out
    rw [e] at this
    show SlTo _ _ _ _ _ _ ⟨s.b.take n, min s.s n⟩
    rw [e]
    exact this
theorem slot_cut_i {w : World} {p o n : Nat} {m : Int} {v : Value} {s : Sl} (h : SlAt w p o v s) (hm : m = (n : Int)) (hn : n ≤ s.b.length) :
    Calls Try.prog 41 #[.pointer (some ⟨p, o, none⟩), .int .i64 m] w fun e w' => e = .returned (.tuple #[]) ∧ ∃ v', SlTo w w' p o v v' (s.cut n) := by
  subst hm; exact slot_cut h hn

set_option maxHeartbeats 2000000 in
theorem slot_crash {w : World} {p o : Nat} {k : Int} {v : Value} {s : Sl} (h : SlAt w p o v s) (hle : s.s ≤ s.b.length) (hk : I64 k) :
    Calls Try.prog 29 #[.pointer (some ⟨p, o, none⟩), .int .i64 k] w fun e w' => e = .returned (.tuple #[]) ∧ ∃ v', SlTo w w' p o v v' (s.crash k) := by
  obtain ⟨a, c, rfl, hc⟩ := h.row.slice
  have c0 := h.c0
  have c1 := h.c1
  have hlen := h.len
  have hk0 := hk.1
  have hk1 := hk.2
  have hL : left s.b.length s.s k ≤ s.b.length := by unfold left; omega
  have H := hid h
  clear h
  have k0 := cell_regrown c0
  have k1 := cell_regrown c1
  go_enter Try.func29, Try.ntmps29
  go_wp2_with fail
  refine wp_region_quiet_below (by kernel_rfl) (by kernel_rfl) ?_
  repeat (go_big_quiet_step (fail))
  refine wpQuiet_nil ?_
  intro w0 hw0
  replace hw0 := below_of_regrown hw0
  have HA := hid (H.out.later hw0)
  have HB := hid hw0
  have d0 := HA.out.c0
  have d1 := HA.out.c1
  clear k0 k1 hw0 c0 c1
  go_wp2_with fail
  all_goals
    refine (slot_cut_i HA.out (n := left s.b.length s.s k) (by unfold left; go_num) hL).mono ?_
    rintro e w1 ⟨rfl, v1, h1⟩
    have H1 := hid h1
    clear h1
    go_wp2_with fail
    refine (slot_sync H1.out.at').mono ?_
    rintro e w2 ⟨rfl, h2⟩
    have H2 : Hid (SlTo w w2 p o (.slice a s.b.length c) v1 (s.crash k)) := by
      have h3 := (H1.out.trans h2).from H.out.lt HB.out
      have e : (s.cut (left s.b.length s.s k)).sync = s.crash k := by
        unfold Sl.cut Sl.sync Sl.crash
        congr 1
        show (s.b.take _).length = _
        rw [List.length_take]; omega
      rw [e] at h3
      exact h3
    clear h2
    go_wp2_with fail
    go_end0
    exact ⟨rfl, _, H2.out⟩

set_option maxHeartbeats 1000000 in
theorem slot_clone {w : World} {p o : Nat} {v : Value} {s : Sl} (h : SlAt w p o v s) :
    Calls Try.prog 30 #[.pointer (some ⟨p, o, none⟩)] w fun e w' => ∃ v', e = .returned (.agg #[v', .int .i64 (s.s : Int)]) ∧ BRow w' v' s.b ∧ (∀ g, v'.ownBlock = some g → w.heap.size ≤ g) ∧ Below w.heap.size w w' := by
  obtain ⟨w0, hw0⟩ : ∃ w0, w0 = w.alloc (.cells #[.slice none 0 0, .int .i64 0] 55) := ⟨_, rfl⟩
  have hb0 : Below w.heap.size w w0 := by rw [hw0]; exact Below.al (Below.refl _ _) _
  have hz0 : w0.cell? ⟨w.heap.size, 0, none⟩ = some (.slice none 0 0) := by rw [hw0]; simp [go_sem]
  have hz1 : w0.cell? ⟨w.heap.size, 1, none⟩ = some (.int .i64 0) := by rw [hw0]; simp [go_sem]
  have hzl : Loose w0 w.heap.size := by rw [hw0]; intro o; simp [go_sem]
  have c0 := cell_later hb0 h.c0
  have hl := h.len
  obtain ⟨wa, hwa⟩ : ∃ wa, wa = w0.alloc (.cells (madeCells (Value.int .u8 0).cells s.b.length) 5) := ⟨_, rfl⟩
  have hba : Below w0.heap.size w0 wa := by rw [hwa]; exact Below.al (Below.refl _ _) _
  obtain ⟨w2, hcp, hr2, hb2⟩ := (h.row.later hb0).copy h.len hwa
  have hmk := make_b w0 s.b.length (by omega)
  rw [← hwa] at hmk
  have k0 := cell_later hba c0
  have l1 := cell_later hb2 (cell_later hb0 h.c1)
  have z0 := cell_later hb2 hz0
  have z1 := cell_later hb2 hz1
  have zl := hzl.later hb2 (World.block_lt_of_cell? _ _ hz0)
  obtain ⟨a, c, rfl, hc⟩ := h.row.slice
  obtain ⟨q, hq⟩ : ∃ q, q = w0.heap.size := ⟨_, rfl⟩
  have hqq : w.heap.size < q := by rw [hq, hw0]; simp
  rw [← hq] at hmk hcp hr2
  have f0 := zl 0
  have f1 := zl 1
  have HR := hid hr2
  have HB := hid (Below.on hb0 hb2)
  have HQ := hid hq
  subst hw0
  clear h hwa hba hr2 hb2 hq hb0 hz0 hz1 hzl zl
  go_enter Try.func30, Try.ntmps30
  go_wp2_with (first
    | (at_builtin; refine wpList_copy_b rfl _ _ rfl rfl rfl hcp ?_)
    | go_in)
  go_wp2_with fail
  have hsz : w.heap.size ≤ w2.heap.size := HB.out.size
  obtain ⟨v', hv'⟩ : ∃ v', v' = Value.slice (some ⟨q, 0, none⟩) s.b.length s.b.length := ⟨_, rfl⟩
  rw [← hv'] at HR ⊢
  refine bodyPost_ret (v := .agg #[v', .int .i64 (s.s : Int)]) (by simp [results, Try.results30, go_sem, z0, z1]) rfl ⟨v', rfl, ?_, ?_, ?_⟩
  · have h1 : Onl (fun k => k = w.heap.size) w2 (w2.setCell ⟨w.heap.size, 0, none⟩ v') := (Onl.refl (fun k => k = w.heap.size) w2).set (p := w.heap.size) rfl _ _
    have h2 := h1.set (p := w.heap.size) rfl 1 (.int .i64 (s.s : Int))
    exact HR.out.onl h2 (fun g hg e => by rw [hv'] at hg; simp [Value.ownBlock] at hg; omega)
  · intro g hg
    rw [hv'] at hg
    simp [Value.ownBlock] at hg
    omega
  · exact (HB.out.setCell (Nat.le_refl _) _).setCell (Nat.le_refl _) _

end Go.Proofs.Ytmbmagfdeadibaa
