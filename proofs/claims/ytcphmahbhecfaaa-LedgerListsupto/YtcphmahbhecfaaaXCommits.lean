import Derived.Test.YtcphmahbhecfaaaXSort
/- Commits. -/
namespace Go.Proofs.Ytcphmahbhecfaaa.Lg
open Go.RowKit Go.Sort Go.Shelf Go.Lib Lk
set_option linter.unusedVariables false

def comB (home : Int) (e : En) : Bool := e.oc == 1 && e.home == home
theorem iter_ne {β : Type} {fv : β → Value} {m : Option Nat} {r : Nat} {w : World} {ps todo : List (Ix × β)} (h : RngO ixv fv w m r ps todo) {g : Nat} {t : TypeId} (hg : ∃ cur, w.heap[g]? = some (.cells cur t (0, 0))) : ¬ g = r := by
  rintro rfl
  obtain ⟨cur, hc⟩ := hg
  cases m with
  | none => have := h.2.2; rw [hc] at this; cases this
  | some b =>
    obtain ⟨es, clock, since, seen, c0, _, _, _, _, hr, _⟩ := h.at
    rw [hc] at hr; cases hr
/-- a loop over a map goes on while a row of cells grows -/
theorem rng_grown {β : Type} {fv : β → Value} {m : Option Nat} {r : Nat} {w w' : World} {ps todo : List (Ix × β)} (h : RngO ixv fv w m r ps todo) {ob : Option Nat} (hg : w.grownBy w' ob) (ho : ∀ g, ob = some g → ∃ cur t, w.heap[g]? = some (.cells cur t (0, 0))) : RngO ixv fv w' m r ps todo := by
  have hnot : ∀ b, (∀ cs t z, w.heap[b]? ≠ some (.cells cs t z)) → b < w.heap.size → w'.heap[b]? = w.heap[b]? := fun b h1 h2 => hg.block b h2 (fun e => by
    obtain ⟨cur, t, hc⟩ := ho b e.symm
    exact h1 _ _ _ hc)
  refine h.same (fun b e => ?_) ?_
  · subst e
    refine hnot b ?_ (h.lt.2 b rfl)
    intro cs t z hc
    obtain ⟨es, clock, _, _, _, hb, _⟩ := h.at
    rw [hc] at hb; cases hb
  · refine hnot _ ?_ h.lt.1
    intro cs t z hc
    cases m with
    | none => have := h.2.2; rw [hc] at this; cases this
    | some b =>
      obtain ⟨es, clock, since, seen, c0, _, _, _, _, hr, _⟩ := h.at
      rw [hc] at hr; cases hr
theorem perm_step {M : List En} {U : List En} {todo todo' : List (Ix × En)} {q : Ix × En} {p : En → Bool} {d : List En} (h : (U ++ (todo.map (·.2)).filter p).Perm (M.filter p)) (hp : todo.Perm (q :: todo')) (hd : d = if p q.2 then [q.2] else []) : (U ++ d ++ (todo'.map (·.2)).filter p).Perm (M.filter p) := by
  refine List.Perm.trans ?_ h
  rw [List.append_assoc]
  refine List.Perm.append_left _ ?_
  have := ((hp.map (·.2)).filter p).symm
  refine List.Perm.trans ?_ this
  rw [List.map_cons, List.filter_cons, hd]
  cases p q.2 <;> simp
set_option maxHeartbeats 2000000 in
theorem commits_is {w : World} {p : Nat} {m : Option Nat} {M : List En} (T : Lg w p m M) (hlen : M.length ≤ 3518437208882) (home : Int) :
    Calls Try.prog 14 #[.pointer (some ⟨p, 0, none⟩), .int .u32 home] w fun e w' => ∃ (a : Option Addr) (n c : Nat) (U : List En), e = .returned (.slice a n c) ∧ Hid (U.length = n) ∧ Hid (OwnL w.heap.size w' (.slice a n c) n U) ∧
      Hid (U.Perm (M.filter (comB home))) ∧ Hid (U.Pairwise (fun x y => ltE y x = false)) ∧ Hid (Below w.heap.size w w') := by
  have c0 := T.c0
  obtain ⟨o, hr, R0⟩ := T.ents.range (P := Try.prog) Try.underlying48
  obtain ⟨i0, hi, hz0, hz1, hz2⟩ := info_of infoEn
  have RR := hid R0
  have HT := hid T
  have HLEN := hid hlen
  clear T R0 hlen
  go_enter Try.func14, Try.ntmps14
  go_wp2_with fail
  go_loopg [5] M.length (fun g s5 wr => ∃ (todo : List (Ix × En)) (U : List En) (a : Option Addr) (n c : Nat), g = todo.length ∧ s5 = .slice a n c ∧ Hid (U.length = n) ∧ Hid (OwnL w.heap.size wr (.slice a n c) n U) ∧
    Hid ((U ++ (todo.map (·.2)).filter (comB home)).Perm (M.filter (comB home))) ∧ Hid (RngO ixv En.val wr m w.heap.size (prsE M) todo) ∧ Hid (Below w.heap.size w wr))
  case atStart =>
    refine ⟨prsE M, [], none, 0, 0, by simp, rfl, rfl, ⟨rfl, .inl ⟨rfl, rfl⟩⟩, ?_, RR, Below.al (Below.refl _ _) _⟩
    show List.Perm _ _
    simp [prsE, List.map_map, Function.comp_def]
  case round =>
    obtain ⟨todo, U, a, n, c, rfl, rfl, HN, HO, HP, HG, HB⟩ := hrel
    clear hr c0 RR
    have hnM : n + 1 ≤ 3518437208883 := by
      have h1 := HP.out.length_eq
      have h2 := HN.out
      have h3 := List.length_filter_le (comB home) M
      have h4 := HLEN.out
      rw [List.length_append] at h1
      omega
    rcases HG.out.next Try.prog with ⟨rfl, hn⟩ | ⟨⟨j, v⟩, todo', w1, hpm, hpI, hn, R1, hen, hon, hsz⟩
    · have SO := hid (sortE_is HO.out HN.out (by omega))
      have HBR := HB
      go_wp2_with fail
      refine SO.out.mono ?_
      rintro e w2 ⟨rfl, U', hpU, hsU, hoU, honl⟩
      have hB2 : Below w.heap.size w w2 := HB.out.trans (honl.below (B := w.heap.size) (fun b hb => (HO.out.lt b hb).1) HB.out.size)
      have HFin : Hid (U'.length = n) ∧ Hid (OwnL w.heap.size w2 (.slice a n c) n U') ∧ Hid (U'.Perm (M.filter (comB home))) ∧ Hid (U'.Pairwise (fun x y => ltE y x = false)) ∧ Hid (Below w.heap.size w w2) := by
        refine ⟨hid (by rw [hpU.length_eq]; exact HN.out), hoU, hid (hpU.trans (by simpa using HP.out)), hsU, hB2⟩
      clear hpU hsU hoU honl hB2
      go_wp2_with fail
      go_ret
      exact ⟨a, n, c, U', rfl, HFin⟩
    · obtain ⟨hvM, hvj⟩ := prsE_mem hpI
      subst hvj
      have hb1 : Below w.heap.size w w1 := (HB.out.trans (hon.below (B := w.heap.size) (fun k hk => by omega) (HB.out.size)))
      have hO1 : OwnL w.heap.size w1 (.slice a n c) n U := owns_keep HO.out fun g hg => hon.block g (HO.out.lt g hg).2 (iter_ne HG.out (own_type HO.out hg))
      have hpl : todo'.length + 1 = todo.length := by have := hpm.length_eq; simpa using this.symm
      have HPM := hid hpm
      have HR1 := hid R1
      have HB1 := hid hb1
      have HO1 := hid hO1
      simp only [En.val, ixv] at hn hen
      clear R1 hb1 hO1 hpm hpI hon HG HB HO hsz
      obtain ⟨u, hu⟩ : ∃ u, comB home v = u := ⟨_, rfl⟩
      have hs1 : w.heap.size ≤ w1.heap.size := HB1.out.size
      cases u with
      | false =>
        have HP6 : Hid ((U ++ (todo'.map (·.2)).filter (comB home)).Perm (M.filter (comB home))) := by
          have := perm_step (d := []) HP.out HPM.out (by simp [hu])
          exact hid (by simpa using this)
        have HOF : Hid (OwnL w.heap.size (w1.alloc (.cells #[.int .u32 v.id.1, .int .u32 v.id.2, .int .u32 v.home, .int .i64 v.oc, .int .u64 v.w, .int .u32 v.l, .int .u32 v.n] 36)) (.slice a n c) n U) := owns_keep HO1.out fun g hg => (Below.al (Below.refl _ _) _ : Below w1.heap.size w1 _).block g (HO1.out.lt g hg).2
        have HRF : Hid (RngO ixv En.val (w1.alloc (.cells #[.int .u32 v.id.1, .int .u32 v.id.2, .int .u32 v.home, .int .i64 v.oc, .int .u64 v.w, .int .u32 v.l, .int .u32 v.n] 36)) m w.heap.size (prsE M) todo') := HR1.out.later (Below.al (Below.refl _ _) _)
        have HBF : Hid (Below w.heap.size w (w1.alloc (.cells #[.int .u32 v.id.1, .int .u32 v.id.2, .int .u32 v.home, .int .i64 v.oc, .int .u64 v.w, .int .u32 v.l, .int .u32 v.n] 36))) := Below.al HB1.out _
        by_cases h1 : v.oc = 1
        · have h1' : (v.oc == 1) = true := by simp [h1]
          have h2' : (v.home == home) = false := by
            have := hu
            simp only [comB, h1', Bool.true_and] at this
            exact this
          clear hu h1
          go_wp2_with fail
          go_roundg todo'.length
          case measure => omega
          case rel => exact ⟨todo', U, a, n, c, rfl, rfl, HN, HOF, HP6, HRF, HBF⟩
        · have h1' : (v.oc == 1) = false := by simpa using h1
          clear hu h1
          go_wp2_with fail
          go_roundg todo'.length
          case measure => omega
          case rel => exact ⟨todo', U, a, n, c, rfl, rfl, HN, HOF, HP6, HRF, HBF⟩
      | true =>
        have h1' : (v.oc == 1) = true := by simp only [comB, Bool.and_eq_true] at hu; exact hu.1
        have h2' : (v.home == home) = true := by simp only [comB, Bool.and_eq_true] at hu; exact hu.2
        have HP6 : Hid ((U ++ [v] ++ (todo'.map (·.2)).filter (comB home)).Perm (M.filter (comB home))) := perm_step (d := [v]) HP.out HPM.out (by simp [hu])
        clear hu
        obtain ⟨w5, hw5⟩ : ∃ w5, w5 = (w1.alloc (.cells #[.int .u32 v.id.1, .int .u32 v.id.2, .int .u32 v.home, .int .i64 v.oc, .int .u64 v.w, .int .u32 v.l, .int .u32 v.n] 36)).alloc (.cells #[.int .u32 v.id.1, .int .u32 v.id.2, .int .u32 v.home, .int .i64 v.oc, .int .u64 v.w, .int .u32 v.l, .int .u32 v.n] 36) := ⟨_, rfl⟩
        have hb15 : Below w1.heap.size w1 w5 := by rw [hw5]; exact Below.al (Below.al (Below.refl _ _) _) _
        have hO5 : OwnL w.heap.size w5 (.slice a n c) n U := owns_keep HO1.out fun g hg => hb15.block g (HO1.out.lt g hg).2
        have blk5 : w5.heap[w1.heap.size + 1]? = some (.cells (ecs v).toArray 36) := by
          rw [hw5, show w1.heap.size + 1 = (w1.alloc (.cells #[.int .u32 v.id.1, .int .u32 v.id.2, .int .u32 v.home, .int .i64 v.oc, .int .u64 v.w, .int .u32 v.l, .int .u32 v.n] 36)).heap.size by simp]; exact (MapKept.heap_alloc _ _).1
        have hcl : ∀ j x, (ecs v)[j]? = some x → w5.cell? ((⟨w1.heap.size + 1, 0, none⟩ : Addr).add j) = some x := fun j x hj => by
          rw [Addr.add_lit, Nat.zero_add]
          exact cell_of_obj blk5 (by simpa using hj)
        have HO5 := hid hO5
        have HCL := hid hcl
        have HB15 := hid hb15
        have hs5 : w.heap.size ≤ w5.heap.size := Nat.le_trans hs1 hb15.size
        clear hO5 hcl hb15 blk5
        go_wp2_with (at_builtin; refine wpList_append_own _ rfl _ _ 22 rfl w.heap.size 36 i0 (En.val En.zero) 7 40 Try.underlying22 hi hz0 hz1 hz2 rfl (by decide) (.slice a n c) n (U.flatMap ecs) rfl (by rw [← hw5]; exact HO5.out) ⟨w1.heap.size + 1, 0, none⟩ 1 1 (ecs v) rfl rfl (by rw [← hw5]; exact HCL.out) (ecs_one v) (by unfold maxLen; omega) (by omega) (by rw [← hw5]; exact hs5) ?_)
        intro v2 w6 hown hgrow hnil
        rw [← hw5] at hgrow
        obtain ⟨a2, c2, rfl⟩ := owns_slice hown
        have hB6 : Below w.heap.size w w6 := Below.grown (Below.on HB1.out HB15.out) hgrow (by exact hs5) (fun k hk => (HO5.out.lt k hk).1)
        have R6 : RngO ixv En.val w6 m w.heap.size (prsE M) todo' := rng_grown (HR1.out.later HB15.out) hgrow (fun g e => by
          obtain ⟨cur, hc⟩ := own_type HO5.out e
          exact ⟨cur, _, hc⟩)
        have HFin : Hid ((U ++ [v]).length = n + 1) ∧ Hid (OwnL w.heap.size w6 (.slice a2 (n + 1) c2) (n + 1) (U ++ [v])) ∧ Hid (RngO ixv En.val w6 m w.heap.size (prsE M) todo') ∧ Hid (Below w.heap.size w w6) := by
          refine ⟨hid (by rw [List.length_append, HN.out]; rfl), ?_, R6, hB6⟩
          refine hid ?_
          unfold OwnL
          rw [List.flatMap_append]
          simpa using hown
        clear hown hgrow hnil hB6 R6
        go_wp2_with fail
        go_roundg todo'.length
        case measure => omega
        case rel => exact ⟨todo', U ++ [v], a2, n + 1, c2, rfl, rfl, HFin.1, HFin.2.1, HP6, HFin.2.2.1, HFin.2.2.2⟩
end Go.Proofs.Ytcphmahbhecfaaa.Lg
