import Derived.Test.YtcphmahbhecfaaaXRow
/- byStamp; rows that are sorted. -/
namespace Go.Proofs.Ytcphmahbhecfaaa.Lg
open Go.RowKit Go.Sort Go.Shelf Go.Lib Lk
set_option linter.unusedVariables false

set_option maxHeartbeats 1000000 in
theorem byStamp_is (v u : En) (w : World) : Calls Try.prog 23 #[.agg #[.int .u32 v.id.1, .int .u32 v.id.2, .int .u32 v.home, .int .i64 v.oc, .int .u64 v.w, .int .u32 v.l, .int .u32 v.n], .agg #[.int .u32 u.id.1, .int .u32 u.id.2, .int .u32 u.home, .int .i64 u.oc, .int .u64 u.w, .int .u32 u.l, .int .u32 u.n]] w fun e w' => e = .returned (.int .i64 (cmpE v u)) ∧ ∃ q os, w' = grow (w.drewN q) os := by
  obtain ⟨x, hx⟩ : ∃ x, cmpI v.w v.l v.n u.w u.l u.n = x := ⟨_, rfl⟩
  obtain ⟨y, hy⟩ : ∃ y, cmpT v.id u.id = y := ⟨_, rfl⟩
  obtain ⟨r, hr⟩ : ∃ r, r = if x = 0 then y else x := ⟨_, rfl⟩
  rw [show cmpE v u = r by rw [cmpE, hx, hy, hr]]
  have HR := hid hr
  have C1 : Hid (∀ W, Calls Try.prog 32 #[.agg #[.int .u64 v.w, .int .u32 v.l, .int .u32 v.n], .agg #[.int .u64 u.w, .int .u32 u.l, .int .u32 u.n]] W fun e w' => e = .returned (.int .i64 x) ∧ Grew W w') := fun W => by rw [← hx]; exact compare_is _ _ _ _ _ _ W
  have C2 : Hid (∀ W, Calls Try.prog 21 #[.agg #[.int .u32 v.id.1, .int .u32 v.id.2, .int .u32 v.home, .int .i64 v.oc, .int .u64 v.w, .int .u32 v.l, .int .u32 v.n], .agg #[.int .u32 u.id.1, .int .u32 u.id.2, .int .u32 u.home, .int .i64 u.oc, .int .u64 u.w, .int .u32 u.l, .int .u32 u.n]] W fun e w' => e = .returned (.int .i64 y) ∧ Grew W w') := fun W => by rw [← hy]; exact byTxn_is v u W
  clear hr hx hy
  obtain ⟨wb, hwb⟩ : ∃ wb, wb = (w.alloc (.cells #[.int .u32 v.id.1, .int .u32 v.id.2, .int .u32 v.home, .int .i64 v.oc, .int .u64 v.w, .int .u32 v.l, .int .u32 v.n] 36)).alloc (.cells #[.int .u32 u.id.1, .int .u32 u.id.2, .int .u32 u.home, .int .i64 u.oc, .int .u64 u.w, .int .u32 u.l, .int .u32 u.n] 36) := ⟨_, rfl⟩
  have ha : wb.heap[w.heap.size]? = some (.cells #[.int .u32 v.id.1, .int .u32 v.id.2, .int .u32 v.home, .int .i64 v.oc, .int .u64 v.w, .int .u32 v.l, .int .u32 v.n] 36) := by rw [hwb, (MapKept.heap_alloc _ _).2 _ (by simp)]; exact (MapKept.heap_alloc _ _).1
  have hb : wb.heap[w.heap.size + 1]? = some (.cells #[.int .u32 u.id.1, .int .u32 u.id.2, .int .u32 u.home, .int .i64 u.oc, .int .u64 u.w, .int .u32 u.l, .int .u32 u.n] 36) := by
    rw [hwb, show w.heap.size + 1 = (w.alloc (.cells #[.int .u32 v.id.1, .int .u32 v.id.2, .int .u32 v.home, .int .i64 v.oc, .int .u64 v.w, .int .u32 v.l, .int .u32 v.n] 36)).heap.size by simp]
    exact (MapKept.heap_alloc _ _).1
  have a0 : wb.cell? ⟨w.heap.size, 0, none⟩ = some (.int .u32 v.id.1) := cell_of_obj ha rfl
  have a1 : wb.cell? ⟨w.heap.size, 1, none⟩ = some (.int .u32 v.id.2) := cell_of_obj ha rfl
  have a2 : wb.cell? ⟨w.heap.size, 2, none⟩ = some (.int .u32 v.home) := cell_of_obj ha rfl
  have a3 : wb.cell? ⟨w.heap.size, 3, none⟩ = some (.int .i64 v.oc) := cell_of_obj ha rfl
  have a4 : wb.cell? ⟨w.heap.size, 4, none⟩ = some (.int .u64 v.w) := cell_of_obj ha rfl
  have a5 : wb.cell? ⟨w.heap.size, 5, none⟩ = some (.int .u32 v.l) := cell_of_obj ha rfl
  have a6 : wb.cell? ⟨w.heap.size, 6, none⟩ = some (.int .u32 v.n) := cell_of_obj ha rfl
  have b0 : wb.cell? ⟨w.heap.size + 1, 0, none⟩ = some (.int .u32 u.id.1) := cell_of_obj hb rfl
  have b1 : wb.cell? ⟨w.heap.size + 1, 1, none⟩ = some (.int .u32 u.id.2) := cell_of_obj hb rfl
  have b2 : wb.cell? ⟨w.heap.size + 1, 2, none⟩ = some (.int .u32 u.home) := cell_of_obj hb rfl
  have b3 : wb.cell? ⟨w.heap.size + 1, 3, none⟩ = some (.int .i64 u.oc) := cell_of_obj hb rfl
  have b4 : wb.cell? ⟨w.heap.size + 1, 4, none⟩ = some (.int .u64 u.w) := cell_of_obj hb rfl
  have b5 : wb.cell? ⟨w.heap.size + 1, 5, none⟩ = some (.int .u32 u.l) := cell_of_obj hb rfl
  have b6 : wb.cell? ⟨w.heap.size + 1, 6, none⟩ = some (.int .u32 u.n) := cell_of_obj hb rfl
  have HG : Hid (Grew w wb) := by show Grew _ _; rw [hwb]; exact ((Grew.refl w).al _).al _
  clear ha hb
  go_enter Try.func23, Try.ntmps23
  go_wp2_with fail
  rw [← hwb]
  clear hwb
  go_region_held3 (fun w' => w'.cell? ⟨w.heap.size, 0, none⟩ = some (.int .u32 v.id.1) ∧ w'.cell? ⟨w.heap.size, 1, none⟩ = some (.int .u32 v.id.2) ∧ w'.cell? ⟨w.heap.size, 2, none⟩ = some (.int .u32 v.home) ∧ w'.cell? ⟨w.heap.size, 3, none⟩ = some (.int .i64 v.oc) ∧ w'.cell? ⟨w.heap.size, 4, none⟩ = some (.int .u64 v.w) ∧ w'.cell? ⟨w.heap.size, 5, none⟩ = some (.int .u32 v.l) ∧ w'.cell? ⟨w.heap.size, 6, none⟩ = some (.int .u32 v.n) ∧ w'.cell? ⟨w.heap.size + 1, 0, none⟩ = some (.int .u32 u.id.1) ∧ w'.cell? ⟨w.heap.size + 1, 1, none⟩ = some (.int .u32 u.id.2) ∧ w'.cell? ⟨w.heap.size + 1, 2, none⟩ = some (.int .u32 u.home) ∧ w'.cell? ⟨w.heap.size + 1, 3, none⟩ = some (.int .i64 u.oc) ∧ w'.cell? ⟨w.heap.size + 1, 4, none⟩ = some (.int .u64 u.w) ∧ w'.cell? ⟨w.heap.size + 1, 5, none⟩ = some (.int .u32 u.l) ∧ w'.cell? ⟨w.heap.size + 1, 6, none⟩ = some (.int .u32 u.n) ∧ Grew wb w')
    ((refine (fun (hG : Grew wb _) => (fun (hB : Below wb.heap.size wb _) => ⟨cell_later hB a0, cell_later hB a1, cell_later hB a2, cell_later hB a3, cell_later hB a4, cell_later hB a5, cell_later hB a6, cell_later hB b0, cell_later hB b1, cell_later hB b2, cell_later hB b3, cell_later hB b4, cell_later hB b5, cell_later hB b6, hG⟩) hG.below) ?_; (repeat (first | with_reducible exact Grew.refl _ | with_reducible assumption | with_reducible refine Grew.al ?_ _ | with_reducible refine Grew.drew ?_ | with_reducible refine Grew.trans ?_ (by assumption)))))
    (first
      | (go_at_call 32; refine (C1.out _).mono ?_; rintro e w1 ⟨rfl, hg1⟩)
      | (go_at_call 21; refine (C2.out _).mono ?_; rintro e w2 ⟨rfl, hg2⟩)
      | (go_at_call 31; refine (or_is HR.out (by simp [go_sem]) (by simp [go_sem])).mono ?_; rintro e w3 ⟨rfl, rfl⟩))
  all_goals (try go_wp2_with fail)
  all_goals go_ret
  all_goals refine ⟨rfl, HG.out.trans ?_⟩
  all_goals (repeat (first | with_reducible exact Grew.refl _ | with_reducible assumption | with_reducible refine Grew.al ?_ _ | with_reducible refine Grew.drew ?_ | with_reducible refine Grew.trans ?_ (by assumption)))

theorem swo_T {α : Type} (f : α → Ix) : SWO (ltOf fun x y => cmpT (f x) (f y)) where
  irrefl x := by show decide (_ < _) = _; rw [cmp_lt]; simp [ltI]
  trans x y z h1 h2 := by
    change decide (_ < _) = _ at h1 h2 ⊢
    rw [cmp_lt] at *
    simp only [ltI, Bool.or_eq_true, Bool.and_eq_true, decide_eq_true_eq] at *
    omega
  ntrans x y z h1 h2 := by
    change decide (_ < _) = _ at h1 h2 ⊢
    rw [cmp_lt] at *
    simp only [ltI, Bool.or_eq_false_iff, Bool.and_eq_false_iff, decide_eq_false_iff_not] at *
    omega
theorem ltE_iff {v u : En} : ltE v u = true ↔ (v.w < u.w ∨ (v.w = u.w ∧ (v.l < u.l ∨ (v.l = u.l ∧ v.n < u.n)))) ∨ ((v.w = u.w ∧ v.l = u.l ∧ v.n = u.n) ∧ (v.id.1 < u.id.1 ∨ (v.id.1 = u.id.1 ∧ v.id.2 < u.id.2))) := by
  simp only [ltE, Bool.or_eq_true, Bool.and_eq_true, lessB_iff, sameB_iff, ltI, decide_eq_true_eq]
theorem ltE_iff_false {v u : En} : ltE v u = false ↔ ¬ ((v.w < u.w ∨ (v.w = u.w ∧ (v.l < u.l ∨ (v.l = u.l ∧ v.n < u.n)))) ∨ ((v.w = u.w ∧ v.l = u.l ∧ v.n = u.n) ∧ (v.id.1 < u.id.1 ∨ (v.id.1 = u.id.1 ∧ v.id.2 < u.id.2)))) := by
  rw [← ltE_iff]; simp
theorem swo_E : SWO (ltOf cmpE) where
  irrefl x := by show decide (_ < _) = _; rw [cmpE_lt, ltE_iff_false]; omega
  trans x y z h1 h2 := by
    change decide (_ < _) = _ at h1 h2 ⊢
    rw [cmpE_lt, ltE_iff] at *
    omega
  ntrans x y z h1 h2 := by
    change decide (_ < _) = _ at h1 h2 ⊢
    rw [cmpE_lt, ltE_iff_false] at *
    omega
theorem enCmp (f : Nat) (cf : En → En → Int) (hc : ∀ (x y : En) (W : World), Calls Try.prog f #[x.val, y.val] W fun e w' => e = .returned (.int .i64 (cf x y)) ∧ ∃ q os, w' = grow (W.drewN q) os) {w : World} {B n : Nat} {a : Option Addr} {c : Nat} {U : List En} (swo : SWO (ltOf cf))
    (eg : ∀ args w, (callFunc f args).run Try.prog w = .ok (.enter f args) w) (h : OwnL B w (.slice a n c) n U) (hn : U.length = n) (hl : n < 4611686018427387904) :
    Calls Try.prog 22 #[.slice a n c, .func (.func f) #[] #[]] w fun e w' => e = .returned (.tuple #[]) ∧
      ∃ U', U'.Perm U ∧ U'.Pairwise (fun x y => decide (cf y x < 0) = false) ∧ OwnL B w' (.slice a n c) n U' ∧ Onl (fun b => (Value.slice a n c).ownBlock = some b) w w' := by
  by_cases h0 : n = 0
  · letI : Inhabited En := ⟨En.zero⟩
    subst h0
    have e : U = [] := List.eq_nil_of_length_eq_zero hn
    subst e
    have hcon := AnyF.slices_SortFunc_none { Try.sortE with } a c (.func (.func f) #[] #[]) w
    change Calls Try.prog 22 _ _ _ at hcon
    refine hcon.mono ?_
    rintro e w' ⟨rfl, rfl⟩
    exact ⟨rfl, [], List.Perm.refl _, by simp, h, Onl.refl _ _⟩
  · letI : Inhabited En := ⟨En.zero⟩
    obtain ⟨g, rfl, _, _⟩ := own_cells h (by omega)
    have hlt : g < w.heap.size := (h.lt g rfl).2
    have hcmp : CmpLays Try.prog f #[] ecs 7 cf g 0 U.toArray.size w := fun _ _ _ _ x y => hc x y _
    have hcon := AnyQ.slices_SortFunc Try.sortE 7 Try.isAgg36 Try.sizeOf36 ecs ecs_len ecs_one cf swo f #[] g 0 c U.toArray w eg hcmp (holds_row ecs_len (by decide) h) hlt (by simpa [hn] using hl)
    change Calls Try.prog 22 _ _ _ at hcon
    simp only [List.size_toArray, hn] at hcon
    refine hcon.mono ?_
    rintro e w' ⟨rfl, d', m, os, hp, hs, rfl⟩
    have hp' : PermIn 0 U.toArray.size U.toArray d' := by simpa [hn] using hp
    have hsz : d'.size = U.toArray.size := hp'.1
    have hs' : SortedIn (ltOf cf) 0 d'.size d' := by rw [hsz]; simpa [hn] using hs
    have hpm := perm_of hp'
    have hso := sorted_of hs'
    obtain ⟨h1, h2⟩ := sorted_row (ys := d'.toList) ecs_len (by decide) h (by simpa using hsz) m os
    refine ⟨rfl, d'.toList, by simpa using hpm, hso.imp fun {x y} hxy => hxy, by unfold OwnL; simpa using h1, ?_⟩
    exact Onl.mono (by simpa using h2) (fun b hb => by rw [hb]; rfl)
theorem sortT_is {w : World} {B n : Nat} {a : Option Addr} {c : Nat} {U : List En} (h : OwnL B w (.slice a n c) n U) (hn : U.length = n) (hl : n < 4611686018427387904) :
    Calls Try.prog 22 #[.slice a n c, .func (.func 21) #[] #[]] w fun e w' => e = .returned (.tuple #[]) ∧
      ∃ U', U'.Perm U ∧ U'.Pairwise (fun x y => ltI y.id x.id = false) ∧ OwnL B w' (.slice a n c) n U' ∧ Onl (fun b => (Value.slice a n c).ownBlock = some b) w w' :=
  (enCmp 21 (fun x y => cmpT x.id y.id) (fun x y W => byTxn_is x y W) (swo_T fun x : En => x.id) (enters_of Try.func21 (by kernel_rfl) rfl) h hn hl).mono fun e w' ⟨h1, U', h2, h3, h4, h5⟩ => ⟨h1, U', h2, h3.imp fun {x y} k => by rw [← cmp_lt]; exact k, h4, h5⟩
theorem sortE_is {w : World} {B n : Nat} {a : Option Addr} {c : Nat} {U : List En} (h : OwnL B w (.slice a n c) n U) (hn : U.length = n) (hl : n < 4611686018427387904) :
    Calls Try.prog 22 #[.slice a n c, .func (.func 23) #[] #[]] w fun e w' => e = .returned (.tuple #[]) ∧
      ∃ U', U'.Perm U ∧ U'.Pairwise (fun x y => ltE y x = false) ∧ OwnL B w' (.slice a n c) n U' ∧ Onl (fun b => (Value.slice a n c).ownBlock = some b) w w' :=
  (enCmp 23 cmpE (fun x y W => byStamp_is x y W) swo_E (enters_of Try.func23 (by kernel_rfl) rfl) h hn hl).mono fun e w' ⟨h1, U', h2, h3, h4, h5⟩ => ⟨h1, U', h2, h3.imp fun {x y} k => by rw [← cmpE_lt]; exact k, h4, h5⟩
end Go.Proofs.Ytcphmahbhecfaaa.Lg
