import Derived.Test.YtogjhpknlopajaaXSortedP
/- What several ledgers say: views; tell. -/
namespace Go.Proofs.Ytogjhpknlopajaa.Lg
open Go.RowKit Go.Sort Go.Shelf Go.Lib Lk
set_option linter.unusedVariables false

/-- what ledgers say of a transaction -/
structure Vw where
  first : En
  df : Bool
abbrev Vw.val (v : Vw) : Value := .agg #[.int .u32 v.first.id.1, .int .u32 v.first.id.2, .int .u32 v.first.home, .int .i64 v.first.oc, .int .u64 v.first.w, .int .u32 v.first.l, .int .u32 v.first.n, .bool v.df]
def stepV (o : Option Vw) (oe : Option En) : Option Vw :=
  match oe with
  | none => o
  | some e => match o with
    | none => some ⟨e, false⟩
    | some v => some ⟨v.first, v.df || !agrB e v.first⟩
def viewOf (Ms : List (List En)) (t : Ix) : Option Vw := Ms.foldl (fun o M => stepV o (outM M t)) none
/-- a map's value at a key -/
def getA {β : Type} (V : List (Ix × β)) (t : Ix) : Option β := (V.find? (fun q => sameI q.1 t)).map (·.2)
theorem getA_put {β : Type} (V : List (Ix × β)) (k : Ix) (v : β) (t : Ix) : getA (putA V k v) t = if sameI k t then some v else getA V t := by
  unfold putA
  split
  · rename_i hm
    induction V with
    | nil => simp at hm
    | cons q V ih =>
      obtain ⟨q1, q2⟩ := q
      by_cases hq : q1 = k
      · subst hq
        by_cases ht : sameI q1 t = true
        · simp [getA, ht]
        · have ht' : sameI q1 t = false := by simpa using ht
          simp only [getA, List.map_cons, if_true, List.find?_cons, ht']
          have : (V.map (fun p => if p.1 = q1 then (q1, v) else p)).find? (fun q => sameI q.1 t) = V.find? (fun q => sameI q.1 t) := by
            clear ih hm
            induction V with
            | nil => rfl
            | cons r V ih =>
              obtain ⟨r1, r2⟩ := r
              by_cases hr : r1 = q1
              · subst hr; simp [ht', ih]
              · simp only [List.map_cons, hr, if_false, List.find?_cons]
                cases sameI r1 t <;> simp [ih]
          rw [this]; rfl
      · have hm' : k ∈ V.map (·.1) := by
          rcases List.mem_cons.1 (by simpa using hm : k ∈ q1 :: V.map (·.1)) with e | e
          · exact absurd e.symm hq
          · exact e
        have ih' := ih hm'
        by_cases ht : sameI q1 t = true
        · have hkt : sameI k t = false := by
            have : q1 = t := sameI_iff.1 ht
            subst this
            simp [sameI, Ne.symm hq]
          simp [getA, hq, ht, hkt]
        · have ht' : sameI q1 t = false := by simpa using ht
          simp only [getA, List.map_cons, hq, if_false, List.find?_cons, ht'] at ih' ⊢
          exact ih'
  · rename_i hm
    rw [getA, List.find?_append, getA]
    by_cases ht : sameI k t = true
    · have : k = t := sameI_iff.1 ht
      subst this
      have hn : V.find? (fun q => sameI q.1 k) = none := by
        rw [List.find?_eq_none]
        intro q hq hs
        exact hm (List.mem_map.2 ⟨q, hq, sameI_iff.1 hs⟩)
      simp [hn, ht]
    · have ht' : sameI k t = false := by simpa using ht
      cases V.find? (fun q => sameI q.1 t) <;> simp [ht']
theorem getA_mem {β : Type} {V : List (Ix × β)} {t : Ix} {v : β} (h : getA V t = some v) : (t, v) ∈ V := by
  rw [getA, Option.map_eq_some_iff] at h
  obtain ⟨q, h1, h2⟩ := h
  have h3 : sameI q.1 t = true := List.find?_some (p := fun q : Ix × β => sameI q.1 t) h1
  have := List.mem_of_find?_eq_some h1
  rw [← h2, ← sameI_iff.1 h3]; exact this
theorem getA_of {β : Type} {V : List (Ix × β)} (hn : (V.map (·.1)).Nodup) {t : Ix} {v : β} (h : (t, v) ∈ V) : getA V t = some v := by
  cases hg : getA V t with
  | some u =>
    have := nodup_inj hn (getA_mem hg) h rfl
    injection this with _ e
    rw [e]
  | none =>
    rw [getA, Option.map_eq_none_iff, List.find?_eq_none] at hg
    exact absurd (by simp [sameI]) (hg _ h)
theorem getA_none {β : Type} {V : List (Ix × β)} {t : Ix} (h : t ∉ V.map (·.1)) : getA V t = none := by
  rw [getA, Option.map_eq_none_iff, List.find?_eq_none]
  intro q hq hs
  exact h (List.mem_map.2 ⟨q, hq, sameI_iff.1 hs⟩)
/-- while a ledger tells -/
def Telling (M : List En) (V Vc : List (Ix × Vw)) (todo : List (Ix × En)) : Prop :=
  (todo.map (·.1)).Nodup ∧ (∀ q ∈ todo, outM M q.1 = some q.2) ∧ ∀ t, getA Vc t = if t ∈ todo.map (·.1) then getA V t else stepV (getA V t) (outM M t)
theorem telling_start {M : List En} {V : List (Ix × Vw)} (hn : (M.map En.id).Nodup) : Telling M V V (prsE M) := by
  refine ⟨by rw [prsE_keys]; exact hn, fun q hq => ?_, fun t => ?_⟩
  · obtain ⟨q1, q2⟩ := q
    obtain ⟨h1, h2⟩ := prsE_mem hq
    simp only
    rw [← h2]; exact outM_mem hn h1
  · split
    · rfl
    · rename_i h
      rw [prsE_keys] at h
      rw [outM_none.2 h]; rfl
theorem telling_step {M : List En} {V Vc : List (Ix × Vw)} {todo todo' : List (Ix × En)} {j : Ix} {e : En} {nv : Vw} (h : Telling M V Vc todo) (hp : todo.Perm ((j, e) :: todo')) (hnv : some nv = stepV (getA Vc j) (some e)) : Telling M V (putA Vc j nv) todo' := by
  obtain ⟨h1, h2, h3⟩ := h
  have hk := hp.map (·.1)
  have hn := hk.nodup_iff.1 h1
  rw [List.map_cons, List.nodup_cons] at hn
  refine ⟨hn.2, fun q hq => h2 q (hp.mem_iff.2 (List.mem_cons_of_mem _ hq)), fun t => ?_⟩
  rw [getA_put]
  by_cases ht : j = t
  · subst ht
    have hj : j ∈ todo.map (·.1) := hk.mem_iff.2 (by simp)
    have hv := h3 j
    rw [if_pos hj] at hv
    have ho := h2 (j, e) (hp.mem_iff.2 (by simp))
    simp only at ho
    rw [if_pos (by simp [sameI]), if_neg hn.1, hnv, hv, ho]
  · rw [if_neg (by simp [sameI, ht]), h3 t]
    have : t ∈ todo.map (·.1) ↔ t ∈ todo'.map (·.1) := by
      rw [hk.mem_iff, List.map_cons, List.mem_cons]
      constructor
      · rintro (e | e)
        · exact absurd e.symm ht
        · exact e
      · exact .inr
    simp only [this]
theorem zero_vw (W : World) : (zeroValue 74).run Try.prog W = .ok (Vw.val ⟨En.zero, false⟩) W := by kernel_rfl
/-- a look-up of a view -/
theorem look_vw {w : World} {b : Nat} {V : List (Ix × Vw)} (hV : MapO ixv Vw.val w (some b) V) (t : Ix) : ∃ (v : Vw) (ok : Bool), (ok = (getA V t).isSome) ∧ v = (getA V t).getD ⟨En.zero, false⟩ ∧ ∀ W, W.heap[b]? = w.heap[b]? → (Instr.lookup 71 (.map (some b)) (.agg #[.int .u32 t.1, .int .u32 t.2]) true).run Try.prog W = .ok (.tuple #[.agg #[.int .u32 v.first.id.1, .int .u32 v.first.id.2, .int .u32 v.first.home, .int .i64 v.first.oc, .int .u64 v.first.w, .int .u32 v.first.l, .int .u32 v.first.n, .bool v.df], .bool ok]) W := by
  obtain ⟨v, ok, h1, h2, h3⟩ := hV.lookT (P := Try.prog) ids Try.underlying71 zero_vw t
  have hnd := hV.nodup (P := Try.prog) ids
  refine ⟨v, ok, ?_, ?_, fun W hW => h3 W (fun c e => by injection e with e; subst e; exact hW)⟩
  · cases ok with
    | true => rw [getA_of hnd (h1 rfl)]; rfl
    | false => rw [getA_none (h2 rfl).1]; rfl
  · cases ok with
    | true => rw [getA_of hnd (h1 rfl)]; rfl
    | false => rw [getA_none (h2 rfl).1, (h2 rfl).2]; rfl
/-- an entry is stored over a view's first -/
theorem storedV {w w8 : World} {q : Nat} {v : Vw} {u : En} (hz : w.heap[q]? = some (.cells #[.int .u32 v.first.id.1, .int .u32 v.first.id.2, .int .u32 v.first.home, .int .i64 v.first.oc, .int .u64 v.first.w, .int .u32 v.first.l, .int .u32 v.first.n, .bool v.df] 74)) (h : w8 = (((((((w).setCell ⟨q, 0, none⟩ (.int .u32 u.id.1)).setCell ⟨q, 1, none⟩ (.int .u32 u.id.2)).setCell ⟨q, 2, none⟩ (.int .u32 u.home)).setCell ⟨q, 3, none⟩ (.int .i64 u.oc)).setCell ⟨q, 4, none⟩ (.int .u64 u.w)).setCell ⟨q, 5, none⟩ (.int .u32 u.l)).setCell ⟨q, 6, none⟩ (.int .u32 u.n)) :
    w8.heap[q]? = some (.cells #[.int .u32 u.id.1, .int .u32 u.id.2, .int .u32 u.home, .int .i64 u.oc, .int .u64 u.w, .int .u32 u.l, .int .u32 u.n, .bool v.df] 74) ∧ Onl (fun b => b = q) w w8 := by
  subst h
  refine ⟨?_, ?_⟩
  · have h0 := heap_setCell_same w q 0 _ _ (.int .u32 u.id.1) hz
    have h1 := heap_setCell_same _ q 1 _ _ (.int .u32 u.id.2) h0
    have h2 := heap_setCell_same _ q 2 _ _ (.int .u32 u.home) h1
    have h3 := heap_setCell_same _ q 3 _ _ (.int .i64 u.oc) h2
    have h4 := heap_setCell_same _ q 4 _ _ (.int .u64 u.w) h3
    have h5 := heap_setCell_same _ q 5 _ _ (.int .u32 u.l) h4
    have h6 := heap_setCell_same _ q 6 _ _ (.int .u32 u.n) h5
    simpa using h6
  · repeat refine Onl.set ?_ (by rfl) _ _
    exact Onl.refl _ _
end Go.Proofs.Ytogjhpknlopajaa.Lg
