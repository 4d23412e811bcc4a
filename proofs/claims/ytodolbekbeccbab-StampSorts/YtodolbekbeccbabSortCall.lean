import Derived.Test.YtodolbekbeccbabSortCmp
namespace Go.Proofs.Ytodolbekbeccbab
open Go.RowKit Go.Sort Go.Shelf Go.Lib
set_option linter.unusedVariables false

theorem heap_sorted [Inhabited St] (w : World) (g m : Nat) (xs ys : List St) (os : Array Obj) (hlen : ys.length = xs.length) (h : w.heap[g]? = some (.cells (flat xs).toArray 25 (0, 0))) :
    (sortWorldK St.cs 3 w g 0 m ys.toArray os).heap[g]? = some (.cells (flat ys).toArray 25 (0, 0)) := by
  have hlt : g < w.heap.size := (Array.getElem?_eq_some_iff.1 h).1
  unfold sortWorldK grow putRowK putRow mapBlock Sort.ahead
  simp only
  rw [Array.getElem?_append_left (by simpa using hlt), Array.getElem?_modify, if_pos rfl, h]
  simp only [Option.map_some, onCells]
  congr 2
  rw [flatK_eq]
  apply Array.ext_getElem?
  intro j
  simp only [putCells, Array.getElem?_mapIdx]
  by_cases hj : j < xs.length * 3
  · simp [flat_length, hlen, hj]
  · rw [Array.getElem?_eq_none (by simp [flat_length]; omega), Array.getElem?_eq_none (by simp [flat_length]; omega)]; rfl

theorem below_sorted [Inhabited St] (w : World) (g m : Nat) (d : Array St) (os : Array Obj) (hg : g < w.heap.size) : Below g w (sortWorldK St.cs 3 w g 0 m d os) := by
  refine ⟨rfl, rfl, rfl, by simp [sortWorldK, grow, putRowK, putRow, mapBlock, Sort.ahead], fun k hk => ?_⟩
  unfold sortWorldK grow putRowK putRow mapBlock Sort.ahead
  simp only
  rw [Array.getElem?_append_left (by simp; omega), Array.getElem?_modify, if_neg (by omega)]

theorem sortfunc_any [Inhabited St] (base g n : Nat) (xs : List St) (w : World) (hn : xs.length = n) (hown : w.ownsRow base 25 3 (.slice (some ⟨g, 0, none⟩) n n) n (flat xs)) (hl : n < 4611686018427387904) :
    Calls Try.prog 24 #[.slice (some ⟨g, 0, none⟩) n n, .func (.func 25) #[] #[]] w fun e w' => e = .returned (.tuple #[]) ∧ w'.ownsRow base 25 3 (.slice (some ⟨g, 0, none⟩) n n) n (flat (srt xs)) ∧ Below g w w' := by
  obtain ⟨hb, hm, hg⟩ := owns_full hn hown
  have hlt : g < w.heap.size := (Array.getElem?_eq_some_iff.1 hg).1
  have eg : ∀ args w, (callFunc 25 args).run Try.prog w = .ok (.enter 25 args) w := enters_of Try.func25 (by kernel_rfl) rfl
  have hcon := AnyQ.slices_SortFunc_total Try.sortSt 3 Try.isAgg25 Try.sizeOf25 St.cs (fun _ => rfl) (fun x v hv => by simp [St.cs] at hv; rcases hv with rfl | rfl | rfl <;> rfl) cmpS swoS 25 #[] g 0 n xs.toArray w eg (cmpLays g 0 _ w) (holds_full hg) hlt (by simpa [hn] using hl) totS
  rw [leS_eq] at hcon
  change Calls Try.prog 24 _ _ _ at hcon
  simp only [List.size_toArray, hn] at hcon
  refine hcon.mono ?_
  rintro e w' ⟨rfl, m, os, rfl⟩
  refine ⟨rfl, ?_, below_sorted w g m _ os hlt⟩
  exact owns_of_full (by rw [srt_length, hn]) hb hm (heap_sorted w g m xs (srt xs) os (srt_length xs) hg)

/-- the cells of a row that is read -/
theorem row_cells {w : World} {a : Option Addr} {xs : List St} (h : Row w a xs) (n0 : 0 < xs.length) : ∃ b off, a = some ⟨b, off, none⟩ ∧ ∀ j v, (flat xs)[j]? = some v → w.cell? ((⟨b, off, none⟩ : Addr).add j) = some v := by
  obtain ⟨b, off, e, _⟩ := h 0 n0
  refine ⟨b, off, e, fun j v hv => ?_⟩
  have hj : j < xs.length * 3 := by
    have := (List.getElem?_eq_some_iff.1 hv).1
    rwa [flat_length] at this
  obtain ⟨b', off', e', c0, c1, c2⟩ := h (j / 3) (by omega)
  rw [e] at e'
  injection e' with e'
  injection e' with e1 e2 _
  subst e1 e2
  obtain ⟨f0, f1, f2⟩ := flat_at xs (j / 3) (by omega)
  have hadd : (⟨b, off, none⟩ : Addr).add j = ⟨b, off + j, none⟩ := by unfold Addr.add; split <;> simp_all
  rw [hadd, ← hv]
  have h3 : j % 3 = 0 ∨ j % 3 = 1 ∨ j % 3 = 2 := by omega
  rcases h3 with e | e | e
  · conv => rhs; rw [show j = j / 3 * 3 by omega]
    rw [f0, ← c0]; congr 2; omega
  · conv => rhs; rw [show j = j / 3 * 3 + 1 by omega]
    rw [f1, ← c1]; congr 2; omega
  · conv => rhs; rw [show j = j / 3 * 3 + 2 by omega]
    rw [f2, ← c2]; congr 2; omega

theorem flat_one_cell (xs : List St) : ∀ v ∈ flat xs, v.oneCell' = true := by
  intro v hv
  simp only [flat, List.mem_flatMap, St.cs] at hv
  obtain ⟨x, _, hv⟩ := hv
  simp at hv
  rcases hv with rfl | rfl | rfl <;> rfl

/-- copy(dst, src), dst a row of our own as long as src -/
theorem run_copy_st (w : World) (base g n : Nat) (a : Option Addr) (c : Nat) (zs xs : List St) (ty : TypeId) (hz : zs.length = n) (hn : xs.length = n) (hown : w.ownsRow base 25 3 (.slice (some ⟨g, 0, none⟩) n n) n (flat zs)) (hr : Row w a xs) :
    ∃ w', (Builtin.copy_ #[31, 31] ty #[.slice (some ⟨g, 0, none⟩) n n, .slice a n c]).run Try.prog w = .ok (goInt n) w' ∧ w'.ownsRow base 25 3 (.slice (some ⟨g, 0, none⟩) n n) n (flat xs) ∧ Below g w w' := by
  obtain ⟨hb, hm, hg⟩ := owns_full hz hown
  obtain ⟨i0, hi, hz0, hz1, hz2⟩ := info_parts Try.infoSt
  by_cases h0 : n = 0
  · subst h0
    have e1 : zs = [] := List.eq_nil_of_length_eq_zero hz
    have e2 : xs = [] := List.eq_nil_of_length_eq_zero hn
    subst e1 e2
    refine ⟨w, ?_, hown, Below.refl _ _⟩
    have hl : ∀ (x : Addr), (loadCells x 0).run Try.prog w = .ok #[] w := fun x => by simpa using run_loadCells_list (P := Try.prog) w x [] (by simp)
    cases a <;> simp [Builtin.copy_, run_underlying Try.underlying31, Builtin.lenOf, Builtin.firstCells, sizeOf, typeInfo, hi, storeCells, hl]
  · obtain ⟨b, off, rfl, hc⟩ := row_cells hr (by omega)
    have hlen : (flat xs).length = n * 3 := by rw [flat_length, hn]
    have hzl : (flat zs).length = n * 3 := by rw [flat_length, hz]
    have hl := run_loadCells_list (P := Try.prog) w ⟨b, off, none⟩ (flat xs) hc
    rw [hlen] at hl
    have hst := run_storeCells_at Try.prog g 0 25 (flat xs) 0 (flat zs).toArray w hg (by simp [hlen, hzl]) (flat_one_cell xs)
    have hall : (((flat zs).toArray.toList.take (0 + 0) ++ flat xs ++ (flat zs).toArray.toList.drop (0 + 0 + (flat xs).length))).toArray = (flat xs).toArray := by
      simp [hlen, hzl]
    rw [hall] at hst
    refine ⟨w.setRow g (flat xs).toArray, ?_, owns_of_full hn hb hm (setRow_heap w g _ _ _ _ hg), below_setRow (Below.refl _ _) (Nat.le_refl _) _⟩
    simp [Builtin.copy_, run_underlying Try.underlying31, Builtin.lenOf, Builtin.firstCells, sizeOf, typeInfo, hi, hz1, hl, hst]

theorem wpList_copy_st {w : World} {ops : Array Oper} {rest : List Oper} {o : Oper} {act : Act} {Q : Exit → Act → World → Prop} (hgd : o.guard = none) (d s : Operand)
    (ho : o.op = .call { callee := .builtin .copy, args := #[d, s], argTypes := #[31, 31] })
    (base g n : Nat) (a : Option Addr) (c : Nat) (zs xs : List St) (hd : act.eval d = .slice (some ⟨g, 0, none⟩) n n) (hs : act.eval s = .slice a n c)
    (hz : zs.length = n) (hn : xs.length = n) (hown : w.ownsRow base 25 3 (.slice (some ⟨g, 0, none⟩) n n) n (flat zs)) (hr : Row w a xs)
    (h : ∀ w', w'.ownsRow base 25 3 (.slice (some ⟨g, 0, none⟩) n n) n (flat xs) → Below g w w' → wpList Try.prog ops Q rest (act.put o.dst (goInt n)) w') : wpList Try.prog ops Q (o :: rest) act w := by
  refine wpList_plain hgd fun K hK => ?_
  obtain ⟨w', hrun, h1, h2⟩ := run_copy_st w base g n a c zs xs o.type hz hn hown hr
  unfold Oper.wp
  simp [execOp, ho, resolve, invoke, builtin, hd, hs, hrun, Result.andThen]
  exact hK _ _ (h w' h1 h2)

end Go.Proofs.Ytodolbekbeccbab
