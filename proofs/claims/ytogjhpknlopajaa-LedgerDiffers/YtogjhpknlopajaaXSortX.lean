import Derived.Test.YtogjhpknlopajaaXTellW
/- Rows of transactions that are sorted. -/
namespace Go.Proofs.Ytogjhpknlopajaa.Lg
open Go.RowKit Go.Sort Go.Shelf Go.Lib Lk
set_option linter.unusedVariables false

theorem sortX_is {w : World} {B n : Nat} {a : Option Addr} {c : Nat} {U : List Ix} (h : OwnX B w (.slice a n c) n U) (hn : U.length = n) (hl : n < 4611686018427387904) :
    Calls Try.prog 33 #[.slice a n c, .func (.func 34) #[] #[]] w fun e w' => e = .returned (.tuple #[]) ∧
      ∃ U', U'.Perm U ∧ U'.Pairwise (fun x y => ltI y x = false) ∧ OwnX B w' (.slice a n c) n U' ∧ Onl (fun b => (Value.slice a n c).ownBlock = some b) w w' := by
  by_cases h0 : n = 0
  · letI : Inhabited Ix := ⟨(0, 0)⟩
    subst h0
    have e : U = [] := List.eq_nil_of_length_eq_zero hn
    subst e
    have hcon := AnyF.slices_SortFunc_none { Try.sortT with } a c (.func (.func 34) #[] #[]) w
    change Calls Try.prog 33 _ _ _ at hcon
    refine hcon.mono ?_
    rintro e w' ⟨rfl, rfl⟩
    exact ⟨rfl, [], List.Perm.refl _, by simp, h, Onl.refl _ _⟩
  · letI : Inhabited Ix := ⟨(0, 0)⟩
    obtain ⟨g, rfl, _, _⟩ := own_cells h (by omega)
    have hlt : g < w.heap.size := (h.lt g rfl).2
    have eg : ∀ args w, (callFunc 34 args).run Try.prog w = .ok (.enter 34 args) w := enters_of Try.func34 (by kernel_rfl) rfl
    have hcmp : CmpLays Try.prog 34 #[] tcs 2 cmpT g 0 U.toArray.size w := fun _ _ _ _ x y => byID_is x y _
    have hcon := AnyQ.slices_SortFunc Try.sortT 2 Try.isAgg27 Try.sizeOf27 tcs tcs_len tcs_one cmpT (swo_T fun x : Ix => x) 34 #[] g 0 c U.toArray w eg hcmp (holds_row tcs_len (by decide) h) hlt (by simpa [hn] using hl)
    change Calls Try.prog 33 _ _ _ at hcon
    simp only [List.size_toArray, hn] at hcon
    refine hcon.mono ?_
    rintro e w' ⟨rfl, d', m, os, hp, hs, rfl⟩
    have hp' : PermIn 0 U.toArray.size U.toArray d' := by simpa [hn] using hp
    have hsz : d'.size = U.toArray.size := hp'.1
    have hs' : SortedIn (ltOf cmpT) 0 d'.size d' := by rw [hsz]; simpa [hn] using hs
    have hpm := perm_of hp'
    have hso := sorted_of hs'
    obtain ⟨h1, h2⟩ := sorted_row (ys := d'.toList) tcs_len (by decide) h (by simpa using hsz) m os
    refine ⟨rfl, d'.toList, by simpa using hpm, hso.imp fun {x y} hxy => by rw [← cmp_lt]; exact hxy, by unfold OwnX; simpa using h1, ?_⟩
    exact Onl.mono (by simpa using h2) (fun b hb => by rw [hb]; rfl)
/-- a list that rises strictly is told by its members -/
theorem rise_eq : ∀ {X Y : List Ix}, X.Pairwise (fun x y => ltI x y = true) → Y.Pairwise (fun x y => ltI x y = true) → (∀ t, t ∈ X ↔ t ∈ Y) → X = Y
  | [], [], _, _, _ => rfl
  | [], y :: Y, _, _, h => absurd ((h y).2 (by simp)) (by simp)
  | x :: X, [], _, _, h => absurd ((h x).1 (by simp)) (by simp)
  | x :: X, y :: Y, hX, hY, h => by
    rw [List.pairwise_cons] at hX hY
    have irr : ∀ t : Ix, ltI t t = false := fun t => by simp [ltI]
    have asy : ∀ s t : Ix, ltI s t = true → ltI t s = true → False := fun s t h1 h2 => by
      simp only [ltI, Bool.or_eq_true, Bool.and_eq_true, decide_eq_true_eq] at h1 h2; omega
    have e : x = y := by
      rcases List.mem_cons.1 ((h x).1 (by simp)) with e | e
      · exact e
      · rcases List.mem_cons.1 ((h y).2 (by simp)) with e' | e'
        · exact e'.symm
        · exact absurd (hX.1 _ e') (fun k => asy _ _ (hY.1 _ e) k)
    subst e
    refine congrArg _ (rise_eq hX.2 hY.2 fun t => ⟨fun ht => ?_, fun ht => ?_⟩)
    · rcases List.mem_cons.1 ((h t).1 (List.mem_cons_of_mem _ ht)) with e | e
      · subst e; have := hX.1 _ ht; rw [irr] at this; cases this
      · exact e
    · rcases List.mem_cons.1 ((h t).2 (List.mem_cons_of_mem _ ht)) with e | e
      · subst e; have := hY.1 _ ht; rw [irr] at this; cases this
      · exact e
theorem rise_strict {X : List Ix} (hn : X.Nodup) (hs : X.Pairwise (fun x y => ltI y x = false)) : X.Pairwise (fun x y => ltI x y = true) := by
  have := List.Pairwise.and hn hs
  exact this.imp fun ⟨h1, h2⟩ => ltI_total h2 h1
end Go.Proofs.Ytogjhpknlopajaa.Lg
