import Derived.Test.YtiheilkjlapoiaaFeRow
import Derived.Test.YtiheilkjlapoiaaFeTurn
/- Entries are sorted. (written by mk_fe.py) -/
namespace Go.Proofs.Ytiheilkjlapoiaa.Lg
open Go.RowKit Go.Sort Go.Shelf Go.Lib Lk
set_option linter.unusedVariables false

theorem swo_E : SWO (ltOf cmpE) where
  irrefl x := by show decide (_ < _) = _; rw [cmpE_lt, ltE_iff_false]; omega
  trans x y z h1 h2 := by
    change decide (_ < _) = _ at h1 h2 ⊢
    rw [cmpE_lt, ltE_iff] at *
    omega
  ntrans x y z h1 h2 := by
    change decide (_ < _) = _ at h1 h2 ⊢
    rw [cmpE_lt, ltE_iff_false] at *
    omega
theorem enCmp (f : Nat) (cf : En → En → Int) (hc : ∀ (x y : En) (W : World), Calls Try.prog f #[x.val, y.val] W fun e w' => e = .returned (.int .i64 (cf x y)) ∧ ∃ q os, w' = grow (W.drewN q) os) {w : World} {B n : Nat} {a : Option Addr} {c : Nat} {U : List En} (swo : SWO (ltOf cf))
    (eg : ∀ args w, (callFunc f args).run Try.prog w = .ok (.enter f args) w) (h : OwnL B w (.slice a n c) n U) (hn : U.length = n) (hl : n < 4611686018427387904) :
    Calls Try.prog 21 #[.slice a n c, .func (.func f) #[] #[]] w fun e w' => e = .returned (.tuple #[]) ∧
      ∃ U', U'.Perm U ∧ U'.Pairwise (fun x y => decide (cf y x < 0) = false) ∧ OwnL B w' (.slice a n c) n U' ∧ Onl (fun b => (Value.slice a n c).ownBlock = some b) w w' := by
  by_cases h0 : n = 0
  · letI : Inhabited En := ⟨En.zero⟩
    subst h0
    have e : U = [] := List.eq_nil_of_length_eq_zero hn
    subst e
    have hcon := AnyF.slices_SortFunc_none { Try.sortE with } a c (.func (.func f) #[] #[]) w
    change Calls Try.prog 21 _ _ _ at hcon
    refine hcon.mono ?_
    rintro e w' ⟨rfl, rfl⟩
    exact ⟨rfl, [], List.Perm.refl _, by simp, h, Onl.refl _ _⟩
  · letI : Inhabited En := ⟨En.zero⟩
    obtain ⟨g, rfl, _, _⟩ := own_cells h (by omega)
    have hlt : g < w.heap.size := (h.lt g rfl).2
    have hcmp : CmpLays Try.prog f #[] ecs 7 cf g 0 U.toArray.size w := fun _ _ _ _ x y => hc x y _
    have hcon := AnyQ.slices_SortFunc Try.sortE 7 Try.isAgg60 Try.sizeOf60 ecs ecs_len ecs_one cf swo f #[] g 0 c U.toArray w eg hcmp (holds_row ecs_len (by decide) h) hlt (by simpa [hn] using hl)
    change Calls Try.prog 21 _ _ _ at hcon
    simp only [List.size_toArray, hn] at hcon
    refine hcon.mono ?_
    rintro e w' ⟨rfl, d', m, os, hp, hs, rfl⟩
    have hp' : PermIn 0 U.toArray.size U.toArray d' := by simpa [hn] using hp
    have hsz : d'.size = U.toArray.size := hp'.1
    have hs' : SortedIn (ltOf cf) 0 d'.size d' := by rw [hsz]; simpa [hn] using hs
    have hpm := perm_of hp'
    have hso := sorted_of hs'
    obtain ⟨h1, h2⟩ := sorted_row (ys := d'.toList) ecs_len (by decide) h (by simpa using hsz) m os
    refine ⟨rfl, d'.toList, by simpa using hpm, hso.imp fun {x y} hxy => hxy, by unfold OwnL; simpa using h1, ?_⟩
    exact Onl.mono (by simpa using h2) (fun b hb => by rw [hb]; rfl)
theorem sortE_is {w : World} {B n : Nat} {a : Option Addr} {c : Nat} {U : List En} (h : OwnL B w (.slice a n c) n U) (hn : U.length = n) (hl : n < 4611686018427387904) :
    Calls Try.prog 21 #[.slice a n c, .func (.func 17) #[] #[]] w fun e w' => e = .returned (.tuple #[]) ∧
      ∃ U', U'.Perm U ∧ U'.Pairwise (fun x y => ltE y x = false) ∧ OwnL B w' (.slice a n c) n U' ∧ Onl (fun b => (Value.slice a n c).ownBlock = some b) w w' :=
  (enCmp 17 cmpE (fun x y W => inTurn_is x y W) swo_E (enters_of Try.func17 (by kernel_rfl) rfl) h hn hl).mono fun e w' ⟨h1, U', h2, h3, h4, h5⟩ => ⟨h1, U', h2, h3.imp fun {x y} k => by rw [← cmpE_lt]; exact k, h4, h5⟩
end Go.Proofs.Ytiheilkjlapoiaa.Lg
