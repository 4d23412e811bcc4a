import Derived.Test.YtogjhpknlopajaaXBook
/- Rows of ledgers out of the book: what both Differs answer. -/
namespace Go.Proofs.Ytogjhpknlopajaa.Lg
open Go.RowKit Go.Sort Go.Shelf Go.Lib Lk
set_option linter.unusedVariables false

/-- each ledger of the row is one of the book's -/
def Zok (P : Nat → Ld) (R : Nat → Rd) (Z : List (Option Pr)) : Prop := ∀ z, some z ∈ Z → ∃ j, j < 3 ∧ z = (P j, R j)
def keysP (P : Nat → Ld) : List Ix := ((P 0).M ++ (P 1).M ++ (P 2).M).map En.id
theorem keysP_len (P : Nat → Ld) : (keysP P).length = (P 0).M.length + (P 1).M.length + (P 2).M.length := by simp [keysP]; omega
/-- the ledgers at a place -/
def zOf (P : Nat → Ld) (R : Nat → Rd) (i : Int) : Option Pr := if 0 ≤ i ∧ i ≤ 2 then some (P i.toNat, R i.toNat) else none
theorem zok_of (P : Nat → Ld) (R : Nat → Rd) (ns : List Int) : Zok P R (ns.map (zOf P R)) := fun z hz => by
  obtain ⟨i, _, h⟩ := List.mem_map.1 hz
  by_cases hi : 0 ≤ i ∧ i ≤ 2
  · rw [zOf, if_pos hi] at h
    injection h with h
    exact ⟨i.toNat, by omega, h.symm⟩
  · rw [zOf, if_neg hi] at h; cases h
section
variable {w : World} {bk : Nat} {P : Nat → Ld} {R : Nat → Rd} {Z : List (Option Pr)}
theorem Zok.ok (h : Zok P R Z) (S : St w bk P R) {z : Pr} (hz : some z ∈ Z) : z.ok w := by
  obtain ⟨j, hj, rfl⟩ := h z hz
  exact S.ok hj
theorem Zok.len (h : Zok P R Z) {z : Pr} (hz : some z ∈ Z) {L : Nat} (hl : (P 0).M.length + (P 1).M.length + (P 2).M.length ≤ L) : z.1.M.length ≤ L := by
  obtain ⟨j, hj, rfl⟩ := h z hz
  match j, hj with
  | 0, _ => show (P 0).M.length ≤ L; omega
  | 1, _ => show (P 1).M.length ≤ L; omega
  | 2, _ => show (P 2).M.length ≤ L; omega
theorem Zok.mats (h : Zok P R Z) (S : St w bk P R) : mats (lds Z) = matsR (rds Z) := by
  unfold Lg.mats matsR lds rds
  rw [List.map_map, List.map_map]
  refine List.map_congr_left fun z hz => ?_
  cases z with
  | none => rfl
  | some z => exact (h.ok S hz).same
theorem Zok.nodup (h : Zok P R Z) (S : St w bk P R) : ∀ M ∈ matsR (rds Z), (M.map En.id).Nodup := fun M hM => by
  rw [← h.mats S] at hM
  obtain ⟨d, hd, rfl⟩ := List.mem_map.1 hM
  obtain ⟨z, hz, rfl⟩ := List.mem_map.1 hd
  cases z with
  | none => simp [matOf]
  | some z => exact (h.ok S hz).L.nodup
theorem Zok.within (h : Zok P R Z) : Within (Lg.mats (lds Z)) (keysP P) := fun M hM e he => by
  obtain ⟨d, hd, rfl⟩ := List.mem_map.1 hM
  obtain ⟨z, hz, rfl⟩ := List.mem_map.1 hd
  cases z with
  | none => simp [matOf] at he
  | some z =>
    obtain ⟨j, hj, rfl⟩ := h z hz
    have he : e ∈ (P j).M := he
    refine List.mem_map.2 ⟨e, ?_, rfl⟩
    match j, hj with
    | 0, _ => simp [he]
    | 1, _ => simp [he]
    | 2, _ => simp [he]
end
/-- the answer -/
def Ans (Z : List (Option Pr)) (X : List Ix) : Prop := X.Pairwise (fun x y => ltI x y = true) ∧ ∀ t, t ∈ X ↔ ∃ v, viewOf (mats (lds Z)) t = some v ∧ v.df = true
theorem Ans.uniq {Z : List (Option Pr)} {X Y : List Ix} (h : Ans Z X) (k : Ans Z Y) : X = Y := rise_eq h.1 k.1 (fun t => by rw [h.2 t, k.2 t])
theorem Ans.len {Z : List (Option Pr)} {X : List Ix} {P : Nat → Ld} {R : Nat → Rd} (h : Ans Z X) (hz : Zok P R Z) : X.length ≤ (P 0).M.length + (P 1).M.length + (P 2).M.length := by
  rw [← keysP_len]
  refine nodup_len (h.1.imp fun {x y} hxy e => ?_) fun t ht => ?_
  · subst e; simp [ltI] at hxy
  · obtain ⟨v, hv, _⟩ := (h.2 t).1 ht
    rw [view_es] at hv
    cases hes : (mats (lds Z)).filterMap (fun M => outM M t) with
    | nil => rw [hes] at hv; cases hv
    | cons e r =>
      have he : e ∈ (mats (lds Z)).filterMap (fun M => outM M t) := by rw [hes]; simp
      obtain ⟨M, hM, ho⟩ := es_mem.1 he
      obtain ⟨k1, k2⟩ := outM_some ho
      rw [← k2]; exact hz.within M hM e k1
theorem zdiffer {W : World} {bk : Nat} {P : Nat → Ld} {R : Nat → Rd} {Z : List (Option Pr)} {a : Option Addr} {n c : Nat} (S : St W bk P R) (hz : Zok P R Z) (hrow : RowC none (fun d => [ptv d]) 1 W a (lds Z)) (hn : Z.length = n) (hl : n ≤ 9223372036854775807) (hlen : (P 0).M.length + (P 1).M.length + (P 2).M.length ≤ 3518437208882) :
    Calls Try.prog 18 #[.slice a n c] W fun r w' => ∃ (a' : Option Addr) (n' c' : Nat) (X : List Ix), r = .returned (.slice a' n' c') ∧ Hid (X.length = n') ∧ Hid (OwnX W.heap.size w' (.slice a' n' c') n' X) ∧ Hid (Ans Z X) ∧ Hid (Below W.heap.size W w') :=
  (differ_isW (K := keysP P) hrow (by simpa using hn) hl (fun d hd => by
    obtain ⟨z, hz', e⟩ := List.mem_map.1 hd
    cases z with
    | none => cases e
    | some z => injection e with e; subst e; exact (hz.ok S hz').L) hz.within (by rw [keysP_len]; omega)).mono fun r w' ⟨a', n', c', X, h1, h2, h3, h4, h5, h6⟩ => ⟨a', n', c', X, h1, h2, h3, ⟨h4.out, h5.out⟩, h6⟩
theorem zrdiffer {W : World} {bk : Nat} {P : Nat → Ld} {R : Nat → Rd} {Z : List (Option Pr)} {a : Option Addr} {n c : Nat} (S : St W bk P R) (hz : Zok P R Z) (hrow : RowC none (fun d => [ptr d]) 1 W a (rds Z)) (hn : Z.length = n) (hl : n ≤ 9223372036854775807) (hlen : (P 0).M.length + (P 1).M.length + (P 2).M.length ≤ 3518437208882) :
    Calls Try.prog 85 #[.slice a n c] W fun r w' => ∃ (a' : Option Addr) (n' c' : Nat) (X : List Ix), r = .returned (.slice a' n' c') ∧ Hid (X.length = n') ∧ Hid (OwnX W.heap.size w' (.slice a' n' c') n' X) ∧ Hid (Ans Z X) ∧ Hid (Below W.heap.size W w') :=
  (rdiffer_is (K := keysP P) hrow (by simpa using hn) hl (fun d hd => by
    obtain ⟨z, hz', e⟩ := List.mem_map.1 hd
    cases z with
    | none => cases e
    | some z => injection e with e; subst e; exact (hz.ok S hz').D) (hz.nodup S) (by rw [← hz.mats S]; exact hz.within) (by rw [keysP_len]; omega)).mono fun r w' ⟨a', n', c', X, h1, h2, h3, h4, h5, h6⟩ => ⟨a', n', c', X, h1, h2, h3, ⟨h4.out, fun t => by rw [hz.mats S]; exact h5.out t⟩, h6⟩
/-- the same, the answer known -/
theorem zdiffer_at {W : World} {bk k : Nat} {P : Nat → Ld} {R : Nat → Rd} {Z : List (Option Pr)} {X : List Ix} {a : Option Addr} {n c : Nat} (S : St W bk P R) (hz : Zok P R Z) (hrow : RowC none (fun d => [ptv d]) 1 W a (lds Z)) (hn : Z.length = n) (hl : n ≤ 9223372036854775807) (hlen : (P 0).M.length + (P 1).M.length + (P 2).M.length ≤ 3518437208882) (hA : Ans Z X) (hk : X.length = k) :
    Calls Try.prog 18 #[.slice a n c] W fun r w' => ∃ (a' : Option Addr) (c' : Nat), r = .returned (.slice a' k c') ∧ Hid (OwnX W.heap.size w' (.slice a' k c') k X) ∧ Hid (Below W.heap.size W w') :=
  (zdiffer S hz hrow hn hl hlen).mono fun r w' ⟨a', n', c', X', h1, h2, h3, h4, h5⟩ => by
    have e : X' = X := h4.out.uniq hA
    subst e
    have e2 : n' = k := by rw [← h2.out, hk]
    subst e2
    exact ⟨a', c', h1, h3, h5⟩
theorem zrdiffer_at {W : World} {bk k : Nat} {P : Nat → Ld} {R : Nat → Rd} {Z : List (Option Pr)} {X : List Ix} {a : Option Addr} {n c : Nat} (S : St W bk P R) (hz : Zok P R Z) (hrow : RowC none (fun d => [ptr d]) 1 W a (rds Z)) (hn : Z.length = n) (hl : n ≤ 9223372036854775807) (hlen : (P 0).M.length + (P 1).M.length + (P 2).M.length ≤ 3518437208882) (hA : Ans Z X) (hk : X.length = k) :
    Calls Try.prog 85 #[.slice a n c] W fun r w' => ∃ (a' : Option Addr) (c' : Nat), r = .returned (.slice a' k c') ∧ Hid (OwnX W.heap.size w' (.slice a' k c') k X) ∧ Hid (Below W.heap.size W w') :=
  (zrdiffer S hz hrow hn hl hlen).mono fun r w' ⟨a', n', c', X', h1, h2, h3, h4, h5⟩ => by
    have e : X' = X := h4.out.uniq hA
    subst e
    have e2 : n' = k := by rw [← h2.out, hk]
    subst e2
    exact ⟨a', c', h1, h3, h5⟩
/-- the row with its first ledger taken out -/
def headN (Z : List (Option Pr)) : List (Option Pr) := match Z with | [] => [] | _ :: t => none :: t
theorem headN_ok {P : Nat → Ld} {R : Nat → Rd} {Z : List (Option Pr)} (h : Zok P R Z) : Zok P R (headN Z) := fun z hz => by
  cases Z with
  | nil => simp [headN] at hz
  | cons x t =>
    simp only [headN, List.mem_cons] at hz
    rcases hz with hz | hz
    · cases hz
    · exact h z (List.mem_cons_of_mem _ hz)
theorem headN_len (Z : List (Option Pr)) : (headN Z).length = Z.length := by cases Z <;> rfl
theorem headN_lds {Z : List (Option Pr)} (h : 0 < Z.length) (r : List Value) : ((lds Z).map ptv ++ r).set 0 (.pointer none) = (lds (headN Z)).map ptv ++ r := by
  cases Z with
  | nil => simp at h
  | cons x t => rfl
theorem headN_rds {Z : List (Option Pr)} (h : 0 < Z.length) : ((rds Z).map ptr).set 0 (.pointer none) = (rds (headN Z)).map ptr := by
  cases Z with
  | nil => simp at h
  | cons x t => rfl
theorem own_below {w w' : World} {B e size n : Nat} {v : Value} {xs : List Value} (h : w.ownsRow B e size v n xs) (hb : Below w.heap.size w w') : w'.ownsRow B e size v n xs := owns_keep h fun g hg => hb.block g (h.lt g hg).2
theorem own_head {w : World} {B n : Nat} {a : Option Addr} {c size : Nat} {e : TypeId} {xs : List Value} (h : w.ownsRow B e size (.slice a n c) n xs) (hn : 0 < n) : ∃ g, a = some ⟨g, 0, none⟩ ∧ B ≤ g ∧ n ≤ c ∧ g < w.heap.size ∧ ∀ j v, xs[j]? = some v → w.cell? ⟨g, j, none⟩ = some v := by
  obtain ⟨g', e', hb, hc⟩ := own_cells h hn
  rcases h.2 with ⟨k1, k2⟩ | ⟨g2, cap2, cur, k1, k2, k3, k4, k5⟩
  · omega
  · injection k1 with k6 k7 k8
    have e2 : g2 = g' := by rw [e'] at k6; injection k6 with k6; injection k6 with k6; exact k6.symm
    subst e2
    exact ⟨g2, e', hb, by omega, (Array.getElem?_eq_some_iff.1 k3).1, hc⟩
end Go.Proofs.Ytogjhpknlopajaa.Lg
