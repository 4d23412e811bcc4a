import Derived.Test.YtodolbekbeccbabSort
import Derived.Test.YtodolbekbeccbabRefSort
import Derived.Test.YtodolbekbeccbabApart
import Derived.Test.YtodolbekbeccbabCut
import Derived.Test.YtodolbekbeccbabSame
namespace Go.Proofs.Ytodolbekbeccbab
open Go.RowKit Go.Sort
set_option linter.unusedVariables false

theorem same_is {a a' : Option Addr} {c c' n : Nat} {xs : List St} {w : World} (hn : xs.length = n) (h : Row w a xs) (h' : Row w a' xs) (hl : n * 16 ≤ 140737488351232) :
    Calls Try.prog 16 #[.slice a n c, .slice a' n c'] w fun e w' => e = .returned (.bool true) ∧ Below w.heap.size w w' := by
  subst hn; exact same_any a a' c c' xs w h h' (by omega)
theorem refsort_is {a : Option Addr} {c n : Nat} {xs : List St} {w : World} (hn : xs.length = n) (h : Row w a xs) (hl : n * 16 ≤ 140737488351232) :
    Calls Try.prog 14 #[.slice a n c] w fun e w' => ∃ v, e = .returned v ∧ w'.ownsRow w.heap.size 25 3 v n (flat (srt xs)) ∧ Below w.heap.size w w' := by
  subst hn; exact refsort_any a c xs w h hl

/-- a row that is our own, as a row that is read -/
theorem row_of_owns_n {w : World} {base n : Nat} {v : Value} {xs : List St} (hn : xs.length = n) (h : w.ownsRow base 25 3 v n (flat xs)) : ∃ a c, v = .slice a n c ∧ Row w a xs := by
  subst hn; exact row_of_owns h
theorem row_full {w : World} {g : Nat} {xs : List St} (h : w.heap[g]? = some (.cells (flat xs).toArray 25 (0, 0))) : Row w (some ⟨g, 0, none⟩) xs := fun i hi => by
  obtain ⟨f0, f1, f2⟩ := flat_at xs i hi
  refine ⟨g, 0, rfl, ?_, ?_, ?_⟩
  · simp only [Nat.zero_add]; rw [← f0]; simp [World.cell?, h]
  · simp only [Nat.zero_add]; rw [← f1]; simp [World.cell?, h]
  · simp only [Nat.zero_add]; rw [← f2]; simp [World.cell?, h]

theorem given_row {w : World} {bs g M n : Nat} {f : Nat → St} {xs : List St} (h : w.ownsRow bs 25 3 (.slice (some ⟨g, 0, none⟩) M M) M (flat (tab M f))) (hn : n < M) (hx : xs = tab n f) : Row w (some ⟨g, 0, none⟩) xs := by
  rw [hx]; exact (row_of_owns_at h).cut (Nat.le_of_lt hn)
theorem owns_under {w w' : World} {bs B g M n : Nat} {e : TypeId} {size : Nat} {xs : List Value} (h : w.ownsRow bs e size (.slice (some ⟨g, 0, none⟩) n M) n xs) (hb : Below B w w') (hg : g < B) : w'.ownsRow bs e size (.slice (some ⟨g, 0, none⟩) n M) n xs := by
  obtain ⟨h1, ⟨h2, h3⟩ | ⟨g', cap, cur, h2, h3, h4, h5⟩⟩ := h
  · exact ⟨h1, .inl ⟨h2, h3⟩⟩
  · refine ⟨h1, .inr ⟨g', cap, cur, h2, h3, ?_, h5⟩⟩
    injection h2 with e1 _ _
    injection e1 with e1
    injection e1 with e1 _ _
    subst e1
    rw [hb.block g hg]; exact h4
theorem heap_later {w w' : World} {g : Nat} {o : Obj} (h : w.heap[g]? = some o) (hb : Below w.heap.size w w') : w'.heap[g]? = some o := by
  rw [hb.block g (Array.getElem?_eq_some_iff.1 h).1]; exact h
theorem heap_lt {w : World} {g : Nat} {o : Obj} (h : w.heap[g]? = some o) : g < w.heap.size := (Array.getElem?_eq_some_iff.1 h).1

/-- a full row of n stamps lies in block g -/
def FullAt (w : World) (g n : Nat) : Prop := ∃ xs : List St, xs.length = n ∧ w.heap[g]? = some (.cells (flat xs).toArray 25 (0, 0))
theorem FullAt.later {w w' : World} {g n : Nat} (h : FullAt w g n) (hb : Below w.heap.size w w') : FullAt w' g n := by
  obtain ⟨xs, h1, h2⟩ := h
  exact ⟨xs, h1, by rw [hb.block g (Array.getElem?_eq_some_iff.1 h2).1]; exact h2⟩
theorem FullAt.lt {w : World} {g n : Nat} (h : FullAt w g n) : g < w.heap.size := by
  obtain ⟨xs, h1, h2⟩ := h
  exact (Array.getElem?_eq_some_iff.1 h2).1
theorem full_of_owns {w : World} {base g n : Nat} {xs : List St} (hn : xs.length = n) (h : w.ownsRow base 25 3 (.slice (some ⟨g, 0, none⟩) n n) n (flat xs)) : FullAt w g n := ⟨xs, hn, (owns_full hn h).2.2⟩

theorem tab_nth {xs : List St} {n : Nat} (h : xs.length = n) : tab n (nth xs) = xs := by rw [← h]; exact (tab_of_list xs).symm

def pick5 (a b c d e : Nat) : Nat → Nat
  | 0 => a
  | 1 => b
  | 2 => c
  | 3 => d
  | _ => e

theorem apart5 (B n : Nat) (w : World) (g0 g1 g2 g3 g4 : Nat) (f0 : FullAt w g0 n) (f1 : FullAt w g1 n) (f2 : FullAt w g2 3) (f3 : FullAt w g3 0) (f4 : FullAt w g4 0) (hB : B ≤ g0) (h1 : g0 < g1) (h2 : g1 < g2) (h3 : g2 < g3) (h4 : g3 < g4) (hl : n * 16 ≤ 140737488351232) :
    Calls Try.prog 17 #[.slice (some ⟨w.heap.size, 0, none⟩) 5 5] (w.alloc (.cells #[.slice (some ⟨g0, 0, none⟩) n n, .slice (some ⟨g1, 0, none⟩) n n, .slice (some ⟨g2, 0, none⟩) 3 3, .slice (some ⟨g3, 0, none⟩) 0 0, .slice (some ⟨g4, 0, none⟩) 0 0] 31)) fun e w' => e = .returned (.bool true) ∧ Below B w w' := by
  have l4 := f4.lt
  have hal : Below w.heap.size w (w.alloc (.cells #[.slice (some ⟨g0, 0, none⟩) n n, .slice (some ⟨g1, 0, none⟩) n n, .slice (some ⟨g2, 0, none⟩) 3 3, .slice (some ⟨g3, 0, none⟩) 0 0, .slice (some ⟨g4, 0, none⟩) 0 0] 31)) := Below.al (Below.refl _ _) _
  obtain ⟨x0, e0, c0⟩ := f0.later hal
  obtain ⟨x1, e1, c1⟩ := f1.later hal
  obtain ⟨x2, e2, c2⟩ := f2.later hal
  obtain ⟨x3, e3, c3⟩ := f3.later hal
  obtain ⟨x4, e4, c4⟩ := f4.later hal
  have m5 : ∀ {p : Nat → Prop}, p 0 → p 1 → p 2 → p 3 → p 4 → ∀ i, i < 5 → p i := fun {p} a b c d e i hi => by
    match i, hi with
    | 0, _ => exact a
    | 1, _ => exact b
    | 2, _ => exact c
    | 3, _ => exact d
    | 4, _ => exact e
  refine (apart_any B w.heap.size 5 5 (pick5 g0 g1 g2 g3 g4) (pick5 n n 3 0 0) (fun i => nth (match i with | 0 => x0 | 1 => x1 | 2 => x2 | 3 => x3 | _ => x4)) _ (m5 ?_ ?_ ?_ ?_ ?_) (m5 ?_ ?_ ?_ ?_ ?_) ?_ (m5 ?_ ?_ ?_ ?_ ?_) (m5 ?_ ?_ ?_ ?_ ?_) ?_ (m5 ?_ ?_ ?_ ?_ ?_) (by decide)).mono fun e w' h => ⟨h.1, (hal.mono (by omega)).trans h.2⟩
  · simp [go_sem, pick5]
  · simp [go_sem, pick5]
  · simp [go_sem, pick5]
  · simp [go_sem, pick5]
  · simp [go_sem, pick5]
  · show _ = some (Obj.cells (flat (tab n (nth x0))).toArray _ _); rw [tab_nth e0]; exact c0
  · show _ = some (Obj.cells (flat (tab n (nth x1))).toArray _ _); rw [tab_nth e1]; exact c1
  · show _ = some (Obj.cells (flat (tab 3 (nth x2))).toArray _ _); rw [tab_nth e2]; exact c2
  · show _ = some (Obj.cells (flat (tab 0 (nth x3))).toArray _ _); rw [tab_nth e3]; exact c3
  · show _ = some (Obj.cells (flat (tab 0 (nth x4))).toArray _ _); rw [tab_nth e4]; exact c4
  · intro i j hi hj
    revert j
    revert i
    refine m5 ?_ ?_ ?_ ?_ ?_ <;> (refine fun j hj => ?_; revert j; refine m5 ?_ ?_ ?_ ?_ ?_ <;> (simp only [pick5]; intro e; omega))
  · simp only [pick5]; omega
  · simp only [pick5]; omega
  · simp only [pick5]; omega
  · simp only [pick5]; omega
  · simp only [pick5]; omega
  · simp only [pick5]; omega
  · simp only [pick5]; omega
  · simp only [pick5]; omega
  · simp only [pick5]; omega
  · simp only [pick5]; omega
  · have := hal.size; omega
  · simp only [pick5]; omega
  · simp only [pick5]; omega
  · simp only [pick5]; omega
  · simp only [pick5]; omega
  · simp only [pick5]; omega

theorem srt321 : srt [⟨3, 0, 0⟩, ⟨2, 0, 0⟩, ⟨1, 0, 0⟩] = [⟨1, 0, 0⟩, ⟨2, 0, 0⟩, ⟨3, 0, 0⟩] := by
  refine (eq_srt ?_ ?_).symm
  · exact List.reverse_perm ([⟨3, 0, 0⟩, ⟨2, 0, 0⟩, ⟨1, 0, 0⟩] : List St)
  · simp [leS, St.less, lessB]

end Go.Proofs.Ytodolbekbeccbab
