import Derived.Test.YtggmhodogfngdaaDoorGtItoa
/- The statuses' names: the document's function. -/
namespace Go.Proofs.YtggmhodogfngdaaDoor.Gt
open Go.Proofs.YtggmhodogfngdaaDoor Go.Proofs.YtggmhodogfngdaaDoor.Rt Go.RowKit Go.Sort
set_option linter.unusedVariables false

def codC : Array Value := #[.int .i64 1, .int .i64 11, .int .i64 40, .int .i64 60, .int .i64 90, .int .i64 100, .int .i64 140, .int .i64 141, .int .i64 142, .int .i64 160, .int .i64 161, .int .i64 162, .int .i64 163, .int .i64 164, .int .i64 210]
def namC : Array Value := #[.string ⟨#[97, 114, 103]⟩, .string ⟨#[101, 120, 104, 97, 117, 115, 116, 101, 100]⟩, .string ⟨#[116, 111, 107, 101, 110]⟩, .string ⟨#[102, 117, 108, 108]⟩, .string ⟨#[111, 108, 100]⟩, .string ⟨#[99, 111, 110, 102, 108, 105, 99, 116]⟩, .string ⟨#[98, 117, 115, 121]⟩, .string ⟨#[115, 116, 97, 108, 101]⟩, .string ⟨#[109, 97, 110, 121]⟩, .string ⟨#[111, 112, 101, 110]⟩, .string ⟨#[110, 111, 110, 101]⟩, .string ⟨#[119, 97, 105, 116]⟩, .string ⟨#[114, 101, 97, 100, 111, 110, 108, 121]⟩, .string ⟨#[97, 98, 111, 114, 116, 101, 100]⟩, .string ⟨#[114, 101, 113, 117, 101, 115, 116]⟩]
theorem codC_at : ∀ k : Nat, k < 15 → codC[k]? = some (.int .i64 ((tabN.getD k (0, [])).1 : Int))
  | 0, _ => rfl
  | 1, _ => rfl
  | 2, _ => rfl
  | 3, _ => rfl
  | 4, _ => rfl
  | 5, _ => rfl
  | 6, _ => rfl
  | 7, _ => rfl
  | 8, _ => rfl
  | 9, _ => rfl
  | 10, _ => rfl
  | 11, _ => rfl
  | 12, _ => rfl
  | 13, _ => rfl
  | 14, _ => rfl
  | k + 15, h => absurd h (by omega)
theorem namC_at : ∀ k : Nat, k < 15 → namC[k]? = some (.string (ofNats (tabN.getD k (0, [])).2))
  | 0, _ => rfl
  | 1, _ => rfl
  | 2, _ => rfl
  | 3, _ => rfl
  | 4, _ => rfl
  | 5, _ => rfl
  | 6, _ => rfl
  | 7, _ => rfl
  | 8, _ => rfl
  | 9, _ => rfl
  | 10, _ => rfl
  | 11, _ => rfl
  | 12, _ => rfl
  | 13, _ => rfl
  | 14, _ => rfl
  | k + 15, h => absurd h (by omega)
theorem two_cells (w : World) (cs ds : Array Value) (T U : TypeId) (k : Nat) : ((w.alloc (.cells cs T)).alloc (.cells ds U)).cell? ⟨w.heap.size, k, none⟩ = cs[k]? ∧ ((w.alloc (.cells cs T)).alloc (.cells ds U)).cell? ⟨w.heap.size + 1, k, none⟩ = ds[k]? := by
  constructor
  · have h : ((w.alloc (.cells cs T)).alloc (.cells ds U)).heap[w.heap.size]? = some (.cells cs T (0, 0)) := by rw [Below.heap_alloc _ _ _ (by simp)]; exact heap_alloc_new w _
    rw [Lib.cell_of_heap h]
  · have h : ((w.alloc (.cells cs T)).alloc (.cells ds U)).heap[w.heap.size + 1]? = some (.cells ds U (0, 0)) := by
      have h := heap_alloc_new (w.alloc (.cells cs T)) (.cells ds U)
      simpa using h
    rw [Lib.cell_of_heap h]

set_option maxHeartbeats 2000000 in
set_option maxRecDepth 100000 in
theorem rname_is {e : Int} (h0 : -9223372036854775808 ≤ e) (h1 : e ≤ 9223372036854775807) (w : World) (ht : PowTab w) :
    Calls Tryd.prog 18 #[.int .i64 e] w fun r w' => r = .returned (.string (ofNats (nameL e))) ∧ Below w.heap.size w w' := by
  have HT := hid ht
  clear ht
  go_enter Tryd.func18, Tryd.ntmps18
  go_wp2_with fail
  go_loopg [5] 15 (fun g s5 wr => ∃ k : Nat, k ≤ 15 ∧ g = 15 - k ∧ s5 = .int .i64 k ∧ Hid (Below w.heap.size w wr) ∧ Hid (∀ k : Nat, k < 15 → wr.cell? ⟨w.heap.size, k, none⟩ = some (.int .i64 ((tabN.getD k (0, [])).1 : Int)) ∧ wr.cell? ⟨w.heap.size + 1, k, none⟩ = some (.string (ofNats (tabN.getD k (0, [])).2))) ∧ Hid (look (tabN.drop k) e = nameL e))
  case atStart => exact ⟨0, by omega, by omega, rfl, hid (Below.al (Below.al (Below.refl _ _) _) _), hid (fun k hk => ⟨((two_cells w codC namC _ _ k).1).trans (codC_at k hk), ((two_cells w codC namC _ _ k).2).trans (namC_at k hk)⟩), hid rfl⟩
  case round =>
    obtain ⟨k, hk, rfl, rfl, HB, HC, HL⟩ := hrel
    by_cases hlt : k < 15
    · obtain ⟨hc1, hc2⟩ := HC.out k hlt
      have HS : Hid (look (tabN.drop k) e = if ((tabN.getD k (0, [])).1 : Int) = e then (tabN.getD k (0, [])).2 else look (tabN.drop (k + 1)) e) := hid (by
        have hk' : k < tabN.length := hlt
        rw [look_step hk' e]
        simp [List.getD_eq_getElem?_getD, List.getElem?_eq_getElem hk'])
      generalize (tabN.getD k (0, [])).1 = c at hc1 hc2 HS
      generalize (tabN.getD k (0, [])).2 = nm at hc1 hc2 HS
      by_cases hq : (c : Int) = e
      · have HR : Hid (nm = nameL e) := hid (by rw [← HL.out, HS.out, if_pos hq])
        go_wp2_with fail
        go_ret
        exact ⟨by rw [HR.out]; rfl, HB.out⟩
      · have HL' : Hid (look (tabN.drop (k + 1)) e = nameL e) := hid (by rw [← HL.out, HS.out, if_neg hq])
        go_wp2_with fail
        go_roundg (15 - (k + 1))
        case measure => omega
        case rel => exact ⟨k + 1, by omega, rfl, by go_num, HB, HC, HL'⟩
    · obtain rfl : k = 15 := by omega
      have HR : Hid (decI e = nameL e) := hid HL.out
      go_wp2_with fail
      refine (itoa_all h0 h1 _ (HT.out.later HB.out)).mono ?_
      rintro r w2 ⟨rfl, hb⟩
      have HB2 := hid hb
      clear hb
      go_wp2_with fail
      go_ret
      exact ⟨by rw [HR.out]; rfl, Below.on HB.out HB2.out⟩

end Go.Proofs.YtggmhodogfngdaaDoor.Gt
