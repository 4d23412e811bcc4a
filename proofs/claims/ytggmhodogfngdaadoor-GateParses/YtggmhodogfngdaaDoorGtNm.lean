import Derived.Test.YtggmhodogfngdaaDoorGtOps
import Derived.Test.YtggmhodogfngdaaDoorGtR
import Derived.Test.YtggmhodogfngdaaDoorText
/- The statuses' names: the program's and the document's. -/
namespace Go.Proofs.YtggmhodogfngdaaDoor.Gt
open Go.Proofs.YtggmhodogfngdaaDoor Go.Proofs.YtggmhodogfngdaaDoor.Rt Go.RowKit Go.Sort
set_option linter.unusedVariables false

def tabN : List (Nat × List Nat) := [(1, [97, 114, 103]), (11, [101, 120, 104, 97, 117, 115, 116, 101, 100]), (40, [116, 111, 107, 101, 110]), (60, [102, 117, 108, 108]), (90, [111, 108, 100]), (100, [99, 111, 110, 102, 108, 105, 99, 116]), (140, [98, 117, 115, 121]), (141, [115, 116, 97, 108, 101]), (142, [109, 97, 110, 121]), (160, [111, 112, 101, 110]), (161, [110, 111, 110, 101]), (162, [119, 97, 105, 116]), (163, [114, 101, 97, 100, 111, 110, 108, 121]), (164, [97, 98, 111, 114, 116, 101, 100]), (210, [114, 101, 113, 117, 101, 115, 116])]
/-- the first name of the status in the list, or its number -/
def look : List (Nat × List Nat) → Int → List Nat
  | [], e => decI e
  | x :: l, e => if (x.1 : Int) = e then x.2 else look l e
def nameL (e : Int) : List Nat := look tabN e
theorem look_cases : ∀ (l : List (Nat × List Nat)) (e : Int), look l e = decI e ∨ ∃ x ∈ l, look l e = x.2
  | [], e => .inl rfl
  | x :: l, e => by
    unfold look
    split
    · exact .inr ⟨x, by simp, rfl⟩
    · rcases look_cases l e with h | ⟨y, hy, h⟩
      · exact .inl h
      · exact .inr ⟨y, by simp [hy], h⟩
theorem tab_ok : ∀ x ∈ tabN, x.2.length ≤ 21 ∧ x.2.all (fun b => decide (32 ≤ b ∧ b ≤ 126)) = true := by decide
theorem decN_le {u : Nat} (h : u < 18446744073709551616) : (decN u).length ≤ 20 := by
  have := dec_le h
  simpa [dec, decN, ByteArray.size] using this
theorem decI_le {e : Int} (h0 : -9223372036854775808 ≤ e) (h1 : e ≤ 9223372036854775807) : (decI e).length ≤ 21 := by
  unfold decI
  split
  · have := decN_le (u := (-e).toNat) (by omega); simp; omega
  · have := decN_le (u := e.toNat) (by omega); omega
theorem vis_name (e : Int) : Vis (nameL e) := by
  rcases look_cases tabN e with h | ⟨x, hx, h⟩
  · unfold nameL; rw [h]; exact vis_decI e
  · unfold nameL; rw [h]
    have := (tab_ok x hx).2
    intro b hb
    have := List.all_eq_true.1 this b hb
    simpa using this
theorem name_le {e : Int} (h0 : -9223372036854775808 ≤ e) (h1 : e ≤ 9223372036854775807) : (nameL e).length ≤ 21 := by
  rcases look_cases tabN e with h | ⟨x, hx, h⟩
  · unfold nameL; rw [h]; exact decI_le h0 h1
  · unfold nameL; rw [h]; exact (tab_ok x hx).1
theorem b8_vis {l : List Nat} (h : Vis l) : B8 l := fun b hb => by have := h b hb; omega
theorem map_back : ∀ l : List UInt8, l.map (UInt8.ofNat ∘ fun x => x.toNat) = l
  | [] => rfl
  | a :: l => by simp [map_back l]
theorem dec_nats (u : Nat) : dec u = ofNats (decN u) := by
  simp [dec, ofNats, decN, map_back]
theorem itoa_nats (e : Int) : (⟨(Lib.itoa e).toArray⟩ : ByteArray) = ofNats (decI e) := by
  unfold Lib.itoa decI
  by_cases h : e < 0
  · have : e.natAbs = (-e).toNat := by omega
    simp [h, ofNats, decN, this, map_back]
  · simp [h, ofNats, decN, map_back]
theorem look_step {k : Nat} (hk : k < tabN.length) (e : Int) : look (tabN.drop k) e = if ((tabN[k]).1 : Int) = e then (tabN[k]).2 else look (tabN.drop (k + 1)) e := by
  rw [List.drop_eq_getElem_cons hk]
  rfl

def tabC : List Value := [.int .i64 1, .string ⟨#[97, 114, 103]⟩, .int .i64 11, .string ⟨#[101, 120, 104, 97, 117, 115, 116, 101, 100]⟩, .int .i64 40, .string ⟨#[116, 111, 107, 101, 110]⟩, .int .i64 60, .string ⟨#[102, 117, 108, 108]⟩, .int .i64 90, .string ⟨#[111, 108, 100]⟩, .int .i64 100, .string ⟨#[99, 111, 110, 102, 108, 105, 99, 116]⟩, .int .i64 140, .string ⟨#[98, 117, 115, 121]⟩, .int .i64 141, .string ⟨#[115, 116, 97, 108, 101]⟩, .int .i64 142, .string ⟨#[109, 97, 110, 121]⟩, .int .i64 160, .string ⟨#[111, 112, 101, 110]⟩, .int .i64 161, .string ⟨#[110, 111, 110, 101]⟩, .int .i64 162, .string ⟨#[119, 97, 105, 116]⟩, .int .i64 163, .string ⟨#[114, 101, 97, 100, 111, 110, 108, 121]⟩, .int .i64 164, .string ⟨#[97, 98, 111, 114, 116, 101, 100]⟩, .int .i64 210, .string ⟨#[114, 101, 113, 117, 101, 115, 116]⟩]
/-- the program's table of names lies where it lay at the outset -/
def NmTab (w : World) : Prop := ∀ j v, tabC[j]? = some v → w.cell? ⟨0, j, none⟩ = some v
theorem NmTab.later {w w' : World} (h : NmTab w) (hs : 0 < w.heap.size) (hb : Below w.heap.size w w') : NmTab w' := fun j v hj => by
  rw [hb.cell hs]; exact h j v hj
theorem infoNm : (Tryd.prog.info? 62).map (·.size) = some 30 := by kernel_rfl
theorem codes_at : ∀ k : Fin 15, tabC[2 * k.val]? = some (.int .i64 ((tabN.getD k.val (0, [])).1 : Int)) := by
  intro k; match k with
  | ⟨0, _⟩ => rfl
  | ⟨1, _⟩ => rfl
  | ⟨2, _⟩ => rfl
  | ⟨3, _⟩ => rfl
  | ⟨4, _⟩ => rfl
  | ⟨5, _⟩ => rfl
  | ⟨6, _⟩ => rfl
  | ⟨7, _⟩ => rfl
  | ⟨8, _⟩ => rfl
  | ⟨9, _⟩ => rfl
  | ⟨10, _⟩ => rfl
  | ⟨11, _⟩ => rfl
  | ⟨12, _⟩ => rfl
  | ⟨13, _⟩ => rfl
  | ⟨14, _⟩ => rfl
theorem names_at : ∀ k : Fin 15, tabC[2 * k.val + 1]? = some (.string (ofNats (tabN.getD k.val (0, [])).2)) := by
  intro k; match k with
  | ⟨0, _⟩ => rfl
  | ⟨1, _⟩ => rfl
  | ⟨2, _⟩ => rfl
  | ⟨3, _⟩ => rfl
  | ⟨4, _⟩ => rfl
  | ⟨5, _⟩ => rfl
  | ⟨6, _⟩ => rfl
  | ⟨7, _⟩ => rfl
  | ⟨8, _⟩ => rfl
  | ⟨9, _⟩ => rfl
  | ⟨10, _⟩ => rfl
  | ⟨11, _⟩ => rfl
  | ⟨12, _⟩ => rfl
  | ⟨13, _⟩ => rfl
  | ⟨14, _⟩ => rfl

theorem index_nm (w : World) : ∀ k : Nat, k < 15 → (Instr.index 62 (.agg tabC.toArray) (.int .i64 (k : Int))).run Tryd.prog w = .ok (.agg #[.int .i64 ((tabN.getD k (0, [])).1 : Int), .string (ofNats (tabN.getD k (0, [])).2)]) w
  | 0, _ => by kernel_rfl
  | 1, _ => by kernel_rfl
  | 2, _ => by kernel_rfl
  | 3, _ => by kernel_rfl
  | 4, _ => by kernel_rfl
  | 5, _ => by kernel_rfl
  | 6, _ => by kernel_rfl
  | 7, _ => by kernel_rfl
  | 8, _ => by kernel_rfl
  | 9, _ => by kernel_rfl
  | 10, _ => by kernel_rfl
  | 11, _ => by kernel_rfl
  | 12, _ => by kernel_rfl
  | 13, _ => by kernel_rfl
  | 14, _ => by kernel_rfl
  | k + 15, h => absurd h (by omega)

end Go.Proofs.YtggmhodogfngdaaDoor.Gt
