import Derived.Test.YtchfoipkaookmabDoorWPut
import Derived.Test.YtchfoipkaookmabDoorWGather
namespace Go.Proofs.YtchfoipkaookmabDoor
open Go.RowKit Go.Sort
set_option linter.unusedVariables false

/-- a row of items -/
def IRow (w : World) (a : Option Addr) (xs : List It) : Prop := ∀ i x, xs[i]? = some x → x.ok w ∧ ∃ b off, a = some ⟨b, off, none⟩ ∧ w.cell? ⟨b, off + i * 7, none⟩ = some (.int .i64 x.kind) ∧ w.cell? ⟨b, off + i * 7 + 1, none⟩ = some (.int .u64 (x.n : Int)) ∧ w.cell? ⟨b, off + i * 7 + 2, none⟩ = some (.string (ofNats x.s)) ∧ w.cell? ⟨b, off + i * 7 + 3, none⟩ = some (.slice x.a x.l.length x.cap)
  ∧ w.cell? ⟨b, off + i * 7 + 4, none⟩ = some (.int .u64 x.st.w) ∧ w.cell? ⟨b, off + i * 7 + 5, none⟩ = some (.int .u32 x.st.l) ∧ w.cell? ⟨b, off + i * 7 + 6, none⟩ = some (.int .u32 x.st.n)
theorem IRow.later {w w' : World} {a : Option Addr} {xs : List It} (h : IRow w a xs) (hb : Below w.heap.size w w') : IRow w' a xs := fun i x e => by
  obtain ⟨h1, b, off, h2, c0, c1, c2, c3, c4, c5, c6⟩ := h i x e
  exact ⟨h1.later hb, b, off, h2, cell_later hb c0, cell_later hb c1, cell_later hb c2, cell_later hb c3, cell_later hb c4, cell_later hb c5, cell_later hb c6⟩
def bulks (xs : List It) : Nat := (xs.map It.bulk).sum
def bytesOf (xs : List It) : List Nat := xs.flatMap It.bytes
theorem bulks_mem {xs : List It} {i : Nat} {x : It} (h : xs[i]? = some x) : bulks (xs.take i) + x.bulk ≤ bulks xs := by
  have hi : i < xs.length := by
    rcases Nat.lt_or_ge i xs.length with h1 | h1
    · exact h1
    · rw [List.getElem?_eq_none h1] at h; cases h
  rw [List.getElem?_eq_getElem hi] at h
  injection h with h
  have e : xs = xs.take i ++ ([x] ++ xs.drop (i + 1)) := by
    conv => lhs; rw [← List.take_append_drop i xs, List.drop_eq_getElem_cons hi, h]
    rfl
  conv => rhs; rw [e]
  simp [bulks]
theorem take_bytes {xs : List It} {i : Nat} {x : It} (h : xs[i]? = some x) : bytesOf (xs.take (i + 1)) = bytesOf (xs.take i) ++ x.bytes := by
  have hi : i < xs.length := by
    rcases Nat.lt_or_ge i xs.length with h1 | h1
    · exact h1
    · rw [List.getElem?_eq_none h1] at h; cases h
  rw [List.getElem?_eq_getElem hi] at h
  injection h with h
  rw [List.take_succ_eq_append_getElem hi, h]
  simp [bytesOf]
theorem bytes_bulks : ∀ {xs : List It}, (∀ x ∈ xs, x.n < 18446744073709551616) → bulks xs ≤ 1099511627776 → (bytesOf xs).length ≤ bulks xs
  | [], _, _ => by simp [bytesOf]
  | x :: xs, h, hb => by
    have hs : bulks (x :: xs) = x.bulk + bulks xs := by simp [bulks]
    have h1 := bytes_bulks (xs := xs) (fun y hy => h y (by simp [hy])) (by omega)
    have h2 := It.bytes_le (h x (by simp)) (by omega)
    have e : bytesOf (x :: xs) = x.bytes ++ bytesOf xs := by simp [bytesOf]
    rw [e, List.length_append]; omega
theorem IRow.nums {w : World} {a : Option Addr} {xs : List It} (h : IRow w a xs) : ∀ x ∈ xs, x.ok w := fun x hx => by
  obtain ⟨i, hi, e⟩ := List.getElem_of_mem hx
  exact (h i x (by rw [List.getElem?_eq_getElem hi, e])).1
theorem bulks_take (xs : List It) (i : Nat) : bulks (xs.take i) ≤ bulks xs := by
  have e : bulks xs = bulks (xs.take i) + bulks (xs.drop i) := by
    conv => lhs; rw [← List.take_append_drop i xs]
    unfold bulks; rw [List.map_append, List.sum_append]
  omega
theorem encAt_new (w : World) (T : TypeId) : EncAt (w.alloc (.cells #[.pointer none, .int .i64 0] T)) (fun k => k = w.heap.size) w.heap.size 0 [] := by
  refine ⟨rfl, ⟨[], rfl, trivial, fun x hx => by simp at hx, ?_⟩, ?_, fun o => by simp [go_sem]⟩
  · simp [go_sem, ptrOf]
  · simp [go_sem]

set_option maxHeartbeats 1000000 in
theorem added_any {w : World} {a : Option Addr} {cap : Nat} {xs : List It} (hr : IRow w a xs) (hn : xs.length ≤ 1099511627776) (hb : bulks xs ≤ 1099511627776) (hp : PowTab w) :
    Calls Tryd.prog 5 #[.slice a xs.length cap] w fun e w' => e = .returned (.string (ofNats (bytesOf xs))) ∧ Below w.heap.size w w' := by
  have E0 := hid (encAt_new w 48)
  obtain ⟨wa, hwa⟩ : ∃ wa, wa = w.alloc (.cells #[.pointer none, .int .i64 0] 48) := ⟨_, rfl⟩
  have hba : Below w.heap.size w wa := by rw [hwa]; exact Below.al (Below.refl _ _) _
  have hla : w.heap.size < wa.heap.size := by rw [hwa]; simp
  rw [← hwa] at E0
  have HWA := hid hwa
  have HBA := hid hba
  have HR := hid hr
  have HP := hid hp
  have HBK := hid hb
  clear hwa hba hr hp hb
  go_enter Tryd.func5, Tryd.ntmps5
  go_wp2_with fail
  rw [← HWA.out]
  go_loopg [4] xs.length (fun g s4 wr => ∃ k : Nat, k ≤ xs.length ∧ g = xs.length - k ∧ s4 = .int .i64 (k : Int) ∧ Hid (Cel w.heap.size 0 2 wa wr ∧ EncAt wr (fun k => k = w.heap.size) w.heap.size 0 (bytesOf (xs.take k))))
  case atStart => exact ⟨0, by omega, by omega, rfl, Cel.refl _ _ _ _, E0.out⟩
  case round =>
    obtain ⟨k, hk, rfl, rfl, HH⟩ := hrel
    have HB : Hid (Below w.heap.size w wr) := HBA.out.trans (HH.out.1.below (Nat.le_refl _) (Nat.le_of_lt hla))
    by_cases hlt : k < xs.length
    · obtain ⟨x, hx⟩ : ∃ x, xs[k]? = some x := ⟨_, List.getElem?_eq_getElem hlt⟩
      obtain ⟨hxo, c, off, rfl, c0, c1, c2, c3, c4, c5, c6⟩ := (HR.out.later HB.out) k x hx
      have HX := hid hxo
      have hbm := bulks_mem hx
      have HT := hid (take_bytes hx)
      have hlen := bytes_bulks (xs := xs.take k) (fun y hy => (HR.out.nums y (List.mem_of_mem_take hy)).n) (Nat.le_trans (bulks_take xs k) HBK.out)
      have HL : Hid ((bytesOf (xs.take k)).length + x.bulk ≤ 4611686018427387904) := (by have := HBK.out; show _ + _ ≤ _; omega)
      have k1 : (0 : Int) ≤ (k : Int) := by omega
      have k2 : (k : Int) < (xs.length : Int) := by omega
      clear hx hxo hbm hlen
      go_wp2_with fail
      refine (putI_any HX.out HH.out.2 (fun j hj => by rw [hj]; exact Nat.lt_of_lt_of_le hla HH.out.1.size) (HP.out.later HB.out) HL.out).mono ?_
      rintro e w1 ⟨rfl, hc1, he1⟩
      have HC1 := hid (HH.out.1.trans hc1)
      have HE1 := hid he1
      clear hc1 he1
      go_wp2_with fail
      go_roundg (xs.length - (k + 1))
      case measure => omega
      case rel => exact ⟨k + 1, by omega, rfl, by go_num, HC1.out, by rw [HT.out]; exact HE1.out⟩
    · obtain rfl : k = xs.length := by omega
      have hlen := bytes_bulks (xs := xs) (fun y hy => (HR.out.nums y hy).n) HBK.out
      have HLN : Hid ((bytesOf xs).length ≤ 281474976710656) := (by have := HBK.out; show _ ≤ _; omega)
      have HE : Hid (EncAt wr (fun k => k = w.heap.size) w.heap.size 0 (bytesOf xs)) := (by
        have := HH.out.2
        rw [List.take_of_length_le (Nat.le_refl _)] at this
        exact this)
      clear hlt hk hlen
      go_wp2_with fail
      refine (bytes_of HE.out HLN.out).mono ?_
      rintro e w1 ⟨rfl, hb1⟩
      go_wp2_with fail
      go_ret
      exact ⟨rfl, Below.on HB.out hb1⟩

end Go.Proofs.YtchfoipkaookmabDoor
