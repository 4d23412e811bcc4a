import Derived.Test.YtngnifemghahkaaGLeft
import Derived.Deep.DeepCutAuto
namespace Go.Proofs.Ytngnifemghahkaa
open Go.RowKit Go.Sort
set_option linter.unusedVariables false

theorem CellsW.setVal {w : World} {g n k : Nat} {f : Nat → Wr} (h : CellsW w g f n) (hk : k < n) (v : ByteArray) : CellsW (w.setCell ⟨g, k * 3 + 2, none⟩ (.string v)) g (Go.Proofs.Ytngnifemghahkaa.put f k { f k with val := v }) n := by
  intro i hi
  by_cases e : i = k
  · subst e
    rw [put_same]
    exact ⟨cell_setc (by simp) (h i hi).1, cell_setc (by simp) (h i hi).2.1, World.cell?_setCell_same _ _ _ (h i hi).2.2⟩
  · rw [put_other _ _ e]
    exact ⟨cell_setc (by simp only [ne_eq, Addr.mk.injEq]; omega) (h i hi).1, cell_setc (by simp only [ne_eq, Addr.mk.injEq]; omega) (h i hi).2.1, cell_setc (by simp only [ne_eq, Addr.mk.injEq]; omega) (h i hi).2.2⟩
theorem CellsW.setKey {w : World} {g n k : Nat} {f : Nat → Wr} (h : CellsW w g f n) (hk : k < n) (v : ByteArray) : CellsW (w.setCell ⟨g, k * 3, none⟩ (.string v)) g (Go.Proofs.Ytngnifemghahkaa.put f k { f k with key := v }) n := by
  intro i hi
  by_cases e : i = k
  · subst e
    rw [put_same]
    exact ⟨World.cell?_setCell_same _ _ _ (h i hi).1, cell_setc (by simp) (h i hi).2.1, cell_setc (by simp) (h i hi).2.2⟩
  · rw [put_other _ _ e]
    exact ⟨cell_setc (by simp only [ne_eq, Addr.mk.injEq]; omega) (h i hi).1, cell_setc (by simp only [ne_eq, Addr.mk.injEq]; omega) (h i hi).2.1, cell_setc (by simp only [ne_eq, Addr.mk.injEq]; omega) (h i hi).2.2⟩
/-- two lists in blocks of their own, and the box that names them -/
structure Ov (wa wr : World) (q g1 g2 n1 n2 : Nat) : Prop where
  b9 : wr.cell? ⟨q, 9, none⟩ = some (.slice (some ⟨g1, 0, none⟩) n1 (n1 + 1))
  b10 : wr.cell? ⟨q, 10, none⟩ = some (.slice (some ⟨g2, 0, none⟩) n2 (n2 + 1))
  r : ∃ f, Cells2 wr g1 f (n1 + 1)
  w : ∃ f, CellsW wr g2 f (n2 + 1)
  l1 : Loose wr g1
  l2 : Loose wr g2
  onl : Onl (fun k => k = g1 ∨ k = g2) wa wr
  ne : g1 ≠ g2
  nq1 : q ≠ g1
  nq2 : q ≠ g2
theorem Ov.val {wa wr : World} {q g1 g2 n1 n2 k : Nat} (h : Ov wa wr q g1 g2 n1 n2) (hk : k < n2 + 1) (v : ByteArray) : Ov wa (wr.setCell ⟨g2, k * 3 + 2, none⟩ (.string v)) q g1 g2 n1 n2 := by
  obtain ⟨f, hf⟩ := h.w
  obtain ⟨f', hf'⟩ := h.r
  have ho : Onl (fun b => b = g2) wr (wr.setCell ⟨g2, k * 3 + 2, none⟩ (.string v)) := (Onl.refl (fun b => b = g2) wr).set (p := g2) rfl _ _
  exact ⟨ho.cell h.nq2 h.b9, ho.cell h.nq2 h.b10, ⟨f', hf'.onl ho h.ne⟩, ⟨_, hf.setVal hk v⟩, h.l1.setc _ _, h.l2.setc _ _, h.onl.trans (ho.mono (fun b e => .inr e)), h.ne, h.nq1, h.nq2⟩
theorem Ov.key {wa wr : World} {q g1 g2 n1 n2 k : Nat} (h : Ov wa wr q g1 g2 n1 n2) (hk : k < n2 + 1) (v : ByteArray) : Ov wa (wr.setCell ⟨g2, k * 3, none⟩ (.string v)) q g1 g2 n1 n2 := by
  obtain ⟨f, hf⟩ := h.w
  obtain ⟨f', hf'⟩ := h.r
  have ho : Onl (fun b => b = g2) wr (wr.setCell ⟨g2, k * 3, none⟩ (.string v)) := (Onl.refl (fun b => b = g2) wr).set (p := g2) rfl _ _
  exact ⟨ho.cell h.nq2 h.b9, ho.cell h.nq2 h.b10, ⟨f', hf'.onl ho h.ne⟩, ⟨_, hf.setKey hk v⟩, h.l1.setc _ _, h.l2.setc _ _, h.onl.trans (ho.mono (fun b e => .inr e)), h.ne, h.nq1, h.nq2⟩
theorem Ov.span {wa wr : World} {q g1 g2 n1 n2 k : Nat} (h : Ov wa wr q g1 g2 n1 n2) (hk : k < n1 + 1) (y : T2) : Ov wa (set2 wr g1 k y) q g1 g2 n1 n2 := by
  obtain ⟨f, hf⟩ := h.w
  obtain ⟨f', hf'⟩ := h.r
  have ho := onl_set2 wr g1 k y
  exact ⟨ho.cell h.nq1 h.b9, ho.cell h.nq1 h.b10, ⟨_, hf'.put hk y⟩, ⟨f, hf.onl ho h.ne.symm⟩, (h.l1.setc _ _).setc _ _, (h.l2.setc _ _).setc _ _, h.onl.trans (ho.mono (fun b e => .inl e)), h.ne, h.nq1, h.nq2⟩
theorem Ov.drew {wa wr : World} {q g1 g2 n1 n2 : Nat} (h : Ov wa wr q g1 g2 n1 n2) : Ov wa wr.drew q g1 g2 n1 n2 := ⟨h.b9, h.b10, h.r, h.w, h.l1, h.l2, h.onl.drew, h.ne, h.nq1, h.nq2⟩
theorem row2_of {w : World} {g n : Nat} {f : Nat → T2} (h : Cells2 w g f n) (hn : 1 ≤ n) : ∃ xs : List T2, xs.length = n - 1 ∧ Row2 w (some ⟨g, 0, none⟩) xs := by
  refine ⟨(List.range (n - 1)).map f, by simp, fun i hi => ?_⟩
  have hi' : i < n - 1 := by simpa using hi
  have e : nth2 ((List.range (n - 1)).map f) i = f i := by simp [nth2, hi']
  rw [e]
  exact ⟨g, 0, rfl, by rw [Nat.zero_add]; exact (h i (by omega)).1, by rw [Nat.zero_add]; exact (h i (by omega)).2⟩
theorem rowW_of {w : World} {g n : Nat} {f : Nat → Wr} (h : CellsW w g f n) (hn : 1 ≤ n) : ∃ xs : List Wr, xs.length = n - 1 ∧ RowW w (some ⟨g, 0, none⟩) xs := by
  refine ⟨(List.range (n - 1)).map f, by simp, fun i hi => ?_⟩
  have hi' : i < n - 1 := by simpa using hi
  have e : nthW ((List.range (n - 1)).map f) i = f i := by simp [nthW, hi']
  rw [e]
  exact ⟨g, 0, rfl, by rw [Nat.zero_add]; exact (h i (by omega)).1, by rw [Nat.zero_add]; exact (h i (by omega)).2.1, by rw [Nat.zero_add]; exact (h i (by omega)).2.2⟩

set_option maxHeartbeats 8000000 in
set_option maxRecDepth 4000 in
theorem over_is {m : Rg} {w0 w : World} {g1 g2 : Nat} (h1 : Room2 w0 w g1 m.rs) (h2 : RoomW w0 w g2 m.ws) (hne : g1 ≠ g2) (hl : m.rs.length + 1 ≤ 8796093022208) (hl2 : m.ws.length + 1 ≤ 7036874417766) :
    Calls Try.prog 8 #[(m.own g1 g2).val] w fun e w' => e = .returned (.tuple #[]) ∧ Onl (fun k => k = g1 ∨ k = g2) w w' ∧ ∃ xs ys, xs.length = m.rs.length ∧ ys.length = m.ws.length ∧ Row2 w' (some ⟨g1, 0, none⟩) xs ∧ RowW w' (some ⟨g2, 0, none⟩) ys := by
  obtain ⟨wa, hwa⟩ : ∃ wa, wa = w.alloc (.cells (m.own g1 g2).cells 33) := ⟨_, rfl⟩
  have hba : Below w.heap.size w wa := by rw [hwa]; exact Below.al (Below.refl _ _) _
  have hbx : BoxG wa w.heap.size (m.own g1 g2) := by rw [hwa]; exact boxG w _ _
  have HO : Hid (Ov wa wa w.heap.size g1 g2 m.rs.length m.ws.length) := by
    obtain ⟨f1, x1, -⟩ := h1.cells
    obtain ⟨f2, y1, -⟩ := h2.cells
    have e1 := h1.lt
    have e2 := h2.lt
    exact ⟨hbx.c9, hbx.c10, ⟨f1, x1.later hba⟩, ⟨f2, y1.later hba⟩, h1.loose.later hba h1.lt, h2.loose.later hba h2.lt, Onl.refl _ _, hne, by omega, by omega⟩
  have HW := hid hwa
  have HBA := hid hba
  clear h1 h2 hne hwa hba hbx
  show Calls Try.prog 8 #[.agg #[.int .i64 m.k, .int .u64 m.x, .int .u32 m.c, .int .u32 m.s, .int .u32 m.h, .int .i64 m.oc, .int .u64 m.w, .int .u32 m.l, .int .u32 m.n, .slice (some ⟨g1, 0, none⟩) m.rs.length (m.rs.length + 1), .slice (some ⟨g2, 0, none⟩) m.ws.length (m.ws.length + 1), .string m.im]] w _
  go_enter Try.func8, Try.ntmps8
  go_wp2_with fail
  have hwz : w.alloc (.cells #[.int .i64 m.k, .int .u64 m.x, .int .u32 m.c, .int .u32 m.s, .int .u32 m.h, .int .i64 m.oc, .int .u64 m.w, .int .u32 m.l, .int .u32 m.n, .slice (some ⟨g1, 0, none⟩) m.rs.length (m.rs.length + 1), .slice (some ⟨g2, 0, none⟩) m.ws.length (m.ws.length + 1), .string m.im] 33) = wa := HW.out.symm
  rw [hwz]
  clear hwz
  go_loopg [2] m.ws.length (fun gg s2 wr => ∃ k : Nat, k ≤ m.ws.length ∧ gg = m.ws.length - k ∧ s2 = .int .i64 k ∧ Hid (Ov wa wr w.heap.size g1 g2 m.rs.length m.ws.length))
  case atStart => exact ⟨0, by omega, by omega, rfl, HO⟩
  case round =>
    obtain ⟨k, hk, rfl, rfl, HK⟩ := hrel
    clear HO
    have b10 := HK.out.b10
    obtain ⟨f, hf⟩ := HK.out.w
    by_cases hlt : k < m.ws.length
    · have d2 := (hf k (by omega)).2.2
      have l2 := HK.out.l2 (k * 3 + 2)
      have HV := hid (HK.out.val (k := k) (by omega) ⟨#[111, 118, 101, 114]⟩)
      clear hf
      by_cases h1 : k = 1
      · subst h1
        have d2' : wr.cell? ⟨g2, 5, none⟩ = some (.string (f 1).val) := d2
        have l2' : wr.frozen? ⟨g2, 5, none⟩ = false := l2
        clear d2 l2
        go_wp2_with fail
        obtain ⟨w1, hw1⟩ : ∃ w1, w1 = wr.setCell ⟨g2, 5, none⟩ (.string ⟨#[111, 118, 101, 114]⟩) := ⟨_, rfl⟩
        have HV1 : Hid (Ov wa w1 w.heap.size g1 g2 m.rs.length m.ws.length) := by rw [hw1]; exact HV.out
        rw [← hw1]
        clear hw1 HV b10 d2' l2' HK
        have b10 := HV1.out.b10
        obtain ⟨f', hf'⟩ := HV1.out.w
        have e0 : w1.cell? ⟨g2, 0, none⟩ = some (.string (f' 0).key) := (hf' 0 (by omega)).1
        have e3 : w1.cell? ⟨g2, 3, none⟩ = some (.string (f' 1).key) := (hf' 1 (by omega)).1
        have l3 : w1.frozen? ⟨g2, 3, none⟩ = false := HV1.out.l2 3
        have HV3 : Hid (Ov wa (w1.drew.setCell ⟨g2, 3, none⟩ (.string (f' 0).key)) w.heap.size g1 g2 m.rs.length m.ws.length) := HV1.out.drew.key (k := 1) (by omega) (f' 0).key
        clear hf' HV1
        go_region_with (fail)
        all_goals (try go_wp2_with fail)
        all_goals
          go_roundg (m.ws.length - (1 + 1))
          case measure => omega
          case rel => exact ⟨1 + 1, by omega, rfl, by go_num, HV3⟩
      · have h1' : ((k : Int) == 1) = false := beq_eq_false_iff_ne.2 (by omega)
        have h1'' : (k == 1) = false := beq_eq_false_iff_ne.2 h1
        go_wp2_with fail
        go_roundg (m.ws.length - (k + 1))
        case measure => omega
        case rel => exact ⟨k + 1, by omega, rfl, by go_num, HV⟩
    · obtain rfl : k = m.ws.length := by omega
      have HO2 := HK
      clear hf
      go_wp2_with fail
      clear b10 HK
      go_loopg [3] m.rs.length (fun gg s3 wr => ∃ k : Nat, k ≤ m.rs.length ∧ gg = m.rs.length - k ∧ s3 = .int .i64 k ∧ Hid (Ov wa wr w.heap.size g1 g2 m.rs.length m.ws.length))
      case atStart => exact ⟨0, by omega, by omega, rfl, HO2⟩
      case round =>
        obtain ⟨k, hk, rfl, rfl, HK⟩ := hrel
        clear HO2
        have b9 := HK.out.b9
        obtain ⟨f, hf⟩ := HK.out.r
        by_cases hlt : k < m.rs.length
        · have d0 := (hf k (by omega)).1
          have d1 := (hf k (by omega)).2
          have l0 := HK.out.l1 (k * 2)
          have l1 := HK.out.l1 (k * 2 + 1)
          have HV := hid (HK.out.span (k := k) (by omega) (⟨#[107]⟩, ⟨#[108]⟩))
          clear hf
          go_wp2_with fail
          go_roundg (m.rs.length - (k + 1))
          case measure => omega
          case rel => exact ⟨k + 1, by omega, rfl, by go_num, HV⟩
        · obtain rfl : k = m.rs.length := by omega
          clear hf
          go_wp2_with fail
          go_end0
          refine ⟨rfl, (Onl.of_below HBA.out).trans HK.out.onl, ?_⟩
          obtain ⟨f1, hf1⟩ := HK.out.r
          obtain ⟨f2, hf2⟩ := HK.out.w
          obtain ⟨xs, hx1, hx2⟩ := row2_of hf1 (by omega)
          obtain ⟨ys, hy1, hy2⟩ := rowW_of hf2 (by omega)
          exact ⟨xs, ys, by omega, by omega, hx2, hy2⟩

end Go.Proofs.Ytngnifemghahkaa
