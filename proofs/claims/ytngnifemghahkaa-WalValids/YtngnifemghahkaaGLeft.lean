import Derived.Test.YtngnifemghahkaaGCopied
namespace Go.Proofs.Ytngnifemghahkaa
open Go.RowKit Go.Sort
set_option linter.unusedVariables false

theorem own_ok {m : Rg} {w0 w : World} {g1 g2 : Nat} (h : m.ok w) (h1 : Room2 w0 w g1 m.rs) (h2 : RoomW w0 w g2 m.ws) : (m.own g1 g2).ok w := ⟨h1.row, h2.row, h.rl, h.wl, h.rg⟩
theorem own_same (m : Rg) (g1 g2 : Nat) : sameR (m.own g1 g2) m = true := by
  simp [sameR, Rg.own, sameT, sameB]

set_option maxHeartbeats 8000000 in
set_option maxRecDepth 4000 in
theorem left_is {m : Rg} {w0 w : World} {g1 g2 : Nat} (h : m.ok w) (h1 : Room2 w0 w g1 m.rs) (h2 : RoomW w0 w g2 m.ws) (hl : m.rs.length + 1 ≤ 8796093022208) (hl2 : m.ws.length + 1 ≤ 7036874417766) :
    Calls Try.prog 7 #[(m.own g1 g2).val, m.val] w fun e w' => e = .returned (.bool true) ∧ Below w.heap.size w w' := by
  obtain ⟨wa, hwa⟩ : ∃ wa, wa = (w.alloc (.cells (m.own g1 g2).cells 33)).alloc (.cells m.cells 33) := ⟨_, rfl⟩
  have hsg := sg_start w (m.own g1 g2) m 33
  rw [← hwa] at hsg
  have HW := hid hwa
  have HS := hid hsg
  have hso := own_ok h h1 h2
  have HSM : Hid (∀ w', Below w.heap.size w w' → Calls Try.prog 15 #[(m.own g1 g2).val, m.val] w' fun e w'' => e = .returned (.bool true) ∧ Below w'.heap.size w' w'') := fun w' hb => refsame_is (own_same m g1 g2) (hso.later hb) (h.later hb) (fun _ => rfl) (fun _ => rfl)
  obtain ⟨f1, x1, -, x3⟩ := h1.cells
  obtain ⟨f2, y1, -, y3⟩ := h2.cells
  have p0 : w.cell? ⟨g1, m.rs.length * 2, none⟩ = some (.string spareS) := by rw [(x1 _ (Nat.lt_succ_self _)).1, x3]
  have p1 : w.cell? ⟨g1, m.rs.length * 2 + 1, none⟩ = some (.string ⟨#[]⟩) := by rw [(x1 _ (Nat.lt_succ_self _)).2, x3]
  have s0 : w.cell? ⟨g2, m.ws.length * 3, none⟩ = some (.string spareS) := by rw [(y1 _ (Nat.lt_succ_self _)).1, y3]
  have s1 : w.cell? ⟨g2, m.ws.length * 3 + 1, none⟩ = some (.bool false) := by rw [(y1 _ (Nat.lt_succ_self _)).2.1, y3]
  have s2 : w.cell? ⟨g2, m.ws.length * 3 + 2, none⟩ = some (.string ⟨#[]⟩) := by rw [(y1 _ (Nat.lt_succ_self _)).2.2, y3]
  have HP : Hid (w.cell? ⟨g1, m.rs.length * 2, none⟩ = some (.string spareS) ∧ w.cell? ⟨g1, m.rs.length * 2 + 1, none⟩ = some (.string ⟨#[]⟩) ∧ w.cell? ⟨g2, m.ws.length * 3, none⟩ = some (.string spareS) ∧ w.cell? ⟨g2, m.ws.length * 3 + 1, none⟩ = some (.bool false) ∧ w.cell? ⟨g2, m.ws.length * 3 + 2, none⟩ = some (.string ⟨#[]⟩)) := ⟨p0, p1, s0, s1, s2⟩
  have a9 : wa.cell? ⟨w.heap.size, 9, none⟩ = some (.slice (some ⟨g1, 0, none⟩) m.rs.length (m.rs.length + 1)) := hsg.a.c9
  have a10 : wa.cell? ⟨w.heap.size, 10, none⟩ = some (.slice (some ⟨g2, 0, none⟩) m.ws.length (m.ws.length + 1)) := hsg.a.c10
  have b9 := hsg.b.c9
  have b10 := hsg.b.c10
  have ka9 := cell_regrown a9; have ka10 := cell_regrown a10; have kb9 := cell_regrown b9; have kb10 := cell_regrown b10
  clear h h1 h2 hwa hsg hso x1 x3 y1 y3 p0 p1 s0 s1 s2
  show Calls Try.prog 7 #[.agg #[.int .i64 m.k, .int .u64 m.x, .int .u32 m.c, .int .u32 m.s, .int .u32 m.h, .int .i64 m.oc, .int .u64 m.w, .int .u32 m.l, .int .u32 m.n, .slice (some ⟨g1, 0, none⟩) m.rs.length (m.rs.length + 1), .slice (some ⟨g2, 0, none⟩) m.ws.length (m.ws.length + 1), .string m.im], m.val] w _
  go_enter Try.func7, Try.ntmps7
  go_wp2_with fail
  refine (HSM.out _ (Below.al (Below.al (Below.refl _ _) _) _)).mono ?_
  rintro e w2 ⟨rfl, hb2⟩
  have hb3 : Below wa.heap.size wa w2 := by rw [HW.out]; exact hb2
  have hb4 : Below w.heap.size w w2 := Below.on (Below.al (Below.al (Below.refl _ _) _) _) hb2
  have HB4 := hid hb4
  have p0 : w2.cell? ⟨g1, m.rs.length * 2, none⟩ = some (.string ⟨#[115, 112, 97, 114, 101]⟩) := cell_later hb4 HP.out.1
  have p1 := cell_later hb4 HP.out.2.1
  have s0 : w2.cell? ⟨g2, m.ws.length * 3, none⟩ = some (.string ⟨#[115, 112, 97, 114, 101]⟩) := cell_later hb4 HP.out.2.2.1
  have s1 := cell_later hb4 HP.out.2.2.2.1
  have s2 := cell_later hb4 HP.out.2.2.2.2
  have d9 := cell_later hb3 b9
  have d10 := cell_later hb3 b10
  have heq := run_eqSpan (⟨#[115, 112, 97, 114, 101]⟩, ⟨#[]⟩)
  have heW := run_eqWrite ⟨⟨#[115, 112, 97, 114, 101]⟩, false, ⟨#[]⟩⟩
  dsimp only at heq heW
  clear hb2 hb3 hb4 a9 a10 b9 b10 ka9 ka10 kb9 kb10
  go_wp2_with fail
  go_ret
  exact ⟨ret_bool (by simp), HB4.out⟩

end Go.Proofs.Ytngnifemghahkaa
