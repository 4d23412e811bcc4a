import Derived.Test.YtaknkodjganacaaDoorVGood
namespace Go.Proofs.YtaknkodjganacaaDoor.Vs
open Go.RowKit Go.Sort
set_option linter.unusedVariables false

def mayB (ws : List Wr) (t last : Sp) (any : Bool) : Bool := writesOk ws && decide (t.a < 18446744073709551615) && (!any || last.lt t)
set_option maxHeartbeats 1000000 in
theorem may_is {a : Option Addr} {c : Nat} {ws : List Wr} {t last : Sp} {any u : Bool} {w : World} (hu : mayB ws t last any = u) (h : RowW w a ws) (hl : ws.length ≤ 1152921504606846976) :
    Calls Tryd.prog 21 #[.agg #[.slice a ws.length c, .int .u64 t.a, .int .u32 t.b, .int .u32 t.c], sv last, .bool any] w fun e w' => e = .returned (.bool u) ∧ Below w.heap.size w w' := by
  subst hu
  obtain ⟨n, hn⟩ : ∃ n, n = ws.length := ⟨_, rfl⟩
  obtain ⟨wa, hwa⟩ : ∃ wa, wa = (w.alloc (.cells #[.slice a n c, .int .u64 t.a, .int .u32 t.b, .int .u32 t.c] 59)).alloc (.cells #[.int .u64 last.a, .int .u32 last.b, .int .u32 last.c] 26) := ⟨_, rfl⟩
  have hba : Below w.heap.size w wa := by rw [hwa]; exact Below.al (Below.al (Below.refl _ _) _) _
  have k0 : wa.heap[w.heap.size]? = some (.cells #[.slice a n c, .int .u64 t.a, .int .u32 t.b, .int .u32 t.c] 59 (0, 0)) := by
    rw [hwa]; exact (Below.heap_alloc _ _ _ (by simp)).trans (World.alloc_heap_new w _)
  have k1 : wa.heap[w.heap.size + 1]? = some (.cells #[.int .u64 last.a, .int .u32 last.b, .int .u32 last.c] 26 (0, 0)) := by
    rw [hwa]; have := World.alloc_heap_new (w.alloc (.cells #[.slice a n c, .int .u64 t.a, .int .u32 t.b, .int .u32 t.c] 59)) (.cells #[.int .u64 last.a, .int .u32 last.b, .int .u32 last.c] 26)
    rw [World.size_alloc] at this; exact this
  have hc : wa.cell? ⟨w.heap.size, 0, none⟩ = some (.slice a n c) := cell_of_obj k0 rfl
  obtain ⟨u1, h1⟩ : ∃ u, writesOk ws = u := ⟨_, rfl⟩
  obtain ⟨u2, h2⟩ : ∃ u, decide (t.a < 18446744073709551615) = u := ⟨_, rfl⟩
  obtain ⟨u3, h3⟩ : ∃ u, last.lt t = u := ⟨_, rfl⟩
  have HQ : Hid (mayB ws t last any = (u1 && u2 && (!any || u3))) := by show _ = _; unfold mayB; rw [h1, h2, h3]
  have GD := hid (good_is (c := c) h1 (h.later hba) hl)
  rw [← hn] at GD ⊢
  have BE := hid (fun W => below_is (s := last) (t := t) h3 W)
  have HK : Hid (∀ W, Below wa.heap.size wa W → W.heap[w.heap.size]? = _ ∧ W.heap[w.heap.size + 1]? = _) := fun W hb => ⟨(hb.block _ (Array.getElem?_eq_some_iff.1 k0).1).trans k0, (hb.block _ (Array.getElem?_eq_some_iff.1 k1).1).trans k1⟩
  have HBA := hid hba
  clear h1 h3 hl h k0 k1 hba hn
  cases u1 <;> cases u2 <;> cases any <;> cases u3
  all_goals
    go_enter Tryd.func21, Tryd.ntmps21
    go_wp2_with fail
    rw [← hwa]
    clear hwa
    go_wp2_with (first
      | (go_at_call 42; refine GD.out.mono ?_; rintro e w1 ⟨rfl, hb1⟩; have hk := HK.out w1 hb1; have a1 : w1.cell? ⟨w.heap.size, 1, none⟩ = some (.int .u64 t.a) := cell_of_obj hk.1 rfl; have a2 : w1.cell? ⟨w.heap.size, 2, none⟩ = some (.int .u32 t.b) := cell_of_obj hk.1 rfl; have a3 : w1.cell? ⟨w.heap.size, 3, none⟩ = some (.int .u32 t.c) := cell_of_obj hk.1 rfl; have l0 : w1.cell? ⟨w.heap.size + 1, 0, none⟩ = some (.int .u64 last.a) := cell_of_obj hk.2 rfl; have l1 : w1.cell? ⟨w.heap.size + 1, 1, none⟩ = some (.int .u32 last.b) := cell_of_obj hk.2 rfl; have l2 : w1.cell? ⟨w.heap.size + 1, 2, none⟩ = some (.int .u32 last.c) := cell_of_obj hk.2 rfl; clear hk)
      | (go_at_call 14; refine (BE.out _).mono ?_; rintro e w2 ⟨rfl, hb2⟩))
    go_ret
    exact ⟨ret_bool (by rw [HQ.out]; rfl), by first | exact Below.on (Below.on HBA.out hb1) hb2 | exact Below.on HBA.out hb1⟩
end Go.Proofs.YtaknkodjganacaaDoor.Vs
