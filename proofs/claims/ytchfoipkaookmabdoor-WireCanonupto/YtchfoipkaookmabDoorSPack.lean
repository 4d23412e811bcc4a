import Derived.Test.YtchfoipkaookmabDoorSPutNumber
import Derived.Laws.Bits64
namespace Go.Proofs.YtchfoipkaookmabDoor
open Go.RowKit Go.Sort

abbrev z8 : Value := .int .u8 0
abbrev zeros : Array Value := #[z8, z8, z8, z8, z8, z8, z8, z8, z8, z8, z8, z8, z8, z8, z8, z8]
theorem zeros_at (i : Nat) (h : i < 16) : zeros[i]? = some z8 := by
  have hi : i = 0 ∨ i = 1 ∨ i = 2 ∨ i = 3 ∨ i = 4 ∨ i = 5 ∨ i = 6 ∨ i = 7 ∨ i = 8 ∨ i = 9 ∨ i = 10 ∨ i = 11 ∨ i = 12 ∨ i = 13 ∨ i = 14 ∨ i = 15 := by omega
  rcases hi with rfl | rfl | rfl | rfl | rfl | rfl | rfl | rfl | rfl | rfl | rfl | rfl | rfl | rfl | rfl | rfl <;> rfl

theorem getD_left {i : Nat} (xs ys : List Int) (h : i < xs.length) : (xs ++ ys).getD i 0 = xs.getD i 0 := by
  simp [List.getD, List.getElem?_append_left h]
theorem getD_right {i : Nat} (xs ys : List Int) (h : xs.length ≤ i) : (xs ++ ys).getD i 0 = ys.getD (i - xs.length) 0 := by
  simp [List.getD, List.getElem?_append_right h]

/-- a stamp in block N, sixteen bytes in block N + 1 -/
structure PackAt (w wx : World) (N : Nat) (a b c : Int) : Prop where
  below : Below w.heap.size w wx
  base : w.heap.size ≤ N
  size : N + 2 ≤ wx.heap.size
  st : StampAt wx N a b c
  cells : ∀ i, i < 16 → ∃ u, wx.cell? ⟨N + 1, i, none⟩ = some (.int .u8 u)
  frz : ∀ o, wx.frozen? ⟨N + 1, o, none⟩ = false

theorem PackAt.start (w : World) (a b c : Int) (t : TypeId) : PackAt w ((w.alloc (.cells #[.int .u64 a, .int .u32 b, .int .u32 c] t)).alloc (.cells zeros 83)) w.heap.size a b c := by
  refine ⟨((Below.refl _ _).alloc (Nat.le_refl _) _).alloc (by simp) _, Nat.le_refl _, by simp, ?_, fun i hi => ⟨0, ?_⟩, fun o => by simp [go_sem]⟩
  · refine ⟨?_, ?_, ?_⟩ <;> (simp [go_sem]; done)
  · rw [World.cell?_alloc_at _ _ _ _ (by simp)]
    exact zeros_at i hi

theorem PackAt.drew {w wx : World} {N : Nat} {a b c : Int} (h : PackAt w wx N a b c) : PackAt w wx.drew N a b c :=
  ⟨h.below.drew, h.base, h.size, h.st, h.cells, h.frz⟩

theorem PackAt.wrote {w wx wy : World} {N : Nat} {a b c : Int} (h : PackAt w wx N a b c) {off : Nat} {xs : List Int} (k : Wrote wx wy (N + 1) off xs) : PackAt w wy N a b c := by
  refine ⟨h.below.trans (k.below (by have := h.base; omega)), h.base, by rw [k.size]; exact h.size, ⟨?_, ?_, ?_⟩, fun i hi => ?_, fun o => (k.frz o).trans (h.frz o)⟩
  · rw [k.cell (by omega)]; exact h.st.1
  · rw [k.cell (by omega)]; exact h.st.2.1
  · rw [k.cell (by omega)]; exact h.st.2.2
  · by_cases ho : i < off ∨ off + xs.length ≤ i
    · rw [k.out i ho]; exact h.cells i hi
    · have := k.ins (i - off) (by omega)
      rw [show off + (i - off) = i by omega] at this
      exact ⟨_, this⟩

set_option maxHeartbeats 1000000 in
theorem pack_any (a b c : Int) (w : World) (ha : 0 ≤ a ∧ a ≤ 18446744073709551615) (hb : 0 ≤ b ∧ b ≤ 4294967295) (hc : 0 ≤ c ∧ c ≤ 4294967295) :
    Calls Tryd.prog 44 #[stv a b c] w fun e w' => e = .returned (.string (strOfNums (be a 8 ++ (be b 4 ++ be c 4)))) ∧ Below w.heap.size w w' := by
  obtain ⟨ha0, ha1⟩ := ha
  obtain ⟨hb0, hb1⟩ := hb
  obtain ⟨hc0, hc1⟩ := hc
  have hwb : IntKind.u64.wrap b = b := by rw [IntKind.wrap_u64]; omega
  have hwc : IntKind.u64.wrap c = c := by rw [IntKind.wrap_u64]; omega
  have P0 := PackAt.start w a b c 39
  go_enter Tryd.func44, Tryd.ntmps44
  go_upto_region 2 with fail
  go_cut [] (fun wx => PackAt w wx w.heap.size a b c ∧ ∀ i, i < 8 → wx.cell? ⟨w.heap.size + 1, i, none⟩ = some (.int .u8 ((be a 8).getD i 0)))
  case first =>
    go_region_held3 (fun w' => w'.cell? ⟨w.heap.size, 0, none⟩ = some (.int .u64 a))
      (first | (simp [go_sem]; done) | (rw [Wrote.cell (by assumption) (by simp)]; simp [go_sem]; done))
      (first | (go_at_call 49; refine (put_any _ _ _ _ _ _ (by decide) ha0 ha1 (by exact fun i hi => P0.cells (0 + i) (by omega)) (by exact P0.frz)).mono ?_; rintro e w1 ⟨rfl, hw1⟩))
    all_goals (try go_wp2_with fail)
    all_goals go_meet
    exact ⟨P0.drew.wrote hw1, fun i hi => by have := hw1.ins i (by rw [be_length]; exact hi); rwa [Nat.zero_add] at this⟩
  case rest =>
    obtain ⟨P1, I1⟩ := hcut
    have ⟨q0, q1, q2⟩ := P1.st
    clear P0
    go_upto_region 3 with fail
    go_cut [] (fun wx => PackAt w wx w.heap.size a b c ∧ (∀ i, i < 8 → wx.cell? ⟨w.heap.size + 1, i, none⟩ = some (.int .u8 ((be a 8).getD i 0))) ∧ ∀ i, i < 4 → wx.cell? ⟨w.heap.size + 1, 8 + i, none⟩ = some (.int .u8 ((be b 4).getD i 0)))
    case first =>
      go_region_held3 (fun w' => w'.cell? ⟨w.heap.size, 1, none⟩ = some (.int .u32 b))
        (first | (simp [go_sem, q1]; done) | (rw [Wrote.cell (by assumption) (by simp)]; simp [go_sem, q1]; done))
        (first | (go_at_call 49; (try rw [hwb]); refine (put_any _ _ _ _ _ _ (by decide) hb0 (by omega) (by exact fun i hi => P1.cells (8 + i) (by omega)) (by exact P1.frz)).mono ?_; rintro e w1 ⟨rfl, hw1⟩))
      all_goals (try go_wp2_with fail)
      all_goals go_meet
      exact ⟨P1.drew.wrote hw1, fun i hi => (hw1.out i (.inl (by omega))).trans (I1 i hi), fun i hi => hw1.ins i (by rw [be_length]; exact hi)⟩
    case rest =>
      obtain ⟨P2, I2, I3⟩ := hcut
      have ⟨q0, q1, q2⟩ := P2.st
      clear P1 I1
      go_upto_region 4 with fail
      go_cut [] (fun wx => PackAt w wx w.heap.size a b c ∧ (∀ i, i < 8 → wx.cell? ⟨w.heap.size + 1, i, none⟩ = some (.int .u8 ((be a 8).getD i 0))) ∧ (∀ i, i < 4 → wx.cell? ⟨w.heap.size + 1, 8 + i, none⟩ = some (.int .u8 ((be b 4).getD i 0))) ∧ ∀ i, i < 4 → wx.cell? ⟨w.heap.size + 1, 12 + i, none⟩ = some (.int .u8 ((be c 4).getD i 0)))
      case first =>
        go_region_held3 (fun w' => w'.cell? ⟨w.heap.size, 2, none⟩ = some (.int .u32 c))
          (first | (simp [go_sem, q2]; done) | (rw [Wrote.cell (by assumption) (by simp)]; simp [go_sem, q2]; done))
          (first | (go_at_call 49; (try rw [hwc]); refine (put_any _ _ _ _ _ _ (by decide) hc0 (by omega) (by exact fun i hi => P2.cells (12 + i) (by omega)) (by exact P2.frz)).mono ?_; rintro e w1 ⟨rfl, hw1⟩))
        all_goals (try go_wp2_with fail)
        all_goals go_meet
        exact ⟨P2.drew.wrote hw1, fun i hi => (hw1.out i (.inl (by omega))).trans (I2 i hi), fun i hi => (hw1.out (8 + i) (.inl (by omega))).trans (I3 i hi), fun i hi => hw1.ins i (by rw [be_length]; exact hi)⟩
      case rest =>
        obtain ⟨P3, I4, I5, I6⟩ := hcut
        clear P2 I2 I3
        have hcv := fun cap => run_convert_bytes_arg (P := Tryd.prog) wc 63 5 Tryd.underlying63 Tryd.underlying5 (w.heap.size + 1) 0 16 cap (be a 8 ++ (be b 4 ++ be c 4)) (by simp [be_length]) (fun i hi => by
          rw [Nat.zero_add]
          by_cases h8 : i < 8
          · rw [I4 i h8, getD_left _ _ (by rw [be_length]; exact h8)]
          · by_cases h12 : i < 12
            · have := I5 (i - 8) (by omega)
              rw [show 8 + (i - 8) = i by omega] at this
              rw [this, getD_right _ _ (by rw [be_length]; omega), be_length, getD_left _ _ (by rw [be_length]; omega)]
            · have := I6 (i - 12) (by omega)
              rw [show 12 + (i - 12) = i by omega] at this
              rw [this, getD_right _ _ (by rw [be_length]; omega), be_length, getD_right _ _ (by rw [be_length]; omega), be_length, show i - 8 - 4 = i - 12 by omega]) 9 Tryd.underlying9
        go_wp2_with fail
        go_ret
        exact ⟨rfl, P3.below⟩

end Go.Proofs.YtchfoipkaookmabDoor
