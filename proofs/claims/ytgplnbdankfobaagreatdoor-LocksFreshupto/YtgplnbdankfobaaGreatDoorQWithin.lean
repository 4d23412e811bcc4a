import Derived.Test.YtgplnbdankfobaaGreatDoorQSmall
import Derived.Test.YtgplnbdankfobaaGreatDoorQFlat
import Derived.Test.YtgplnbdankfobaaGreatDoorShelf
/- within, anyWithin. -/
namespace Go.Proofs.YtgplnbdankfobaaGreatDoor.Lk
open Go.RowKit Go.Sort Go.Shelf Go.Lib
set_option linter.unusedVariables false

theorem pred_in (k : ByteArray) (B : Nat) (w : World) (hB : B < w.heap.size) (hc : w.cell? ⟨B, 0, none⟩ = some (.string k)) :
    PredBelow Tryz.prog 75 #[.pointer (some ⟨B, 0, none⟩)] (fun x : T2 => .agg (encS x).toArray) (insB k) w := fun W x hb => by
  have hc' : W.cell? ⟨B, 0, none⟩ = some (.string k) := (hb.cell (p := ⟨B, 0, none⟩) hB).trans hc
  have hBW : B < W.heap.size := Nat.lt_of_lt_of_le hB hb.size
  have hne : B ≠ W.heap.size := by omega
  obtain ⟨lo, hi⟩ := x
  obtain ⟨u, hu⟩ : ∃ u, insB k (lo, hi) = u := ⟨_, rfl⟩
  rw [hu]
  have HU := hid hu
  clear hu hc
  show Calls Tryz.prog 75 #[.agg #[.string lo, .string hi], .pointer (some ⟨B, 0, none⟩)] W _
  go_enter Tryz.func75, Tryz.ntmps75
  go_wp2_with fail
  refine (inside_is (s := (lo, hi)) HU.out _).mono ?_
  rintro e w1 ⟨rfl, hw1⟩
  go_wp2_with fail
  go_ret
  exact ⟨rfl, Below.on (Below.al hb _) hw1⟩

theorem row2_cells {w : World} {a : Option Addr} {xs : List T2} (h : Row2 w a xs) (h0 : 0 < xs.length) : ∃ b off, a = some ⟨b, off, none⟩ ∧ b < w.heap.size ∧ ∀ j, j < xs.length → ∀ i v, (encS xs[j]!)[i]? = some v → w.cell? ⟨b, off + j * 2 + i, none⟩ = some v := by
  obtain ⟨b, off, rfl, c0, _⟩ := h 0 h0
  refine ⟨b, off, rfl, World.block_lt_of_cell? _ _ c0, fun j hj i v hi => ?_⟩
  obtain ⟨b', off', e, d0, d1⟩ := h j hj
  injection e with e
  injection e with e1 e2
  subst e1 e2
  have en : xs[j]! = nth2 xs j := by simp [nth2, getElem!_pos, hj]
  rw [en] at hi
  match i, hi with
  | 0, hi => simp [encS] at hi; rw [← hi]; exact d0
  | 1, hi => simp [encS] at hi; rw [← hi]; exact d1
  | i + 2, hi => simp [encS] at hi
theorem rowW_cells [Inhabited Wr] {w : World} {a : Option Addr} {xs : List Wr} (h : RowW w a xs) (h0 : 0 < xs.length) : ∃ b off, a = some ⟨b, off, none⟩ ∧ b < w.heap.size ∧ ∀ j, j < xs.length → ∀ i v, (encW xs[j]!)[i]? = some v → w.cell? ⟨b, off + j * 3 + i, none⟩ = some v := by
  obtain ⟨b, off, rfl, c0, _⟩ := h 0 h0
  refine ⟨b, off, rfl, World.block_lt_of_cell? _ _ c0, fun j hj i v hi => ?_⟩
  obtain ⟨b', off', e, d0, d1, d2⟩ := h j hj
  injection e with e
  injection e with e1 e2
  subst e1 e2
  have en : xs[j]! = nthW xs j := by simp [nthW, getElem!_pos, hj]
  rw [en] at hi
  match i, hi with
  | 0, hi => simp [encW] at hi; rw [← hi]; exact d0
  | 1, hi => simp [encW] at hi; rw [← hi]; exact d1
  | 2, hi => simp [encW] at hi; rw [← hi]; exact d2
  | i + 3, hi => simp [encW] at hi

theorem contS_nil (a : Option Addr) (c : Nat) (f : Value) (w : World) :
    Calls Tryz.prog 74 #[.slice a 0 c, f] w fun e w' => e = .returned (.bool false) ∧ Below w.heap.size w w' := by
  have IX : ∀ W, Calls Tryz.prog 87 #[.slice a 0 c, f] W fun e w' => e = .returned (.int .i64 (-1)) ∧ w' = W := fun W => by
    go_enter Tryz.func87, Tryz.ntmps87
    go_wp2_with fail
    go_loopg [5, 8] 0 (fun g s5 s8 wr => s8 = .int .i64 0 ∧ wr = W)
    case atStart => exact ⟨rfl, rfl⟩
    case round =>
      obtain ⟨rfl, rfl⟩ := hrel
      go_wp2_with fail
      go_ret
      exact ⟨rfl, rfl⟩
  go_enter Tryz.func74, Tryz.ntmps74
  go_wp2_with (go_at_call 87; refine (IX _).mono ?_; rintro e w1 ⟨rfl, rfl⟩)
  go_ret
  exact ⟨rfl, Below.refl _ _⟩
theorem contW_nil (a : Option Addr) (c : Nat) (f : Value) (w : World) :
    Calls Tryz.prog 76 #[.slice a 0 c, f] w fun e w' => e = .returned (.bool false) ∧ Below w.heap.size w w' := by
  have IX : ∀ W, Calls Tryz.prog 88 #[.slice a 0 c, f] W fun e w' => e = .returned (.int .i64 (-1)) ∧ w' = W := fun W => by
    go_enter Tryz.func88, Tryz.ntmps88
    go_wp2_with fail
    go_loopg [5, 8] 0 (fun g s5 s8 wr => s8 = .int .i64 0 ∧ wr = W)
    case atStart => exact ⟨rfl, rfl⟩
    case round =>
      obtain ⟨rfl, rfl⟩ := hrel
      go_wp2_with fail
      go_ret
      exact ⟨rfl, rfl⟩
  go_enter Tryz.func76, Tryz.ntmps76
  go_wp2_with (go_at_call 88; refine (IX _).mono ?_; rintro e w1 ⟨rfl, rfl⟩)
  go_ret
  exact ⟨rfl, Below.refl _ _⟩

/-- within -/
theorem within_is {k : ByteArray} {a : Option Addr} {c : Nat} {xs : List T2} {w : World} {u : Bool} (hu : withinB k xs = u) (h : Row2 w a xs) (hl : xs.length ≤ 9223372036854775807) :
    Calls Tryz.prog 51 #[.string k, .slice a xs.length c] w fun e w' => e = .returned (.bool u) ∧ Below w.heap.size w w' := by
  have CT : Hid (Calls Tryz.prog 74 #[.slice a xs.length c, .func (.func 75) #[] #[.pointer (some ⟨w.heap.size, 0, none⟩)]] (w.alloc (.cells #[.string k] 9)) fun e w' => e = .returned (.bool u) ∧ Below w.heap.size w w') := by
    by_cases h0 : xs.length = 0
    · rw [h0]
      have : u = false := by rw [← hu, List.eq_nil_of_length_eq_zero h0]; rfl
      subst this
      exact (contS_nil a c _ _).mono fun e w' ⟨he, hb⟩ => ⟨he, Below.on (Below.al (Below.refl _ _) _) hb⟩
    · have eg : ∀ args w, (callFunc 75 args).run Tryz.prog w = .ok (.enter 75 args) w := enters_of Tryz.func75 (by kernel_rfl) rfl
      have hb : Below w.heap.size w (w.alloc (.cells #[.string k] 9)) := Below.al (Below.refl _ _) _
      obtain ⟨b, off, rfl, hlt, hc⟩ := row2_cells (h.later hb) (by omega)
      have hcon := AnyQ.slices_ContainsFunc Tryz.contS 2 Tryz.isAgg34 Tryz.sizeOf34 encS (fun _ => rfl) (insB k) 75 #[.pointer (some ⟨w.heap.size, 0, none⟩)] eg b off xs.length c xs (w.alloc (.cells #[.string k] 9))
        (pred_in k w.heap.size _ (by simp) (by simp)) (Nat.le_refl _) hl hlt hc
      change Calls Tryz.prog 74 _ _ _ at hcon
      rw [List.take_of_length_le (Nat.le_refl _), show xs.any (insB k) = u from hu] at hcon
      exact hcon.mono fun e w' ⟨he, hb'⟩ => ⟨he, Below.on hb hb'⟩
  clear hu h hl
  go_enter Tryz.func51, Tryz.ntmps51
  go_wp2_with fail
  refine CT.out.mono ?_
  rintro e w1 ⟨rfl, hw1⟩
  go_wp2_with fail
  go_ret
  exact ⟨rfl, hw1⟩

theorem pred_any {a : Option Addr} {c : Nat} {xs : List T2} {w : World} (h : Row2 w a xs) (hl : xs.length ≤ 9223372036854775807) (B : Nat) (hB : B < w.heap.size) (hc : w.cell? ⟨B, 0, none⟩ = some (.slice a xs.length c)) :
    PredBelow Tryz.prog 77 #[.pointer (some ⟨B, 0, none⟩)] (fun x : Wr => .agg (encW x).toArray) (fun x => withinB x.key xs) w := fun W x hb => by
  have hc' : W.cell? ⟨B, 0, none⟩ = some (.slice a xs.length c) := (hb.cell (p := ⟨B, 0, none⟩) hB).trans hc
  have hBW : B < W.heap.size := Nat.lt_of_lt_of_le hB hb.size
  have hne : B ≠ W.heap.size := by omega
  obtain ⟨key, del, val⟩ := x
  obtain ⟨u, hu⟩ : ∃ u, withinB key xs = u := ⟨_, rfl⟩
  have hbW : Below w.heap.size w (W.alloc (.cells #[.string key, .bool del, .string val] 64)) := Below.al hb _
  have WI := hid (within_is (c := c) hu (h.later hbW) hl)
  show Calls Tryz.prog 77 #[.agg #[.string key, .bool del, .string val], .pointer (some ⟨B, 0, none⟩)] W fun e w' => e = .returned (.bool (withinB key xs)) ∧ Below w.heap.size w w'
  rw [hu]
  clear hu hc h hl
  go_enter Tryz.func77, Tryz.ntmps77
  go_wp2_with fail
  refine WI.out.mono ?_
  rintro e w1 ⟨rfl, hw1⟩
  go_wp2_with fail
  go_ret
  exact ⟨rfl, Below.on hbW hw1⟩

/-- anyWithin -/
theorem anyWithin_is {a' a : Option Addr} {c' c : Nat} {ws : List Wr} {xs : List T2} {w : World} {u : Bool} (hu : anyB ws xs = u) (hw : RowW w a' ws) (h : Row2 w a xs) (hlw : ws.length ≤ 9223372036854775807) (hl : xs.length ≤ 9223372036854775807) :
    Calls Tryz.prog 52 #[.slice a' ws.length c', .slice a xs.length c] w fun e w' => e = .returned (.bool u) ∧ Below w.heap.size w w' := by
  have CT : Hid (Calls Tryz.prog 76 #[.slice a' ws.length c', .func (.func 77) #[] #[.pointer (some ⟨w.heap.size, 0, none⟩)]] (w.alloc (.cells #[.slice a xs.length c] 29)) fun e w' => e = .returned (.bool u) ∧ Below w.heap.size w w') := by
    by_cases h0 : ws.length = 0
    · rw [h0]
      have : u = false := by rw [← hu, List.eq_nil_of_length_eq_zero h0]; rfl
      subst this
      exact (contW_nil a' c' _ _).mono fun e w' ⟨he, hb⟩ => ⟨he, Below.on (Below.al (Below.refl _ _) _) hb⟩
    · letI : Inhabited Wr := ⟨⟨⟨#[]⟩, false, ⟨#[]⟩⟩⟩
      have eg : ∀ args w, (callFunc 77 args).run Tryz.prog w = .ok (.enter 77 args) w := enters_of Tryz.func77 (by kernel_rfl) rfl
      have hb : Below w.heap.size w (w.alloc (.cells #[.slice a xs.length c] 29)) := Below.al (Below.refl _ _) _
      obtain ⟨b, off, rfl, hlt, hc⟩ := rowW_cells (hw.later hb) (by omega)
      have hcon := AnyQ.slices_ContainsFunc Tryz.contW 3 Tryz.isAgg64 Tryz.sizeOf64 encW (fun _ => rfl) (fun x => withinB x.key xs) 77 #[.pointer (some ⟨w.heap.size, 0, none⟩)] eg b off ws.length c' ws (w.alloc (.cells #[.slice a xs.length c] 29))
        (pred_any (c := c) (h.later hb) hl w.heap.size (by simp) (by simp)) (Nat.le_refl _) hlw hlt hc
      change Calls Tryz.prog 76 _ _ _ at hcon
      rw [List.take_of_length_le (Nat.le_refl _), show ws.any (fun x => withinB x.key xs) = u from hu] at hcon
      exact hcon.mono fun e w' ⟨he, hb'⟩ => ⟨he, Below.on hb hb'⟩
  clear hu h hl hw hlw
  go_enter Tryz.func52, Tryz.ntmps52
  go_wp2_with fail
  refine CT.out.mono ?_
  rintro e w1 ⟨rfl, hw1⟩
  go_wp2_with fail
  go_ret
  exact ⟨rfl, hw1⟩

end Go.Proofs.YtgplnbdankfobaaGreatDoor.Lk
