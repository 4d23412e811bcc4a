import Derived.Test.YtchfoipkaookmabDoorWMark
import Derived.Test.YtchfoipkaookmabDoorWEncs
import Derived.Test.YtchfoipkaookmabDoorWTTexts0
import Derived.Laws.IdiomCopy
namespace Go.Proofs.YtchfoipkaookmabDoor
open Go.RowKit Go.Sort
set_option linter.unusedVariables false

theorem make_str (w : World) (n : Nat) (h : n ≤ 1099511627780) : (Instr.makeSlice 36 (.int .i64 (n : Int)) (.int .i64 (n : Int))).run Tryd.prog w = .ok (.slice (some ⟨w.heap.size, 0, none⟩) n n) (w.alloc (.cells (madeCells (Value.string { data := #[] }).cells n) 9)) := by
  obtain ⟨i0, hi, hz0, hz1, hz2⟩ := info_split Tryd.infoStr
  have := run_make (P := Tryd.prog) w 36 9 i0 (.string { data := #[] }) Tryd.underlying36 hi hz0 .i64 .i64 n n (by omega) (by omega) (by rw [hz2]; omega) (by omega)
  rw [this, hz1]
  simp
theorem Tryd.sizeStr : (Tryd.prog.info? 9).map (·.size) = some 1 := by kernel_rfl

/-- a row of its own with texts, and room -/
structure RoomyAt (w wr : World) (n : Nat) (ts : List (List Nat)) : Prop where
  below : Below w.heap.size w wr
  row : TRow wr (some ⟨w.heap.size, 0, none⟩) ts
  some' : ∀ i, i < n → ∃ v, wr.cell? ⟨w.heap.size, i, none⟩ = some v
  loose : Loose wr w.heap.size
  lt : w.heap.size < wr.heap.size
theorem RoomyAt.set {w wr : World} {n i : Nat} {ts : List (List Nat)} (h : RoomyAt w wr n ts) (hi : ts.length ≤ i) (v : Value) : RoomyAt w (wr.setCell ⟨w.heap.size, i, none⟩ v) n ts := by
  refine ⟨h.below.setCell (Nat.le_refl _) v, fun j t ht => ?_, fun j hj => ?_, h.loose.setc _ _, by simpa [World.setCell] using h.lt⟩
  · have hj : j < ts.length := by
      rcases Nat.lt_or_ge j ts.length with h1 | h1
      · exact h1
      · rw [List.getElem?_eq_none h1] at ht; cases ht
    obtain ⟨h1, b, off, h2, h3⟩ := h.row j t ht
    refine ⟨h1, b, off, h2, cell_setc (fun e => ?_) h3⟩
    injection h2 with h2
    injection h2 with h4 h5
    have := congrArg Addr.off e
    dsimp only at this
    omega
  · obtain ⟨u, hu⟩ := h.some' j hj
    by_cases hji : j = i
    · subst hji; exact ⟨v, World.cell?_setCell_same _ _ _ hu⟩
    · exact ⟨u, cell_setc (fun e => hji (congrArg Addr.off e)) hu⟩
theorem RoomyAt.later {w wr wx : World} {n : Nat} {ts : List (List Nat)} (h : RoomyAt w wr n ts) (hb : Below wr.heap.size wr wx) : RoomyAt w wx n ts :=
  ⟨Below.on h.below hb, h.row.later hb, fun i hi => (h.some' i hi).imp fun v hv => cell_later hb hv, h.loose.later hb h.lt, Nat.lt_of_lt_of_le h.lt hb.size⟩

theorem tvals_get {ts : List (List Nat)} {j : Nat} {v : Value} (h : (tvals ts)[j]? = some v) : ∃ t, ts[j]? = some t ∧ v = .string (ofNats t) := by
  simp only [tvals, List.getElem?_map, Option.map_eq_some_iff] at h
  obtain ⟨t, h1, h2⟩ := h
  exact ⟨t, h1, h2.symm⟩

/-- copy of a row of texts into a new row -/
theorem run_copy_texts {w wa : World} {a : Option Addr} {cap : Nat} {ts : List (List Nat)} (hr : TRow wa a ts) (hlen : ts.length + 3 ≤ 1099511627780) (hs : ∀ j, j < ts.length + 3 → (wa.cell? ⟨w.heap.size, j, none⟩).isSome = true) (hf : Loose wa w.heap.size) (ty : TypeId) :
    (Builtin.copy_ #[36, 36] ty #[.slice (some ⟨w.heap.size, 0, none⟩) (ts.length + 3) (ts.length + 3), .slice a ts.length cap]).run Tryd.prog wa = .ok (goInt ts.length) (wa.setCells w.heap.size 0 (tvals ts)) := by
  cases hts : ts with
  | nil =>
    have := run_copy_none (P := Tryd.prog) wa 36 36 ty 9 (some ⟨w.heap.size, 0, none⟩) a 3 3 0 cap Tryd.underlying36 Tryd.sizeStr (by simp)
    exact this
  | cons x xs =>
    rw [← hts]
    obtain ⟨-, b, off, rfl, -⟩ := hr 0 x (by rw [hts]; rfl)
    have := run_copy_cells (P := Tryd.prog) wa 36 36 ty 9 w.heap.size 0 (ts.length + 3) (ts.length + 3) ⟨b, off, none⟩ ts.length cap (tvals ts) Tryd.underlying36 Tryd.sizeStr (by simp [tvals]) (fun j v hj => by
      obtain ⟨t, h1, rfl⟩ := tvals_get hj
      obtain ⟨-, b', off', h2, h3⟩ := hr j t h1
      injection h2 with h2
      injection h2 with h4 h5
      subst h4 h5
      have hplain : (⟨b, off, none⟩ : Addr).add j = ⟨b, off + j, none⟩ := by unfold Addr.add; split <;> simp_all
      rw [hplain]; exact h3) (fun j hj => by rw [Nat.zero_add]; exact hs j (by simp [tvals] at hj; omega)) (fun j hj => hf _) (fun v hv => by
      simp only [tvals, List.mem_map] at hv
      obtain ⟨t, -, rfl⟩ := hv
      rfl)
    rw [this]
    simp [tvals]

set_option maxHeartbeats 1000000 in
theorem roomy_any {w : World} {a : Option Addr} {cap : Nat} {ts : List (List Nat)} (hr : TRow w a ts) (hn : ts.length ≤ 1099511627776) (ht : PowTab w) {R : Nat} (hR : w.heap.size = R) :
    Calls Tryd.prog 34 #[.slice a ts.length cap] w fun e w' => e = .returned (.slice (some ⟨R, 0, none⟩) ts.length (ts.length + 3)) ∧ Below w.heap.size w w' ∧ TRow w' (some ⟨R, 0, none⟩) ts := by
  have HT := hid ht
  have hmk := make_str w (ts.length + 3) (by omega)
  obtain ⟨wa, hwa⟩ : ∃ wa, wa = w.alloc (.cells (madeCells (Value.string { data := #[] }).cells (ts.length + 3)) 9) := ⟨_, rfl⟩
  have hba : Below w.heap.size w wa := by rw [hwa]; exact Below.al (Below.refl _ _) _
  have hsm : ∀ j, j < ts.length + 3 → (wa.cell? ⟨w.heap.size, j, none⟩).isSome = true := fun j hj => by
    rw [hwa, World.cell?_alloc_at _ _ _ _ (by simp)]
    simp [madeCells, hj]
  have hlo : Loose wa w.heap.size := fun o => by rw [hwa]; simp [go_sem]
  have hcp := run_copy_texts (cap := cap) (hr.later hba) (by omega) hsm hlo
  have hwl : w.heap.size < wa.heap.size := by rw [hwa]; simp
  obtain ⟨wz, hwz⟩ : ∃ wz, wz = wa.setCells w.heap.size 0 (tvals ts) := ⟨_, rfl⟩
  have R0 : RoomyAt w wz (ts.length + 3) ts := by
    refine ⟨by rw [hwz]; exact below_setCells (Nat.le_refl _) _ _ _ hba, fun j t hj => ⟨(hr j t hj).1, _, _, rfl, ?_⟩, fun j hj => ?_, fun o => by rw [hwz, World.frozen?_setCells]; exact hlo o, ?_⟩
    · have hjl : j < (tvals ts).length := by
        rcases Nat.lt_or_ge j ts.length with h1 | h1
        · simpa [tvals] using h1
        · rw [List.getElem?_eq_none h1] at hj; cases hj
      have := World.cell?_setCells_in w.heap.size (tvals ts) 0 wa (fun i hi => by rw [Nat.zero_add]; exact hsm i (by simp [tvals] at hi; omega)) j hjl
      rw [hwz, this]
      have h2 : (tvals ts)[j]? = some (.string (ofNats t)) := by simp [tvals, hj]
      rw [List.getElem?_eq_getElem hjl] at h2
      exact h2
    · by_cases hjl : j < (tvals ts).length
      · have := World.cell?_setCells_in w.heap.size (tvals ts) 0 wa (fun i hi => by rw [Nat.zero_add]; exact hsm i (by simp [tvals] at hi; omega)) j hjl
        rw [Nat.zero_add] at this
        exact ⟨_, by rw [hwz]; exact this⟩
      · obtain ⟨v, hv⟩ := Option.isSome_iff_exists.1 (hsm j hj)
        exact ⟨v, by rw [hwz, World.cell?_setCells_out _ _ _ _ _ (fun _ _ => .inr (by show 0 + _ ≤ j; omega))]; exact hv⟩
    · exact Nat.lt_of_lt_of_le hwl (by rw [hwz]; exact (below_setCells (B := 0) (Nat.zero_le _) (tvals ts) 0 wa (Below.refl _ _)).size)
  rw [← hwz] at hcp
  rw [← hwa] at hmk
  have HR0 := hid R0
  have hw3 : IntKind.i64.wrap ((ts.length : Int) + 3) = ((ts.length + 3 : Nat) : Int) := by rw [IntKind.wrap_i64]; omega
  obtain ⟨n3, hn3⟩ : ∃ n3, n3 = ts.length + 3 := ⟨_, rfl⟩
  rw [← hn3] at hw3 hmk hcp
  have HN3 := hid hn3
  have hw4 : (ts.length : Int) + 3 = (n3 : Int) := by omega
  subst hR
  clear R0 hwz hwa hsm hlo hba hr ht hwl hn3
  go_enter Tryd.func34, Tryd.ntmps34
  go_wp2_with fail
  go_loopg [4] 3 (fun g s4 wr => ∃ i : Nat, ts.length ≤ i ∧ i ≤ n3 ∧ g = n3 - i ∧ s4 = .int .i64 (i : Int) ∧ Hid (RoomyAt w wr n3 ts))
  case atStart => exact ⟨ts.length, Nat.le_refl _, by have := HN3.out; omega, by have := HN3.out; omega, rfl, by have := HR0.out; rwa [← HN3.out] at this⟩
  case round =>
    obtain ⟨i, hi, hin, rfl, rfl, HH⟩ := hrel
    clear hmk hcp HR0 hw3
    have hf : ∀ o, wr.frozen? ⟨w.heap.size, o, none⟩ = false := HH.out.loose
    have hn4 : n3 ≤ 1099511627779 := by have := HN3.out; omega
    by_cases hlt : i < n3
    · have e1 : decide ((i : Int) < (n3 : Int)) = true := by simp; omega
      go_wp2_with fail
      refine (mark_any i (by omega) wr (HT.out.later HH.out.below)).mono ?_
      rintro e w1 ⟨sx, rfl, hb1⟩
      have HH1 := hid (HH.out.later hb1)
      obtain ⟨u, hu⟩ := HH1.out.some' i hlt
      have hf1 : ∀ o, w1.frozen? ⟨w.heap.size, o, none⟩ = false := HH1.out.loose
      clear hb1 hf HH
      go_wp2_with fail
      go_roundg (n3 - (i + 1))
      case measure => omega
      case rel => exact ⟨i + 1, by omega, by omega, rfl, by go_num, HH1.out.set hi _⟩
    · obtain rfl : i = n3 := by omega
      clear hlt hin
      go_wp2_with fail
      go_ret
      exact ⟨by have := HN3.out; simp; omega, HH.out.below, HH.out.row⟩

end Go.Proofs.YtchfoipkaookmabDoor
