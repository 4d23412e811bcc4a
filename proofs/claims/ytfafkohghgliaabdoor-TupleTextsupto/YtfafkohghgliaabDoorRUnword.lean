import Derived.Test.YtfafkohghgliaabDoorRWord
/- Unword, as the program reads a word. -/
namespace Go.Proofs.YtfafkohghgliaabDoor.Rt
open Go.RowKit Go.Sort
set_option linter.unusedVariables false

/-- where a byte stands among the hex digits -/
def hvI (x : Nat) : Int := match hv x with
  | some n => (n : Int)
  | none => -1
theorem hvI_fin : ∀ x : Fin 256, (Lib.indexByte [48, 49, 50, 51, 52, 53, 54, 55, 56, 57, 97, 98, 99, 100, 101, 102] (UInt8.ofNat x.val) : Int) = hvI x.val := by decide +kernel
theorem digit_is {x : Nat} (h : x < 256) (w : World) :
    Calls Tryd.prog 99 #[.string ⟨#[48, 49, 50, 51, 52, 53, 54, 55, 56, 57, 97, 98, 99, 100, 101, 102]⟩, .int .u8 (x : Int)] w fun e w' => e = .returned (.int .i64 (hvI x)) ∧ Below w.heap.size w w' := by
  refine (Tryd.strings_IndexByte _ _ w).mono ?_
  rintro e w' ⟨rfl, rfl⟩
  refine ⟨?_, Below.refl _ _⟩
  rw [← hvI_fin ⟨x, h⟩]
  rfl
theorem or_fin : ∀ p q : Fin 16, bits .or .i64 ((p.val : Int) * 16) (q.val : Int) = ((p.val * 16 + q.val : Nat) : Int) := by decide +kernel
theorem or_is {p q : Nat} (hp : p < 16) (hq : q < 16) : bits .or .i64 ((p : Int) * 16) (q : Int) = ((p * 16 + q : Nat) : Int) := or_fin ⟨p, hp⟩ ⟨q, hq⟩

/-- what first answers -/
def fstA (l : List Nat) : Nat × Nat := (fst l).getD (0, 0)
theorem isAt {l : List Nat} {i : Nat} (h : i < l.length) : ∃ c, l[i]? = some c := ⟨l[i], List.getElem?_eq_getElem h⟩

set_option maxRecDepth 32000 in
set_option maxHeartbeats 4000000 in
theorem first_is {l : List Nat} (h8 : B8 l) (hl : l.length ≤ 140737488355328) (hne : l ≠ []) (w : World) :
    Calls Tryd.prog 84 #[.string (ofNats l)] w fun e w' => e = .returned (.tuple #[.int .u8 ((fstA l).1 : Int), .int .i64 ((fstA l).2 : Int)]) ∧ Below w.heap.size w w' := by
  have H8 := hid h8
  have hsz : (ofNats l).size = l.length := ofNats_size l
  have hpos : 0 < l.length := List.length_pos_iff.2 hne
  obtain ⟨a, ha⟩ := isAt hpos
  have ha8 : a < 256 := h8 a (List.mem_of_getElem? ha)
  have hi0 : ∀ w, (Instr.index 9 (.string (ofNats l)) (.int .i64 0)).run Tryd.prog w = .ok (.int .u8 (a : Int)) w := fun w => index_ofNats (k := 0) h8 ha w
  have HA := hid ha
  clear h8 ha hne
  cases hp : plB a
  · by_cases h37 : a = 37
    · by_cases h3 : l.length < 3
      · have HF : Hid (fstA l = (0, 0)) := hid (by
          have ha := HA.out
          unfold fstA
          rcases l with _ | ⟨b, _ | ⟨x, _ | ⟨y, r⟩⟩⟩
          · rfl
          · simp at ha; subst ha; simp [fst, hp]
          · simp at ha; subst ha; simp [fst, hp]
          · simp at h3; omega)
        subst h37
        clear HA
        go_enter Tryd.func84, Tryd.ntmps84
        go_wp2_with fail
        refine (plain_is ha8 hp _).mono ?_
        rintro e w1 ⟨rfl, rfl⟩
        go_wp2_with fail
        go_ret2
        exact ⟨by rw [HF.out]; rfl, Below.refl _ _⟩
      · obtain ⟨x, hx⟩ := isAt (show 1 < l.length by omega)
        obtain ⟨y, hy⟩ := isAt (show 2 < l.length by omega)
        have hx8 : x < 256 := H8.out x (List.mem_of_getElem? hx)
        have hy8 : y < 256 := H8.out y (List.mem_of_getElem? hy)
        have hi1 : ∀ w, (Instr.index 9 (.string (ofNats l)) (.int .i64 1)).run Tryd.prog w = .ok (.int .u8 (x : Int)) w := fun w => index_ofNats (k := 1) H8.out hx w
        have hi2 : ∀ w, (Instr.index 9 (.string (ofNats l)) (.int .i64 2)).run Tryd.prog w = .ok (.int .u8 (y : Int)) w := fun w => index_ofNats (k := 2) H8.out hy w
        have HL : Hid (∃ r, l = a :: x :: y :: r) := hid (by
          have ha := HA.out
          rcases l with _ | ⟨b, _ | ⟨x', _ | ⟨y', r⟩⟩⟩
          · simp at h3
          · simp at h3
          · simp at h3
          · simp at ha hx hy; exact ⟨r, by rw [ha, hx, hy]⟩)
        subst h37
        have h3' : 3 ≤ l.length := by omega
        clear HA hx hy h3
        go_enter Tryd.func84, Tryd.ntmps84
        go_wp2_with fail
        refine (plain_is ha8 hp _).mono ?_
        rintro e w1 ⟨rfl, rfl⟩
        go_wp2_with fail
        have HX := hid (digit_is hx8)
        have HY := hid (digit_is hy8)
        refine wp_region_quiet_below (by kernel_rfl) (by kernel_rfl) ?_
        repeat (go_big_quiet_step (first | (go_at_call 99; exact Calls.regrown_of (HX.out _)) | (go_at_call 99; exact Calls.regrown_of (HY.out _))))
        refine wpQuiet_nil ?_
        intro w2 hw2
        replace hw2 := below_of_regrown hw2
        clear HX HY
        cases hvx : hv x with
        | none =>
          have ex : hvI x = -1 := by rw [hvI, hvx]
          have HF : Hid (fstA l = (0, 0)) := hid (by obtain ⟨r, rfl⟩ := HL.out; simp [fstA, fst, hp, hvx])
          rw [ex]
          go_wp2_with fail
          go_ret2
          exact ⟨by rw [HF.out]; rfl, hw2⟩
        | some n =>
          have ex : hvI x = n := by rw [hvI, hvx]
          have hn16 := (hx_hv hvx).2
          rw [ex]
          cases hvy : hv y with
          | none =>
            have ey : hvI y = -1 := by rw [hvI, hvy]
            have HF : Hid (fstA l = (0, 0)) := hid (by obtain ⟨r, rfl⟩ := HL.out; simp [fstA, fst, hp, hvx, hvy])
            rw [ey]
            go_wp2_with fail
            go_ret2
            exact ⟨by rw [HF.out]; rfl, hw2⟩
          | some m =>
            have ey : hvI y = m := by rw [hvI, hvy]
            have hm16 := (hx_hv hvy).2
            have hor := or_is hn16 hm16
            rw [ey]
            have hb8 : n * 16 + m < 256 := by omega
            cases hq : plB (n * 16 + m)
            · have HF : Hid (fstA l = (n * 16 + m, 3)) := hid (by obtain ⟨r, rfl⟩ := HL.out; simp [fstA, fst, hp, hvx, hvy, hq])
              go_wp2_with fail
              refine (plain_is hb8 hq _).mono ?_
              rintro e w3 ⟨rfl, rfl⟩
              go_wp2_with fail
              go_ret2
              exact ⟨by rw [HF.out]; rfl, hw2⟩
            · have HF : Hid (fstA l = (0, 0)) := hid (by obtain ⟨r, rfl⟩ := HL.out; simp [fstA, fst, hp, hvx, hvy, hq])
              go_wp2_with fail
              refine (plain_is hb8 hq _).mono ?_
              rintro e w3 ⟨rfl, rfl⟩
              go_wp2_with fail
              go_ret2
              exact ⟨by rw [HF.out]; rfl, hw2⟩
    · have HF : Hid (fstA l = (0, 0)) := hid (by
        have ha := HA.out
        unfold fstA
        rcases l with _ | ⟨b, _ | ⟨x, _ | ⟨y, r⟩⟩⟩
        · rfl
        · simp at ha; subst ha; simp [fst, hp]
        · simp at ha; subst ha; simp [fst, hp]
        · simp at ha; subst ha; simp [fst, hp, h37])
      have h37' : ((a : Int) == 37) = false := by simp; omega
      clear HA
      go_enter Tryd.func84, Tryd.ntmps84
      go_wp2_with fail
      refine (plain_is ha8 hp _).mono ?_
      rintro e w1 ⟨rfl, rfl⟩
      go_wp2_with fail
      go_ret2
      exact ⟨by rw [HF.out]; rfl, Below.refl _ _⟩
  · have HF : Hid (fstA l = (a, 1)) := hid (by
      have ha := HA.out
      rcases l with _ | ⟨b, r⟩
      · simp at ha
      · simp at ha; subst ha; simp [fstA, fst, hp])
    clear HA
    go_enter Tryd.func84, Tryd.ntmps84
    go_wp2_with fail
    refine (plain_is ha8 hp _).mono ?_
    rintro e w1 ⟨rfl, rfl⟩
    go_wp2_with fail
    go_ret2
    exact ⟨by rw [HF.out]; rfl, Below.refl _ _⟩

end Go.Proofs.YtfafkohghgliaabDoor.Rt
