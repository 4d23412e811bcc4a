import Derived.Test.YtchfoipkaookmabDoorWItem
namespace Go.Proofs.YtchfoipkaookmabDoor
open Go.RowKit Go.Sort
set_option linter.unusedVariables false

set_option maxHeartbeats 400000 in
theorem put_1 {w : World} {A : Nat → Prop} {b o : Nat} {bs : List Nat} {x : It} (hk : x.kind = 1) (hx : x.ok w) (h : EncAt w A b o bs) (hA : ∀ k, A k → k < w.heap.size) (hp : PowTab w) (hl : bs.length + x.bulk ≤ 4611686018427387904) :
    Calls Tryd.prog 14 #[.pointer (some ⟨b, o, none⟩), x.val] w fun e w' => e = .returned (.tuple #[]) ∧ Cel b o 2 w w' ∧ EncAt w' A b o (bs ++ x.bytes) := by
  have hb : x.bytes = [x.n % 256] := by unfold It.bytes; simp [hk]
  rw [hb]
  clear hb
  obtain ⟨wa, hwa⟩ : ∃ wa, wa = w.alloc (.cells x.cells 41) := ⟨_, rfl⟩
  have hvl : x.val = .agg x.cells := rfl
  have hba : Below w.heap.size w wa := by rw [hwa]; exact Below.al (Below.refl _ _) _
  have hbx : BoxI wa w.heap.size x := by rw [hwa]; exact boxI w x _
  have ⟨c0, c1, c2, c3, c4, c5, c6⟩ := hbx
  have HX := hid (hx.later hba)
  have HE := hid (h.later hba)
  have HA : Hid (∀ k, A k → k < wa.heap.size) := fun k hk => Nat.lt_of_lt_of_le (hA k hk) hba.size
  have HP := hid (hp.later hba)
  have HB := hid hba
  have HL : Hid (bs.length + (x.s.length + x.l.length + (x.l.flatMap eText).length + 30) ≤ 4611686018427387904) := hl
  have hn := hx.n
  have HWA := hid hwa
  have hbl := h.lt
  rw [hk] at c0
  clear hx h hA hp hba hbx hl hwa
  have hw := wrap_u8 x.n
  obtain ⟨y, hy⟩ : ∃ y, y = x.n % 256 := ⟨_, rfl⟩
  rw [← hy] at hw ⊢
  have HY : Hid (y < 256) := (by show y < 256; omega)
  clear hy
  go_enter Tryd.func14, Tryd.ntmps14
  go_wp2_with fail
  rw [← HWA.out]
  refine (byte_any HE.out HY.out HA.out (by have := HL.out; omega)).mono ?_
  rintro e w1 ⟨rfl, hc, he⟩
  go_wp2_with fail
  first | go_end0 | refine bodyPost_ret (results_none rfl _ _ _) rfl ?_
  exact ⟨rfl, (Cel.of_below HB.out).trans hc, he⟩

set_option maxHeartbeats 400000 in
theorem put_2 {w : World} {A : Nat → Prop} {b o : Nat} {bs : List Nat} {x : It} (hk : x.kind = 2) (hx : x.ok w) (h : EncAt w A b o bs) (hA : ∀ k, A k → k < w.heap.size) (hp : PowTab w) (hl : bs.length + x.bulk ≤ 4611686018427387904) :
    Calls Tryd.prog 14 #[.pointer (some ⟨b, o, none⟩), x.val] w fun e w' => e = .returned (.tuple #[]) ∧ Cel b o 2 w w' ∧ EncAt w' A b o (bs ++ x.bytes) := by
  have hb : x.bytes = [if x.n % 2 = 1 then 1 else 0] := by unfold It.bytes; simp [hk]
  rw [hb]
  clear hb
  obtain ⟨wa, hwa⟩ : ∃ wa, wa = w.alloc (.cells x.cells 41) := ⟨_, rfl⟩
  have hvl : x.val = .agg x.cells := rfl
  have hba : Below w.heap.size w wa := by rw [hwa]; exact Below.al (Below.refl _ _) _
  have hbx : BoxI wa w.heap.size x := by rw [hwa]; exact boxI w x _
  have ⟨c0, c1, c2, c3, c4, c5, c6⟩ := hbx
  have HX := hid (hx.later hba)
  have HE := hid (h.later hba)
  have HA : Hid (∀ k, A k → k < wa.heap.size) := fun k hk => Nat.lt_of_lt_of_le (hA k hk) hba.size
  have HP := hid (hp.later hba)
  have HB := hid hba
  have HL : Hid (bs.length + (x.s.length + x.l.length + (x.l.flatMap eText).length + 30) ≤ 4611686018427387904) := hl
  have hn := hx.n
  have HWA := hid hwa
  have hbl := h.lt
  rw [hk] at c0
  clear hx h hA hp hba hbx hl hwa
  have hw := and_one hn
  obtain ⟨y, hy⟩ : ∃ y, y = x.n % 2 := ⟨_, rfl⟩
  rw [← hy] at hw ⊢
  obtain ⟨f, hf⟩ : ∃ f : Bool, decide (y = 1) = f := ⟨_, rfl⟩
  have hf1 : decide ((y : Int) = 1) = f := by rw [← hf]; congr 1; exact propext (by omega)
  have hf2 : ((y : Int) == 1) = f := by rw [← hf1]; rfl
  have hb : (if y = 1 then 1 else 0 : Nat) = if f then 1 else 0 := by rw [← hf]; by_cases h : y = 1 <;> simp [h]
  rw [hb]
  obtain ⟨g, hg⟩ : ∃ g : Nat, g = if f then 1 else 0 := ⟨_, rfl⟩
  rw [← hg]
  have HG := hid hg
  clear hy hb hf hg
  go_enter Tryd.func14, Tryd.ntmps14
  go_wp2_with fail
  rw [← HWA.out]
  refine (flag_any (v := f) HE.out HA.out (by have := HL.out; omega)).mono ?_
  rintro e w1 ⟨rfl, hc, he⟩
  rw [← HG.out] at he
  go_wp2_with fail
  first | go_end0 | refine bodyPost_ret (results_none rfl _ _ _) rfl ?_
  exact ⟨rfl, (Cel.of_below HB.out).trans hc, he⟩

set_option maxHeartbeats 400000 in
theorem put_3 {w : World} {A : Nat → Prop} {b o : Nat} {bs : List Nat} {x : It} (hk : x.kind = 3) (hx : x.ok w) (h : EncAt w A b o bs) (hA : ∀ k, A k → k < w.heap.size) (hp : PowTab w) (hl : bs.length + x.bulk ≤ 4611686018427387904) :
    Calls Tryd.prog 14 #[.pointer (some ⟨b, o, none⟩), x.val] w fun e w' => e = .returned (.tuple #[]) ∧ Cel b o 2 w w' ∧ EncAt w' A b o (bs ++ x.bytes) := by
  have hb : x.bytes = vb x.n := by unfold It.bytes; simp [hk]
  rw [hb]
  clear hb
  obtain ⟨wa, hwa⟩ : ∃ wa, wa = w.alloc (.cells x.cells 41) := ⟨_, rfl⟩
  have hvl : x.val = .agg x.cells := rfl
  have hba : Below w.heap.size w wa := by rw [hwa]; exact Below.al (Below.refl _ _) _
  have hbx : BoxI wa w.heap.size x := by rw [hwa]; exact boxI w x _
  have ⟨c0, c1, c2, c3, c4, c5, c6⟩ := hbx
  have HX := hid (hx.later hba)
  have HE := hid (h.later hba)
  have HA : Hid (∀ k, A k → k < wa.heap.size) := fun k hk => Nat.lt_of_lt_of_le (hA k hk) hba.size
  have HP := hid (hp.later hba)
  have HB := hid hba
  have HL : Hid (bs.length + (x.s.length + x.l.length + (x.l.flatMap eText).length + 30) ≤ 4611686018427387904) := hl
  have hn := hx.n
  have HWA := hid hwa
  have hbl := h.lt
  rw [hk] at c0
  clear hx h hA hp hba hbx hl hwa
  go_enter Tryd.func14, Tryd.ntmps14
  go_wp2_with fail
  rw [← HWA.out]
  refine (var_any HE.out hn HA.out (by have := HL.out; omega)).mono ?_
  rintro e w1 ⟨rfl, hc, he⟩
  go_wp2_with fail
  first | go_end0 | refine bodyPost_ret (results_none rfl _ _ _) rfl ?_
  exact ⟨rfl, (Cel.of_below HB.out).trans hc, he⟩

set_option maxHeartbeats 400000 in
theorem put_4 {w : World} {A : Nat → Prop} {b o : Nat} {bs : List Nat} {x : It} (hk : x.kind = 4) (hx : x.ok w) (h : EncAt w A b o bs) (hA : ∀ k, A k → k < w.heap.size) (hp : PowTab w) (hl : bs.length + x.bulk ≤ 4611686018427387904) :
    Calls Tryd.prog 14 #[.pointer (some ⟨b, o, none⟩), x.val] w fun e w' => e = .returned (.tuple #[]) ∧ Cel b o 2 w w' ∧ EncAt w' A b o (bs ++ x.bytes) := by
  have hb : x.bytes = eText x.s := by unfold It.bytes; simp [hk]
  rw [hb]
  clear hb
  obtain ⟨wa, hwa⟩ : ∃ wa, wa = w.alloc (.cells x.cells 41) := ⟨_, rfl⟩
  have hvl : x.val = .agg x.cells := rfl
  have hba : Below w.heap.size w wa := by rw [hwa]; exact Below.al (Below.refl _ _) _
  have hbx : BoxI wa w.heap.size x := by rw [hwa]; exact boxI w x _
  have ⟨c0, c1, c2, c3, c4, c5, c6⟩ := hbx
  have HX := hid (hx.later hba)
  have HE := hid (h.later hba)
  have HA : Hid (∀ k, A k → k < wa.heap.size) := fun k hk => Nat.lt_of_lt_of_le (hA k hk) hba.size
  have HP := hid (hp.later hba)
  have HB := hid hba
  have HL : Hid (bs.length + (x.s.length + x.l.length + (x.l.flatMap eText).length + 30) ≤ 4611686018427387904) := hl
  have hn := hx.n
  have HWA := hid hwa
  have hbl := h.lt
  rw [hk] at c0
  clear hx h hA hp hba hbx hl hwa
  go_enter Tryd.func14, Tryd.ntmps14
  go_wp2_with fail
  rw [← HWA.out]
  refine (text_any HE.out HX.out.s HA.out (by have := HL.out; omega)).mono ?_
  rintro e w1 ⟨rfl, hc, he⟩
  go_wp2_with fail
  first | go_end0 | refine bodyPost_ret (results_none rfl _ _ _) rfl ?_
  exact ⟨rfl, (Cel.of_below HB.out).trans hc, he⟩

set_option maxHeartbeats 400000 in
theorem put_5 {w : World} {A : Nat → Prop} {b o : Nat} {bs : List Nat} {x : It} (hk : x.kind = 5) (hx : x.ok w) (h : EncAt w A b o bs) (hA : ∀ k, A k → k < w.heap.size) (hp : PowTab w) (hl : bs.length + x.bulk ≤ 4611686018427387904) :
    Calls Tryd.prog 14 #[.pointer (some ⟨b, o, none⟩), x.val] w fun e w' => e = .returned (.tuple #[]) ∧ Cel b o 2 w w' ∧ EncAt w' A b o (bs ++ x.bytes) := by
  have hb : x.bytes = eTexts x.l := by unfold It.bytes; simp [hk]
  rw [hb]
  clear hb
  obtain ⟨wa, hwa⟩ : ∃ wa, wa = w.alloc (.cells x.cells 41) := ⟨_, rfl⟩
  have hvl : x.val = .agg x.cells := rfl
  have hba : Below w.heap.size w wa := by rw [hwa]; exact Below.al (Below.refl _ _) _
  have hbx : BoxI wa w.heap.size x := by rw [hwa]; exact boxI w x _
  have ⟨c0, c1, c2, c3, c4, c5, c6⟩ := hbx
  have HX := hid (hx.later hba)
  have HE := hid (h.later hba)
  have HA : Hid (∀ k, A k → k < wa.heap.size) := fun k hk => Nat.lt_of_lt_of_le (hA k hk) hba.size
  have HP := hid (hp.later hba)
  have HB := hid hba
  have HL : Hid (bs.length + (x.s.length + x.l.length + (x.l.flatMap eText).length + 30) ≤ 4611686018427387904) := hl
  have hn := hx.n
  have HWA := hid hwa
  have hbl := h.lt
  rw [hk] at c0
  clear hx h hA hp hba hbx hl hwa
  have HL2 : Hid (x.l.length ≤ 1099511627776) := (by have := HX.out.bulk; unfold It.bulk at this; show x.l.length ≤ _; omega)
  go_enter Tryd.func14, Tryd.ntmps14
  go_wp2_with fail
  rw [← HWA.out]
  refine (roomy_any HX.out.l HL2.out HP.out rfl).mono ?_
  rintro e w1 ⟨rfl, hb1, hr1⟩
  have HB1 := hid hb1
  have HR1 := hid hr1
  have HW : Hid (w.heap.size ≤ wa.heap.size) := HB.out.size
  clear hb1 hr1
  go_wp2_with fail
  refine (texts_any (HE.out.later HB1.out) HR1.out (fun c off e => by have := HW.out; injection e with e; injection e with e; omega) (fun k hk => Nat.lt_of_lt_of_le (HA.out k hk) HB1.out.size) (by have := HL.out; omega)).mono ?_
  rintro e w2 ⟨rfl, hc, he⟩
  go_wp2_with fail
  first | go_end0 | refine bodyPost_ret (results_none rfl _ _ _) rfl ?_
  exact ⟨rfl, ((Cel.of_below HB.out).on HB1.out).trans hc, he⟩

set_option maxHeartbeats 400000 in
theorem put_6 {w : World} {A : Nat → Prop} {b o : Nat} {bs : List Nat} {x : It} (hk : x.kind = 6) (hx : x.ok w) (h : EncAt w A b o bs) (hA : ∀ k, A k → k < w.heap.size) (hp : PowTab w) (hl : bs.length + x.bulk ≤ 4611686018427387904) :
    Calls Tryd.prog 14 #[.pointer (some ⟨b, o, none⟩), x.val] w fun e w' => e = .returned (.tuple #[]) ∧ Cel b o 2 w w' ∧ EncAt w' A b o (bs ++ x.bytes) := by
  have hb : x.bytes = x.s := by unfold It.bytes; simp [hk]
  rw [hb]
  clear hb
  obtain ⟨wa, hwa⟩ : ∃ wa, wa = w.alloc (.cells x.cells 41) := ⟨_, rfl⟩
  have hvl : x.val = .agg x.cells := rfl
  have hba : Below w.heap.size w wa := by rw [hwa]; exact Below.al (Below.refl _ _) _
  have hbx : BoxI wa w.heap.size x := by rw [hwa]; exact boxI w x _
  have ⟨c0, c1, c2, c3, c4, c5, c6⟩ := hbx
  have HX := hid (hx.later hba)
  have HE := hid (h.later hba)
  have HA : Hid (∀ k, A k → k < wa.heap.size) := fun k hk => Nat.lt_of_lt_of_le (hA k hk) hba.size
  have HP := hid (hp.later hba)
  have HB := hid hba
  have HL : Hid (bs.length + (x.s.length + x.l.length + (x.l.flatMap eText).length + 30) ≤ 4611686018427387904) := hl
  have hn := hx.n
  have HWA := hid hwa
  have hbl := h.lt
  rw [hk] at c0
  clear hx h hA hp hba hbx hl hwa
  go_enter Tryd.func14, Tryd.ntmps14
  go_wp2_with fail
  rw [← HWA.out]
  refine (raw_any HE.out HX.out.s HA.out (by have := HL.out; omega)).mono ?_
  rintro e w1 ⟨rfl, hc, he⟩
  go_wp2_with fail
  first | go_end0 | refine bodyPost_ret (results_none rfl _ _ _) rfl ?_
  exact ⟨rfl, (Cel.of_below HB.out).trans hc, he⟩

set_option maxHeartbeats 400000 in
theorem put_7 {w : World} {A : Nat → Prop} {b o : Nat} {bs : List Nat} {x : It} (hk : x.kind = 7) (hx : x.ok w) (h : EncAt w A b o bs) (hA : ∀ k, A k → k < w.heap.size) (hp : PowTab w) (hl : bs.length + x.bulk ≤ 4611686018427387904) :
    Calls Tryd.prog 14 #[.pointer (some ⟨b, o, none⟩), x.val] w fun e w' => e = .returned (.tuple #[]) ∧ Cel b o 2 w w' ∧ EncAt w' A b o (bs ++ x.bytes) := by
  have hb : x.bytes = pkN x.st := by unfold It.bytes; simp [hk]
  rw [hb]
  clear hb
  obtain ⟨wa, hwa⟩ : ∃ wa, wa = w.alloc (.cells x.cells 41) := ⟨_, rfl⟩
  have hvl : x.val = .agg x.cells := rfl
  have hba : Below w.heap.size w wa := by rw [hwa]; exact Below.al (Below.refl _ _) _
  have hbx : BoxI wa w.heap.size x := by rw [hwa]; exact boxI w x _
  have ⟨c0, c1, c2, c3, c4, c5, c6⟩ := hbx
  have HX := hid (hx.later hba)
  have HE := hid (h.later hba)
  have HA : Hid (∀ k, A k → k < wa.heap.size) := fun k hk => Nat.lt_of_lt_of_le (hA k hk) hba.size
  have HP := hid (hp.later hba)
  have HB := hid hba
  have HL : Hid (bs.length + (x.s.length + x.l.length + (x.l.flatMap eText).length + 30) ≤ 4611686018427387904) := hl
  have hn := hx.n
  have HWA := hid hwa
  have hbl := h.lt
  rw [hk] at c0
  clear hx h hA hp hba hbx hl hwa
  go_enter Tryd.func14, Tryd.ntmps14
  go_wp2_with fail
  rw [← HWA.out]
  refine (stampE_any HE.out HX.out.st HA.out (by have := HL.out; omega)).mono ?_
  rintro e w1 ⟨rfl, hc, he⟩
  go_wp2_with fail
  first | go_end0 | refine bodyPost_ret (results_none rfl _ _ _) rfl ?_
  exact ⟨rfl, (Cel.of_below HB.out).trans hc, he⟩

set_option maxHeartbeats 400000 in
theorem put_0 {w : World} {A : Nat → Prop} {b o : Nat} {bs : List Nat} {x : It} (hk : ¬ (1 ≤ x.kind ∧ x.kind ≤ 7)) (hx : x.ok w) (h : EncAt w A b o bs) (hA : ∀ k, A k → k < w.heap.size) (hp : PowTab w) (hl : bs.length + x.bulk ≤ 4611686018427387904) :
    Calls Tryd.prog 14 #[.pointer (some ⟨b, o, none⟩), x.val] w fun e w' => e = .returned (.tuple #[]) ∧ Cel b o 2 w w' ∧ EncAt w' A b o (bs ++ x.bytes) := by
  have hb : x.bytes = [] := by unfold It.bytes; rw [if_neg (by omega), if_neg (by omega), if_neg (by omega), if_neg (by omega), if_neg (by omega), if_neg (by omega), if_neg (by omega)]
  rw [hb]
  clear hb
  obtain ⟨wa, hwa⟩ : ∃ wa, wa = w.alloc (.cells x.cells 41) := ⟨_, rfl⟩
  have hvl : x.val = .agg x.cells := rfl
  have hba : Below w.heap.size w wa := by rw [hwa]; exact Below.al (Below.refl _ _) _
  have hbx : BoxI wa w.heap.size x := by rw [hwa]; exact boxI w x _
  have ⟨c0, c1, c2, c3, c4, c5, c6⟩ := hbx
  have HX := hid (hx.later hba)
  have HE := hid (h.later hba)
  have HA : Hid (∀ k, A k → k < wa.heap.size) := fun k hk => Nat.lt_of_lt_of_le (hA k hk) hba.size
  have HP := hid (hp.later hba)
  have HB := hid hba
  have HL : Hid (bs.length + (x.s.length + x.l.length + (x.l.flatMap eText).length + 30) ≤ 4611686018427387904) := hl
  have hn := hx.n
  have HWA := hid hwa
  have hbl := h.lt
  skip
  clear hx h hA hp hba hbx hl hwa
  have e1 : decide (x.kind = 1) = false := by simp; omega
  have f1 : (x.kind == 1) = false := by simp; omega
  have e2 : decide (x.kind = 2) = false := by simp; omega
  have f2 : (x.kind == 2) = false := by simp; omega
  have e3 : decide (x.kind = 3) = false := by simp; omega
  have f3 : (x.kind == 3) = false := by simp; omega
  have e4 : decide (x.kind = 4) = false := by simp; omega
  have f4 : (x.kind == 4) = false := by simp; omega
  have e5 : decide (x.kind = 5) = false := by simp; omega
  have f5 : (x.kind == 5) = false := by simp; omega
  have e6 : decide (x.kind = 6) = false := by simp; omega
  have f6 : (x.kind == 6) = false := by simp; omega
  have e7 : decide (x.kind = 7) = false := by simp; omega
  have f7 : (x.kind == 7) = false := by simp; omega
  have HK := hid hk
  clear hk
  go_enter Tryd.func14, Tryd.ntmps14
  go_wp2_with fail
  try rw [← HWA.out]
  first | go_end0 | refine bodyPost_ret (results_none rfl _ _ _) rfl ?_
  try rw [← HWA.out]
  try rw [List.append_nil]
  exact ⟨rfl, Cel.of_below HB.out, HE.out⟩

/-- an item is put -/
theorem putI_any {w : World} {A : Nat → Prop} {b o : Nat} {bs : List Nat} {x : It} (hx : x.ok w) (h : EncAt w A b o bs) (hA : ∀ k, A k → k < w.heap.size) (hp : PowTab w) (hl : bs.length + x.bulk ≤ 4611686018427387904) :
    Calls Tryd.prog 14 #[.pointer (some ⟨b, o, none⟩), x.val] w fun e w' => e = .returned (.tuple #[]) ∧ Cel b o 2 w w' ∧ EncAt w' A b o (bs ++ x.bytes) := by
  by_cases h0 : 1 ≤ x.kind ∧ x.kind ≤ 7
  · have : x.kind = 1 ∨ x.kind = 2 ∨ x.kind = 3 ∨ x.kind = 4 ∨ x.kind = 5 ∨ x.kind = 6 ∨ x.kind = 7 := by omega
    rcases this with hk | hk | hk | hk | hk | hk | hk
    · exact put_1 hk hx h hA hp hl
    · exact put_2 hk hx h hA hp hl
    · exact put_3 hk hx h hA hp hl
    · exact put_4 hk hx h hA hp hl
    · exact put_5 hk hx h hA hp hl
    · exact put_6 hk hx h hA hp hl
    · exact put_7 hk hx h hA hp hl
  · exact put_0 h0 hx h hA hp hl

end Go.Proofs.YtchfoipkaookmabDoor
