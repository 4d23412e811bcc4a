import Derived.Test.YtodolbekbeccbabDoorField
namespace Go.Proofs.YtodolbekbeccbabDoor
open Go.RowKit Go.Sort

/-- the three fields of a text -/
def f1 (l : List UInt8) : List UInt8 := (Lib.cut l [46]).1
def r1 (l : List UInt8) : List UInt8 := (Lib.cut l [46]).2.1
def f2 (l : List UInt8) : List UInt8 := (Lib.cut (r1 l) [46]).1
def f3 (l : List UInt8) : List UInt8 := (Lib.cut (r1 l) [46]).2.1
/-- the numbers that a text spells -/
def prs (l : List UInt8) : Option (Nat × Nat × Nat) :=
  if 42 < l.length then none else
  match pf 64 (f1 l), pf 32 (f2 l), pf 32 (f3 l) with
  | some a, some b, some c => some (a, b, c)
  | _, _, _ => none

theorem cut_le (l sep : List UInt8) : (Lib.cut l sep).1.length ≤ l.length ∧ (Lib.cut l sep).2.1.length ≤ l.length := by
  unfold Lib.cut
  split
  · exact ⟨by simp; omega, by simp⟩
  · exact ⟨Nat.le_refl _, by simp⟩

def str (l : List UInt8) : ByteArray := ⟨l.toArray⟩
theorem str_data (l : List UInt8) : (str l).data.toList = l := rfl
theorem str_size (l : List UInt8) : (str l).size = l.length := by simp [str, ByteArray.size]

theorem cut_is (s : ByteArray) (hs : s.size ≤ 100) (w : World) (hv : Vars w) :
    Calls Tryd.prog 11 #[.string s, .string ⟨#[46]⟩] w fun e w' => (∃ b, e = .returned (.tuple #[.string (str (Lib.cut s.data.toList [46]).1), .string (str (Lib.cut s.data.toList [46]).2.1), .bool b])) ∧ Below w.heap.size w w' := by
  obtain ⟨m, hm⟩ := hv.max
  refine (Tryd.strings_Cut s ⟨#[46]⟩ m w (by omega) hm).mono ?_
  rintro e w' ⟨rfl, n, rfl⟩
  exact ⟨⟨_, rfl⟩, below_drewN _ _⟩

set_option maxHeartbeats 1000000 in
theorem parse_long (s : ByteArray) (w : World) (hs : 42 < s.size) :
    Calls Tryd.prog 7 #[.string s] w fun e w' => e = .returned (.tuple #[stv 0 0 0, .int .i64 10]) ∧ Below w.heap.size w w' := by
  go_enter Tryd.func7, Tryd.ntmps7
  go_wp2_with fail
  exact bodyPost_ret (v := .tuple #[stv 0 0 0, .int .i64 10]) (by simp [results, Tryd.results7, go_sem]) rfl ⟨rfl, Below.al (Below.refl _ _) _⟩

theorem wrap_u32_eq (n : Int) : IntKind.u32.wrap n = n % 4294967296 := by simp [IntKind.wrap, IntKind.bits, IntKind.signed]

theorem Below.put0 {w wx : World} (h : Below w.heap.size w wx) {a b c : Int} :
    Below w.heap.size w (((wx.setCell ⟨w.heap.size, 0, none⟩ (.int .u64 a)).setCell ⟨w.heap.size, 1, none⟩ (.int .u32 b)).setCell ⟨w.heap.size, 2, none⟩ (.int .u32 c)) :=
  Below.setCell (p := ⟨w.heap.size, 2, none⟩) (Below.setCell (p := ⟨w.heap.size, 1, none⟩) (Below.setCell (p := ⟨w.heap.size, 0, none⟩) h (Nat.le_refl _) _) (Nat.le_refl _) _) (Nat.le_refl _) _

set_option maxHeartbeats 2000000 in
theorem parse_short (s : ByteArray) (w : World) (hs : s.size ≤ 42) (hv : Vars w) :
    Calls Tryd.prog 7 #[.string s] w fun e w' => (∃ (a b c : Nat) (er : Int), e = .returned (.tuple #[stv a b c, .int .i64 er]) ∧ ((prs s.data.toList = some (a, b, c) ∧ er = 0) ∨ (prs s.data.toList = none ∧ a = 0 ∧ b = 0 ∧ c = 0 ∧ er = 10))) ∧ Below w.heap.size w w' := by
  have HV := hid hv
  clear hv
  obtain ⟨l, hl⟩ : ∃ l, l = s.data.toList := ⟨_, rfl⟩
  have hlen : l.length ≤ 42 := by rw [hl]; simpa using hs
  have hx1 := cut_le l [46]
  have hx2 := cut_le (r1 l) [46]
  have z1 : Hid ((str (f1 l)).size ≤ 100) := by show (str (f1 l)).size ≤ 100; rw [str_size]; unfold f1; omega
  have zr : Hid ((str (r1 l)).size ≤ 100) := by show (str (r1 l)).size ≤ 100; rw [str_size]; unfold r1; omega
  have hr : (r1 l).length ≤ 42 := by unfold r1; omega
  have z2 : Hid ((str (f2 l)).size ≤ 100) := by show (str (f2 l)).size ≤ 100; rw [str_size]; unfold f2; omega
  have z3 : Hid ((str (f3 l)).size ≤ 100) := by show (str (f3 l)).size ≤ 100; rw [str_size]; unfold f3; omega
  have k1 : Hid (∀ w, Vars w → Calls Tryd.prog 11 #[.string s, .string ⟨#[46]⟩] w fun e w' => (∃ b, e = .returned (.tuple #[.string (str (f1 l)), .string (str (r1 l)), .bool b])) ∧ Below w.heap.size w w') := fun w hv => by
    have := cut_is s (by omega) w hv
    rw [← hl] at this
    exact this
  have k2 : Hid (∀ w, Vars w → Calls Tryd.prog 11 #[.string (str (r1 l)), .string ⟨#[46]⟩] w fun e w' => (∃ b, e = .returned (.tuple #[.string (str (f2 l)), .string (str (f3 l)), .bool b])) ∧ Below w.heap.size w w') := fun w hv => by
    have := cut_is (str (r1 l)) zr.out w hv
    rw [str_data] at this
    exact this
  have m1 := hid (fun w (hv : Vars w) => field64 (str (f1 l)) z1.out w hv)
  have m2 := hid (fun w (hv : Vars w) => field32 (str (f2 l)) z2.out w hv)
  have m3 := hid (fun w (hv : Vars w) => field32 (str (f3 l)) z3.out w hv)
  rw [str_data] at m1 m2 m3
  have HL := hid hl
  have hlen' : Hid (¬ 42 < l.length) := by show ¬ 42 < l.length; omega
  clear hl hx1 hx2 hr hlen
  go_enter Tryd.func7, Tryd.ntmps7
  go_wp2_with fail
  refine (k1.out _ (HV.out.later (Below.al (Below.refl _ _) _))).mono ?_
  rintro e w1 ⟨⟨b1, rfl⟩, hb1⟩
  have HB := hid (Below.on (Below.al (Below.refl _ _) _) hb1)
  have A := (show StampAt (w.alloc (.cells #[.int .u64 0, .int .u32 0, .int .u32 0] 25)) w.heap.size 0 0 0 from ⟨by simp [go_sem], by simp [go_sem], by simp [go_sem]⟩).later hb1
  have Lo := (show Loose (w.alloc (.cells #[.int .u64 0, .int .u32 0, .int .u32 0] 25)) w.heap.size from fun o => by simp [go_sem]).later hb1 (by simp)
  clear hb1
  go_wp2_with fail
  refine (k2.out _ (HV.out.later HB.out)).mono ?_
  rintro e w2 ⟨⟨b2, rfl⟩, hb⟩
  replace Lo := Lo.later hb (World.block_lt_of_cell? _ _ A.1)
  replace A := A.later hb
  have HB := hid (Below.on HB.out hb)
  clear hb
  go_wp2_with fail
  refine (m1.out _ (HV.out.later HB.out)).mono ?_
  rintro e w3 ⟨⟨v1, n1, rfl, g1⟩, hb⟩
  replace Lo := Lo.later hb (World.block_lt_of_cell? _ _ A.1)
  replace A := A.later hb
  have HB := hid (Below.on HB.out hb)
  have G1 := hid g1
  clear g1
  clear hb
  go_wp2_with fail
  refine (m2.out _ (HV.out.later HB.out)).mono ?_
  rintro e w4 ⟨⟨v2, n2, rfl, g2⟩, hb⟩
  replace Lo := Lo.later hb (World.block_lt_of_cell? _ _ A.1)
  replace A := A.later hb
  have HB := hid (Below.on HB.out hb)
  have G2 := hid g2
  clear g2
  clear hb
  go_wp2_with fail
  refine (m3.out _ (HV.out.later HB.out)).mono ?_
  rintro e w5 ⟨⟨v3, n3, rfl, g3⟩, hb⟩
  replace Lo := Lo.later hb (World.block_lt_of_cell? _ _ A.1)
  replace A := A.later hb
  have HB := hid (Below.on HB.out hb)
  have G3 := hid g3
  clear g3
  clear hb
  have ⟨a0, a1, a2⟩ := A
  have fz : ∀ o, w5.frozen? ⟨w.heap.size, o, none⟩ = false := Lo
  have hw2 : IntKind.u32.wrap (v2 : Int) = v2 := by rw [wrap_u32_eq]; omega
  have hw3 : IntKind.u32.wrap (v3 : Int) = v3 := by rw [wrap_u32_eq]; omega
  have hprs : prs l = match pf 64 (f1 l), pf 32 (f2 l), pf 32 (f3 l) with
    | some a, some b, some c => some (a, b, c)
    | _, _, _ => none := by unfold prs; rw [if_neg hlen'.out]
  have g1 := G1.out; have g2 := G2.out; have g3 := G3.out
  clear G1 G2 G3 Lo A m1 m2 m3 k1 k2 z1 zr z2 z3 HV
  generalize pf 64 (f1 l) = o1 at *
  generalize pf 32 (f2 l) = o2 at *
  generalize pf 32 (f3 l) = o3 at *
  rw [HL.out] at hprs
  have HP := hid hprs
  clear hprs hlen' HL
  rcases o1 with _ | u1
  · have HG := hid HP.out
    clear g1 g2 g3 HP
    rcases o2 with _ | u2 <;> rcases o3 with _ | u3
    all_goals
      go_wp2_with fail
      exact bodyPost_ret (v := .tuple #[stv (0 : Nat) (0 : Nat) (0 : Nat), .int .i64 10]) (by simp [results, Tryd.results7, go_sem, a0, a1, a2]) rfl ⟨⟨0, 0, 0, 10, rfl, .inr ⟨HG.out, rfl, rfl, rfl, rfl⟩⟩, Below.put0 HB.out⟩
  · rcases o2 with _ | u2
    · have HG := hid HP.out
      clear g1 g2 g3 HP
      rcases o3 with _ | u3
      all_goals
        go_wp2_with fail
        exact bodyPost_ret (v := .tuple #[stv (0 : Nat) (0 : Nat) (0 : Nat), .int .i64 10]) (by simp [results, Tryd.results7, go_sem, a0, a1, a2]) rfl ⟨⟨0, 0, 0, 10, rfl, .inr ⟨HG.out, rfl, rfl, rfl, rfl⟩⟩, Below.put0 HB.out⟩
    · rcases o3 with _ | u3
      · have HG := hid HP.out
        clear g1 g2 g3 HP
        go_wp2_with fail
        exact bodyPost_ret (v := .tuple #[stv (0 : Nat) (0 : Nat) (0 : Nat), .int .i64 10]) (by simp [results, Tryd.results7, go_sem, a0, a1, a2]) rfl ⟨⟨0, 0, 0, 10, rfl, .inr ⟨HG.out, rfl, rfl, rfl, rfl⟩⟩, Below.put0 HB.out⟩
      · obtain rfl : v1 = u1 := g1 u1 rfl
        obtain rfl : v2 = u2 := g2 u2 rfl
        obtain rfl : v3 = u3 := g3 u3 rfl
        have HG := hid HP.out
        clear g1 g2 g3 HP
        go_wp2_with fail
        exact bodyPost_ret (v := .tuple #[stv v1 v2 v3, .int .i64 0]) (by simp [results, Tryd.results7, go_sem, a0, a1, a2]) rfl ⟨⟨v1, v2, v3, 0, rfl, .inl ⟨HG.out, rfl⟩⟩, Below.put0 HB.out⟩

end Go.Proofs.YtodolbekbeccbabDoor
