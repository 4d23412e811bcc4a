import Derived.Test.YtmbmagfdeadibaaDDoc
/- What the laws ask of the program's disk: its calls, told as a Dk. -/
namespace Go.Proofs.Ytmbmagfdeadibaa
open Go.RowKit Go.Sort
set_option linter.unusedVariables false

def I64 (n : Int) : Prop := -9223372036854775808 ≤ n ∧ n ≤ 9223372036854775807
abbrev ptr (p : Nat) : Value := .pointer (some ⟨p, 0, none⟩)
structure Face (R : World → (Nat → Prop) → Nat → Dk → Prop) : Prop where
  lt : ∀ {w F p d}, R w F p d → ∀ k, F k → k < w.heap.size
  keep : ∀ {w w' : World} {F G : Nat → Prop} {p : Nat} {d : Dk}, R w F p d → Onl G w w' → (∀ k, F k → ¬ G k) → R w' F p d
  ok : ∀ {w F p d}, R w F p d → d.ok
  new : ∀ (c : Int) (w : World), I64 c → Calls Try.prog 8 #[.int .i64 c] w fun e w' => ∃ p F, e = .returned (ptr p) ∧ R w' F p (Dk.new c) ∧ (∀ k, F k → w.heap.size ≤ k) ∧ Below w.heap.size w w'
  used : ∀ {w F p d}, R w F p d → Calls Try.prog 13 #[ptr p] w fun e w' => e = .returned (.int .i64 (d.used : Int)) ∧ Below w.heap.size w w'
  free : ∀ {w F p d}, R w F p d → Calls Try.prog 9 #[ptr p] w fun e w' => e = .returned (.int .i64 (d.free : Int)) ∧ Below w.heap.size w w'
  bytes : ∀ {w F p d}, R w F p d → ∀ s : Int, I64 s → Calls Try.prog 11 #[ptr p, .int .i64 s] w fun e w' => e = .returned (.string (ofNats (d.bytes s))) ∧ Below w.heap.size w w'
  synced : ∀ {w F p d}, R w F p d → ∀ s : Int, I64 s → Calls Try.prog 15 #[ptr p, .int .i64 s] w fun e w' => e = .returned (.int .i64 (d.synced s : Int)) ∧ Below w.heap.size w w'
  append : ∀ {w F p d}, R w F p d → ∀ (s : Int) {t : List Nat}, I64 s → B8 t → Calls Try.prog 12 #[ptr p, .int .i64 s, .string (ofNats t)] w fun e w' => e = .returned (.int .i64 (d.appE s t)) ∧ Moved R w w' F p (d.app s t)
  sync : ∀ {w F p d}, R w F p d → Calls Try.prog 14 #[ptr p] w fun e w' => e = .returned (.tuple #[]) ∧ Moved R w w' F p d.sync
  cut : ∀ {w F p d}, R w F p d → ∀ s n : Int, I64 s → I64 n → Calls Try.prog 24 #[ptr p, .int .i64 s, .int .i64 n] w fun e w' => e = .returned (.int .i64 (d.cutE s n)) ∧ Moved R w w' F p (d.cut s n)
  remove : ∀ {w F p d}, R w F p d → ∀ s : Int, I64 s → Calls Try.prog 25 #[ptr p, .int .i64 s] w fun e w' => e = .returned (.int .i64 (d.cutE s 0)) ∧ Moved R w w' F p (d.cut s 0)
  crash : ∀ {w F p d}, R w F p d → ∀ {k0 k1 : Int}, I64 k0 → I64 k1 → Calls Try.prog 18 #[ptr p, .int .i64 k0, .int .i64 k1] w fun e w' => e = .returned (.tuple #[]) ∧ Moved R w w' F p (d.crash k0 k1)
  clone : ∀ {w F p d}, R w F p d → Calls Try.prog 19 #[ptr p] w fun e w' => ∃ q G, e = .returned (ptr q) ∧ R w' G q d ∧ (∀ k, G k → w.heap.size ≤ k) ∧ Below w.heap.size w w'
variable {R : World → (Nat → Prop) → Nat → Dk → Prop}
theorem Face.later (I : Face R) {w w' : World} {F : Nat → Prop} {p : Nat} {d : Dk} (h : R w F p d) (hb : Below w.heap.size w w') : R w' F p d := I.keep (G := fun _ => False) h (Onl.of_below hb) (fun _ _ => id)
theorem Face.still (I : Face R) {w w' : World} {F : Nat → Prop} {p : Nat} {d : Dk} (h : R w F p d) (hb : Below w.heap.size w w') : Moved R w w' F p d := ⟨F, I.later h hb, Onl.of_below hb, fun k hk => .inl hk⟩
/-- a call on from a world in which something was laid -/
theorem Moved.from {w w1 w' : World} {F : Nat → Prop} {p : Nat} {d : Dk} (hb : Below w.heap.size w w1) (h : Moved R w1 w' F p d) : Moved R w w' F p d := by
  obtain ⟨F', h1, h2, h3⟩ := h
  exact ⟨F', h1, (Onl.of_below hb).trans h2, fun k hk => (h3 k hk).imp id (fun e => Nat.le_trans hb.size e)⟩

/-- a step -/
structure Stp where
  k : Int
  o : Int
  s : Int
  n : Int
  m : Int
  t : List Nat
abbrev Stp.cells (x : Stp) : Array Value := #[.int .i64 x.k, .int .i64 x.o, .int .i64 x.s, .int .i64 x.n, .int .i64 x.m, .string (ofNats x.t)]
abbrev Stp.val (x : Stp) : Value := .agg x.cells
structure Stp.ok (x : Stp) : Prop where
  k : I64 x.k
  o : I64 x.o
  s : I64 x.s
  n : I64 x.n
  m : I64 x.m
  t : B8 x.t
/-- what a step does to a disk -/
def Dk.act (d : Dk) (x : Stp) : Dk :=
  if x.k = 2 then d.app x.s x.t else if x.k = 3 then d.sync else if x.k = 6 then d.cut x.s x.n else if x.k = 7 then d.cut x.s 0 else if x.k = 10 then d.crash x.n x.m else d

set_option maxHeartbeats 2000000 in
theorem act_any (I : Face R) {w : World} {F : Nat → Prop} {p : Nat} {d : Dk} {x : Stp} (h : R w F p d) (hx : x.ok) :
    Calls Try.prog 10 #[ptr p, x.val] w fun e w' => e = .returned (.tuple #[]) ∧ Moved R w w' F p (d.act x) := by
  obtain ⟨wa, hwa⟩ : ∃ wa, wa = w.alloc (.cells x.cells 29) := ⟨_, rfl⟩
  have hba : Below w.heap.size w wa := by rw [hwa]; exact Below.al (Below.refl _ _) _
  have HB := hid hba
  have HR := hid (I.later h hba)
  have HW := hid hwa
  have HX := hid hx
  have HI := hid I
  clear h hx hba hwa I
  by_cases k2 : x.k = 2
  · have q2 : (x.k == 2) = true := by rw [k2]; rfl
    have e : d.act x = d.app x.s x.t := by unfold Dk.act; rw [if_pos k2]
    rw [e]
    clear e k2
    go_enter Try.func10, Try.ntmps10
    go_wp2_with fail
    rw [← HW.out]
    refine (HI.out.append HR.out x.s HX.out.s HX.out.t).mono ?_
    rintro e w1 ⟨rfl, hm⟩
    have HM := hid (hm.from HB.out)
    clear hm
    go_wp2_with fail
    go_end0
    exact ⟨rfl, HM.out⟩
  have q2 : (x.k == 2) = false := beq_eq_false_iff_ne.2 k2
  by_cases k3 : x.k = 3
  · have q3 : (x.k == 3) = true := by rw [k3]; rfl
    have e : d.act x = d.sync := by unfold Dk.act; rw [if_neg k2, if_pos k3]
    rw [e]
    clear e k2 k3
    go_enter Try.func10, Try.ntmps10
    go_wp2_with fail
    rw [← HW.out]
    refine (HI.out.sync HR.out).mono ?_
    rintro e w1 ⟨rfl, hm⟩
    have HM := hid (hm.from HB.out)
    clear hm
    go_wp2_with fail
    go_end0
    exact ⟨rfl, HM.out⟩
  have q3 : (x.k == 3) = false := beq_eq_false_iff_ne.2 k3
  by_cases k6 : x.k = 6
  · have q6 : (x.k == 6) = true := by rw [k6]; rfl
    have e : d.act x = d.cut x.s x.n := by unfold Dk.act; rw [if_neg k2, if_neg k3, if_pos k6]
    rw [e]
    clear e k2 k3 k6
    go_enter Try.func10, Try.ntmps10
    go_wp2_with fail
    rw [← HW.out]
    refine (HI.out.cut HR.out x.s x.n HX.out.s HX.out.n).mono ?_
    rintro e w1 ⟨rfl, hm⟩
    have HM := hid (hm.from HB.out)
    clear hm
    go_wp2_with fail
    go_end0
    exact ⟨rfl, HM.out⟩
  have q6 : (x.k == 6) = false := beq_eq_false_iff_ne.2 k6
  by_cases k7 : x.k = 7
  · have q7 : (x.k == 7) = true := by rw [k7]; rfl
    have e : d.act x = d.cut x.s 0 := by unfold Dk.act; rw [if_neg k2, if_neg k3, if_neg k6, if_pos k7]
    rw [e]
    clear e k2 k3 k6 k7
    go_enter Try.func10, Try.ntmps10
    go_wp2_with fail
    rw [← HW.out]
    refine (HI.out.remove HR.out x.s HX.out.s).mono ?_
    rintro e w1 ⟨rfl, hm⟩
    have HM := hid (hm.from HB.out)
    clear hm
    go_wp2_with fail
    go_end0
    exact ⟨rfl, HM.out⟩
  have q7 : (x.k == 7) = false := beq_eq_false_iff_ne.2 k7
  by_cases k10 : x.k = 10
  · have q10 : (x.k == 10) = true := by rw [k10]; rfl
    have e : d.act x = d.crash x.n x.m := by unfold Dk.act; rw [if_neg k2, if_neg k3, if_neg k6, if_neg k7, if_pos k10]
    rw [e]
    clear e k2 k3 k6 k7 k10
    go_enter Try.func10, Try.ntmps10
    go_wp2_with fail
    rw [← HW.out]
    refine (HI.out.crash HR.out HX.out.n HX.out.m).mono ?_
    rintro e w1 ⟨rfl, hm⟩
    have HM := hid (hm.from HB.out)
    clear hm
    go_wp2_with fail
    go_end0
    exact ⟨rfl, HM.out⟩
  have q10 : (x.k == 10) = false := beq_eq_false_iff_ne.2 k10
  have e : d.act x = d := by unfold Dk.act; rw [if_neg k2, if_neg k3, if_neg k6, if_neg k7, if_neg k10]
  rw [e]
  clear e k2 k3 k6 k7 k10
  go_enter Try.func10, Try.ntmps10
  go_wp2_with fail
  rw [← HW.out]
  go_end0
  exact ⟨rfl, (HI.out.still HR.out (Below.refl _ _)).from HB.out⟩

end Go.Proofs.Ytmbmagfdeadibaa
