import Derived.Test.YtchfoipkaookmabDoorWSevens
namespace Go.Proofs.YtchfoipkaookmabDoor
open Go.RowKit Go.Sort
set_option linter.unusedVariables false

set_option maxHeartbeats 400000 in
theorem dnumber_any {w : World} {b o m : Nat} {s : List Nat} {r : Int} (h : DecR w b o s r) (hl : s.length ≤ 9223372036854775807) :
    Calls Tryd.prog 37 #[.pointer (some ⟨b, o, none⟩), .int .u64 (m : Int)] w fun e w' => NumEnd b o r w (vdec m s) e w' := by
  have H := hid h
  clear h
  unfold vdec
  cases hv : vgo 0 s with
  | short =>
    have HV := hid hv
    clear hv
    go_enter Tryd.func37, Tryd.ntmps37
    go_wp2_with (go_at_call 48; refine (sevens_any H.out hl).mono ?_; rw [HV.out]; rintro e w1 ⟨rfl, hc⟩)
    exact ⟨rfl, rfl, hc⟩
  | form =>
    have HV := hid hv
    clear hv
    go_enter Tryd.func37, Tryd.ntmps37
    go_wp2_with (go_at_call 48; refine (sevens_any H.out hl).mono ?_; rw [HV.out]; rintro e w1 ⟨rfl, hc⟩)
    exact ⟨rfl, rfl, hc⟩
  | ok v t =>
    have HV := hid hv
    clear hv
    by_cases hm : v ≤ m
    · have e1 : decide ((m : Int) < (v : Int)) = false := by simp; omega
      have e2 : decide (m < v) = false := by simp; omega
      simp only [hm, if_true]
      have HM := hid hm
      clear hm
      go_enter Tryd.func37, Tryd.ntmps37
      go_wp2_with (go_at_call 48; refine (sevens_any H.out hl).mono ?_; rw [HV.out]; rintro e w1 ⟨rfl, hc, hd⟩)
      go_ret
      exact ⟨rfl, hc, hd⟩
    · have e1 : decide ((m : Int) < (v : Int)) = true := by simp; omega
      have e2 : m < v := by omega
      simp only [hm, if_false]
      have HM := hid hm
      clear hm
      go_enter Tryd.func37, Tryd.ntmps37
      go_wp2_with (go_at_call 48; refine (sevens_any H.out hl).mono ?_; rw [HV.out]; rintro e w1 ⟨rfl, hc, hd⟩)
      exact ⟨rfl, rfl, hc, t, hd⟩

theorem stop_nil {w : World} {p : Value} :
    Calls Tryd.prog 32 #[p, .nilIface] w fun e w' => e = .returned (.tuple #[]) ∧ w' = w := by
  go_enter Tryd.func32, Tryd.ntmps32
  go_wp2_with fail
  exact bodyPost_ret (results_none rfl _ _ _) rfl ⟨rfl, rfl⟩

theorem run_assert_fault (v : Value) (w : World) : (Instr.typeAssert (.iface 73 v) 20 73 true).run Tryd.prog w = .ok (.tuple #[v, .bool true]) w := by
  simp [Instr.typeAssert, run_underlying Tryd.underlying73, go_sem, Result.andThen]

/-- the first error stays -/
def stopR (r c : Int) : Int := if r = 0 then c else r

set_option maxHeartbeats 400000 in
theorem stop_fault {w : World} {b o : Nat} {s : List Nat} {r c : Int} (h : DecR w b o s r) :
    Calls Tryd.prog 32 #[.pointer (some ⟨b, o, none⟩), .iface 73 (.agg #[.int .i64 c])] w fun e w' => e = .returned (.tuple #[]) ∧ Cel b o 2 w w' ∧ DecR w' b o [] (stopR r c) := by
  have c0 := h.c0
  have c1 := h.c1
  have f : ∀ i, w.frozen? ⟨b, i, none⟩ = false := h.loose
  have hlt := h.lt
  have H := hid h
  clear h
  have hta := run_assert_fault (.agg #[.int .i64 c])
  by_cases hr : r = 0
  · have e1 : decide (r = 0) = true := by simpa using hr
    have e1' : (r == 0) = true := by simpa using hr
    have HR := hid hr
    have hs : stopR r c = c := if_pos hr
    rw [hs]
    clear hr hs
    go_enter Tryd.func32, Tryd.ntmps32
    go_wp2_with fail
    go_end0
    exact ⟨rfl, (((Cel.refl b o 2 w).set o ⟨Nat.le_refl _, by omega⟩ _).set (o + 1) ⟨by omega, by omega⟩ _).al _, ((H.out.set0 B8.nil).set1 c).later (Below.al (Below.refl _ _) _)⟩
  · have e1 : decide (r = 0) = false := by simpa using hr
    have e1' : (r == 0) = false := by simpa using hr
    have HR := hid hr
    have hs : stopR r c = r := if_neg hr
    rw [hs]
    clear hr hs
    go_enter Tryd.func32, Tryd.ntmps32
    go_wp2_with fail
    go_end0
    exact ⟨rfl, ((Cel.refl b o 2 w).set o ⟨Nat.le_refl _, by omega⟩ _).al _, (H.out.set0 B8.nil).later (Below.al (Below.refl _ _) _)⟩

/-- a region that draws, in a deferred call -/
theorem wpS_region_draw {P : Program} {Q : Exit → Act → List Frame → World → Prop} {a : Act} {cs : List Frame} {w : World} {id : Nat} {ops : Array Oper}
    (h : ∀ t, wpOpsS P ops Q (Region.schedule (P.follows .mixedOrders) ops t) a cs { w with drawn := w.drawn + 1 }) : (Code.region id ops true).wpS P Q a cs w :=
  fun b k hb hr => let ⟨e, a', cs', w', q, r⟩ := wp_opsS _ a cs _ (h _) b k hb hr; ⟨e, a', cs', w', q, .of_steps (.one step_region_draw) r⟩

/-- the operations of 'd.stop(recover())' -/
def cOps (pos : String) : Array Oper :=
  #[{ dst := some 1, op := Op.load 32 (Operand.tmp 0), type := 32, pos := pos, after := #[], guard := none },
    { dst := some 2, op := Op.call { callee := Callee.builtin Builtin.recover, args := #[], argTypes := #[] }, type := 20, pos := pos, after := #[], guard := none },
    { dst := some 3, op := Op.call { callee := Callee.value (Operand.func 32), args := #[Operand.tmp 1, Operand.tmp 2], argTypes := #[32, 20] }, type := 0, pos := pos,
      after := #[{ on := 0, ground := Ground.data }, { on := 1, ground := Ground.data }, { on := 1, ground := Ground.chain }], guard := none }]
theorem c_orders (pos : String) (mo : Bool) (t : Nat) : Region.schedule mo (cOps pos) t = [0, 1, 2] ∨ Region.schedule mo (cOps pos) t = [1, 0, 2] := by
  have hd : Region.departs (cOps pos) = false := by simp [Region.departs, cOps, Region.binds]
  have hl : Region.schedule mo (cOps pos) t = Region.linearise .any (cOps pos) t := by simp [Region.schedule, hd]
  rw [hl]
  rcases Nat.mod_two_eq_zero_or_one t with ht | ht
  · left
    simp [Region.linearise, Region.linearise.go, cOps, List.range_succ, Region.binds, ht, Nat.mod_one]
  · right
    simp [Region.linearise, Region.linearise.go, cOps, List.range_succ, Region.binds, ht, Nat.mod_one]

end Go.Proofs.YtchfoipkaookmabDoor
