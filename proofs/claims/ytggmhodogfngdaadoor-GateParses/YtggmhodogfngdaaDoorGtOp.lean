import Derived.Test.YtggmhodogfngdaaDoorGtLim
/- An operation is read off the fields: the program's way. -/
namespace Go.Proofs.YtggmhodogfngdaaDoor.Gt
open Go.Proofs.YtggmhodogfngdaaDoor Go.Proofs.YtggmhodogfngdaaDoor.Rt Go.RowKit Go.Sort
set_option linter.unusedVariables false

theorem Chg.bel {F : Nat} {w0 w w' : World} (h : Chg F w w') (h0 : Below w0.heap.size w0 w) (hF : w0.heap.size ≤ F) : Below w0.heap.size w0 w' :=
  h0.trans (h.below (fun k e => by subst e; exact hF) h0.size)
theorem eq_nil (w : World) : (binOp .eql 70 .nilIface .nilIface).run Tryd.prog w = .ok (.bool true) w := by kernel_rfl
theorem ne_nil (p : Option Addr) (w : World) : (binOp .eql 70 (.iface 115 (.pointer p)) .nilIface).run Tryd.prog w = .ok (.bool false) w := by kernel_rfl

set_option maxHeartbeats 2000000 in
theorem limit_is {w0 w : World} {F B : Nat} {r : List (List Nat)} {bad : Bool} (hv : Vars w0) (h0 : Below w0.heap.size w0 w) (hF : w0.heap.size ≤ F) (h : Fd w F B r bad) (hr : TxOk r) :
    Calls Tryd.prog 43 #[.pointer (some ⟨F, 0, none⟩)] w fun e w' => (∃ n : Int, -9223372036854775808 ≤ n ∧ n ≤ 9223372036854775807 ∧ LimOk (hdF r) n ∧ e = .returned (.int .i64 n)) ∧ Fd w' F B r.tail (bad || badN (hdF r)) ∧ Chg F w w' := by
  have CN := hid (next_is h)
  have CP := hid (fun W (hW : Vars W) => pint (hdF r) hr.hd.2 W hW)
  have HQ := hid (eq_dec hr.hd.1)
  have HV := hid hv
  have H0 := hid h0
  clear h hr hv h0
  generalize hL : hdF r = L at *
  go_enter Tryd.func43, Tryd.ntmps43
  go_wp2_with fail
  refine CN.out.mono ?_
  rintro e w1 ⟨rfl, h1, o1⟩
  have B1 := hid (Chg.bel o1 H0.out hF)
  have H1 := hid h1
  have O1 := hid o1
  clear h1 o1 CN
  go_wp2_with fail
  refine (CP.out _ (HV.out.later B1.out)).mono ?_
  rintro e w2 ⟨⟨v, v0, v1, hlim, x, rfl, hx⟩, hb2⟩
  have H2 := hid (H1.out.on hb2)
  have O2 := hid (O1.out.on hb2)
  have B2 := hid (Below.on B1.out hb2)
  have HL := hid hlim
  clear hb2 H1 O1 B1 CP hlim
  have wv : IntKind.i64.wrap v = v := by rw [IntKind.wrap_i64]; omega
  rcases hx with ⟨rfl, hx⟩ | ⟨hx, p, rfl⟩
  · have en := eq_nil
    by_cases hp : 0 ≤ v
    · have dp : decide (0 ≤ v) = true := by simp [hp]
      rw [dp, Bool.true_and] at hx
      have hq := HQ.out v
      rw [hx] at hq
      have HB : Hid ((!(!badN L)) = badN L) := hid (by simp)
      clear hx
      generalize ofNats L = s1 at *
      have CF := hid (fun W (hW : PowTab W) => fmt_all v0 v1 W hW)
      generalize ofNats (decI v) = s2 at *
      go_wp2_with fail
      refine (CF.out _ (HV.out.later B2.out).pow).mono ?_
      rintro e w3 ⟨rfl, hb3⟩
      have H3 := hid (H2.out.on hb3)
      have O3 := hid (O2.out.on hb3)
      clear hb3
      go_wp2_with fail
      refine (check_is H3.out).mono ?_
      rintro e w4 ⟨rfl, h4, o4⟩
      rw [HB.out] at h4
      have H4 := hid h4
      have O4 := hid (O3.out.trans o4)
      clear h4 o4
      go_wp2_with fail
      go_ret
      exact ⟨⟨v, v0, v1, HL.out, rfl⟩, H4.out, O4.out⟩
    · have dp : decide (0 ≤ v) = false := by simp; omega
      rw [dp, Bool.false_and] at hx
      have HB : Hid ((!false) = badN L) := hid (by rw [hx, Bool.not_not])
      clear hx
      generalize ofNats L = s1 at *
      go_wp2_with fail
      refine (check_is H2.out).mono ?_
      rintro e w4 ⟨rfl, h4, o4⟩
      rw [HB.out] at h4
      have H4 := hid h4
      have O4 := hid (O2.out.trans o4)
      clear h4 o4
      go_wp2_with fail
      go_ret
      exact ⟨⟨v, v0, v1, HL.out, rfl⟩, H4.out, O4.out⟩
  · have en := ne_nil p
    have HB : Hid ((!false) = badN L) := hid (by rw [hx]; rfl)
    clear hx
    generalize ofNats L = s1 at *
    go_wp2_with fail
    refine (check_is H2.out).mono ?_
    rintro e w4 ⟨rfl, h4, o4⟩
    rw [HB.out] at h4
    have H4 := hid h4
    have O4 := hid (O2.out.trans o4)
    clear h4 o4
    go_wp2_with fail
    go_ret
    exact ⟨⟨v, v0, v1, HL.out, rfl⟩, H4.out, O4.out⟩

theorem lit_is {l : List Nat} (h8 : B8 l) {c : List Nat} (hc : B8 c) {d : List UInt8} (hd : d = c.map UInt8.ofNat) : ((ofNats l).toList == d) = decide (l = c) := by
  subst hd
  rw [Bool.eq_iff_iff, beq_iff_eq, decide_eq_true_eq]
  have e : ∀ x : List Nat, (ofNats x).toList = x.map UInt8.ofNat := fun x => by simp [ofNats, ByteArray.toList_eq]
  constructor
  · intro h
    have h1 : ofNats l = ofNats c := by
      have h2 : (ofNats l).toList = (ofNats c).toList := by rw [h, e]
      rw [ByteArray.toList_eq, ByteArray.toList_eq] at h2
      exact nums_inj (by unfold nums; rw [h2])
    have h3 := congrArg nums h1
    rw [nums_ofNats h8, nums_ofNats hc] at h3
    exact h3
  · rintro rfl; exact e l
theorem name_b8 {r : List (List Nat)} (hr : TxOk r) : B8 (nameF r).1 ∧ TxOk (nameF r).2 := by
  unfold nameF
  split
  · exact ⟨b8_app (by intro b hb; simp at hb; omega) (b8_cons (by omega) hr.tl.hd.1), hr.tl.tl⟩
  · exact ⟨hr.hd.1, hr.tl⟩
end Go.Proofs.YtggmhodogfngdaaDoor.Gt
