import Derived.Test.YtfafkohghgliaaaTuRow
/- The document's tuples: valid values, the same tuples. -/
namespace Go.Proofs.Ytfafkohghgliaaa.Tu
open Go.RowKit Go.Sort Go.Proofs.Ytfafkohghgliaaa
set_option linter.unusedVariables false
set_option linter.unusedSectionVars false
variable [DecidableEq Vl]

/-- the value with just the field that its kind names -/
def namedV (v : Vl) : Vl := if v.kd = 1 then vBool v.fl else if v.kd = 2 then vInt v.n else if v.kd = 3 then vText v.s else vNull
theorem okV_named (v : Vl) : okV v = decide (v = namedV v) := by
  obtain ⟨k, f, n, s⟩ := v
  unfold okV namedV
  by_cases h0 : k = 0
  · subst h0; rw [Bool.eq_iff_iff]; simp [vNull, and_assoc]
  · by_cases h1 : k = 1
    · subst h1; rw [Bool.eq_iff_iff]; simp [vBool]
    · by_cases h2 : k = 2
      · subst h2; rw [Bool.eq_iff_iff]; simp [vInt]
      · by_cases h3 : k = 3
        · subst h3; rw [Bool.eq_iff_iff]; simp [vText]
        · simp [h0, h1, h2, h3, vNull]
theorem in0 : In64 0 := ⟨by decide, by decide⟩
/-- the error of what may be not valid -/
def vE (b : Bool) : Int := if b then 0 else 1
theorem ret_i {a b : Int} (h : a = b) : Ending.returned (.int .i64 a) = Ending.returned (.int .i64 b) := by rw [h]
theorem named_ok {v : Vl} (h : v.ok) : (namedV v).ok := by
  unfold namedV
  split
  · exact ⟨in0, B8.nil⟩
  · split
    · exact ⟨h.n64, B8.nil⟩
    · split
      · exact ⟨in0, h.b8⟩
      · exact ⟨in0, B8.nil⟩
set_option maxHeartbeats 1000000 in
theorem named_is (v : Vl) (w : World) : Calls Try.prog 40 #[v.val] w fun e w' => e = .returned (namedV v).val ∧ Below w.heap.size w w' := by
  obtain ⟨k, f, n, s⟩ := v
  by_cases h1 : k = 1
  · subst h1
    go_enter Try.func40, Try.ntmps40
    go_wp2_with fail
    exact bodyPost_ret (v := vlv 1 f 0 ⟨#[]⟩) (by simp [results, Try.results40, go_sem]) rfl ⟨rfl, by (repeat (first | exact Below.refl _ _ | assumption | refine Below.drew ?_ | refine Below.al ?_ _ | refine Below.setCell ?_ (by first | exact Nat.le_refl _ | (simp; omega) | (simp; done)) _ | refine Below.on ?_ (by assumption)))⟩
  · by_cases h2 : k = 2
    · subst h2
      go_enter Try.func40, Try.ntmps40
      go_wp2_with fail
      exact bodyPost_ret (v := vlv 2 false n ⟨#[]⟩) (by simp [results, Try.results40, go_sem]) rfl ⟨rfl, by (repeat (first | exact Below.refl _ _ | assumption | refine Below.drew ?_ | refine Below.al ?_ _ | refine Below.setCell ?_ (by first | exact Nat.le_refl _ | (simp; omega) | (simp; done)) _ | refine Below.on ?_ (by assumption)))⟩
    · by_cases h3 : k = 3
      · subst h3
        go_enter Try.func40, Try.ntmps40
        go_wp2_with fail
        exact bodyPost_ret (v := vlv 3 false 0 (ofNats s)) (by simp [results, Try.results40, go_sem]) rfl ⟨rfl, by (repeat (first | exact Below.refl _ _ | assumption | refine Below.drew ?_ | refine Below.al ?_ _ | refine Below.setCell ?_ (by first | exact Nat.le_refl _ | (simp; omega) | (simp; done)) _ | refine Below.on ?_ (by assumption)))⟩
      · have e : namedV ⟨k, f, n, s⟩ = vNull := by simp [namedV, h1, h2, h3]
        rw [e]
        go_enter Try.func40, Try.ntmps40
        go_wp2_with fail
        exact bodyPost_ret (v := vlv 0 false 0 ⟨#[]⟩) (by simp [results, Try.results40, go_sem]) rfl ⟨rfl, by (repeat (first | exact Below.refl _ _ | assumption | refine Below.drew ?_ | refine Below.al ?_ _ | refine Below.setCell ?_ (by first | exact Nat.le_refl _ | (simp; omega) | (simp; done)) _ | refine Below.on ?_ (by assumption)))⟩
theorem okT_snoc {t : List Vl} {k : Nat} (h : okT (t.take k) = true) (hk : k < t.length) (hv : okV (nthV t k) = true) : okT (t.take (k + 1)) = true := by
  rw [nthV_take hk]; simp [okT] at h ⊢; exact ⟨h, hv⟩
theorem okT_not {t : List Vl} {k : Nat} (hk : k < t.length) (hv : okV (nthV t k) = false) : okT t = false := by
  cases h : okT t with
  | false => rfl
  | true =>
    have := (List.all_eq_true.1 h) (nthV t k) (nthV_mem hk)
    rw [this] at hv; cases hv
set_option maxHeartbeats 2000000 in
theorem refvalid_is {a : Option Addr} {c : Nat} {t : List Vl} {w : World} (h : RowV w a t) (ho : OkT t) (hl : t.length ≤ 4611686018427387904) :
    Calls Try.prog 28 #[.slice a t.length c] w fun e w' => e = .returned (.int .i64 (vE (okT t))) ∧ Below w.heap.size w w' := by
  obtain ⟨n, hn⟩ : ∃ n, n = t.length := ⟨_, rfl⟩
  have HA := hid (show _ ∧ _ ∧ _ from ⟨h, ho, hn⟩)
  rw [← hn] at hl ⊢
  clear h ho hn
  go_enter Try.func28, Try.ntmps28
  go_wp2_with fail
  go_loopg [3] n (fun g s wr => ∃ i : Nat, i ≤ n ∧ g = n - i ∧ s = .int .i64 i ∧ Hid (Below w.heap.size w wr) ∧ Hid (okT (t.take i) = true))
  case atStart => exact ⟨0, by omega, by omega, rfl, Below.refl _ _, rfl⟩
  case round =>
    obtain ⟨i, hi, rfl, rfl, HB, HP⟩ := hrel
    by_cases hlt : i < n
    · have hlt' : i < t.length := by rw [← HA.out.2.2]; exact hlt
      obtain ⟨ba, oa, ea, a0, a1, a2, a3⟩ := (HA.out.1.later HB.out) i hlt'
      subst ea
      obtain ⟨x, hx⟩ : ∃ x, x = nthV t i := ⟨_, rfl⟩
      have HX : Hid (x = nthV t i ∧ x.ok) := hid ⟨hx, by rw [hx]; exact HA.out.2.1 _ (nthV_mem hlt')⟩
      rw [← hx] at a0 a1 a2 a3
      clear hx hlt'
      obtain ⟨u, hu⟩ : ∃ u, okV x = u := ⟨_, rfl⟩
      have HU : Hid (okV x = u) := hu
      have hrun : ∀ w, (binOp .neq 29 x.val (namedV x).val).run Try.prog w = .ok (.bool (!u)) w := fun w => by
        rw [run_neV HX.out.2 (named_ok HX.out.2), ← okV_named, HU.out]
      clear hu
      have HN := fun w => hid (named_is x w)
      obtain ⟨xk, xf, xn, xs⟩ := x
      simp only at hrun a0 a1 a2 a3 HN
      have ka0 := cell_regrown a0; have ka1 := cell_regrown a1; have ka2 := cell_regrown a2; have ka3 := cell_regrown a3
      obtain ⟨y, hy⟩ : ∃ y, y = namedV ⟨xk, xf, xn, xs⟩ := ⟨_, rfl⟩
      rw [← hy] at hrun HN
      clear hy
      obtain ⟨yk, yf, yn, ys⟩ := y
      cases u with
      | true =>
        go_wp2_with fail
        refine wp_region_quiet_below (by kernel_rfl) (by kernel_rfl) ?_
        repeat (go_big_quiet_step (((go_at_call 40; exact Calls.regrown_of (HN _).out))))
        refine wpQuiet_nil ?_
        intro w4 hww4
        replace hww4 := below_of_regrown hww4
        go_wp2_with fail
        go_roundg (n - (i + 1))
        case measure => omega
        case rel => exact ⟨i + 1, by omega, rfl, by go_num, Below.on HB.out hww4, okT_snoc HP.out (by rw [← HA.out.2.2]; exact hlt) (by rw [← HX.out.1]; exact HU.out)⟩
      | false =>
        have HE : Hid (okT t = false) := okT_not (by rw [← HA.out.2.2]; exact hlt) (by rw [← HX.out.1]; exact HU.out)
        go_wp2_with fail
        refine wp_region_quiet_below (by kernel_rfl) (by kernel_rfl) ?_
        repeat (go_big_quiet_step (((go_at_call 40; exact Calls.regrown_of (HN _).out))))
        refine wpQuiet_nil ?_
        intro w4 hww4
        replace hww4 := below_of_regrown hww4
        go_wp2_with fail
        go_ret
        exact ⟨ret_i (by rw [HE.out]; rfl), Below.on HB.out hww4⟩
    · obtain rfl : i = n := by omega
      have HE : Hid (okT t = true) := by have := HP.out; rwa [HA.out.2.2, List.take_length] at this
      go_wp2_with fail
      go_ret
      exact ⟨ret_i (by rw [HE.out]; rfl), HB.out⟩
/-- one after the other alike -/
def allV (xs ys : List Vl) (k : Nat) : Bool := allB (fun i => decide (nthV xs i = nthV ys i)) k
theorem allV_eq {xs ys : List Vl} (h : xs.length = ys.length) (ha : allV xs ys xs.length = true) : xs = ys := by
  refine nthV_ext h ?_
  have hi : ∀ n i, i < n → allB (fun i => decide (nthV xs i = nthV ys i)) n = true → nthV xs i = nthV ys i := by
    intro n
    induction n with
    | zero => intro i hi; omega
    | succ n ih =>
      intro i hi ha
      rw [allB, Bool.and_eq_true] at ha
      by_cases e : i = n
      · subst e; simpa using ha.2
      · exact ih i (by omega) ha.1
  exact fun i hi' => hi _ i hi' ha
set_option maxHeartbeats 2000000 in
theorem refsame_is {a b : Option Addr} {c d : Nat} {xs ys : List Vl} {w : World} {u : Bool} (hu : decide (xs = ys) = u) (h : RowV w a xs) (k : RowV w b ys) (hx : OkT xs) (hy : OkT ys) (hl : xs.length ≤ 4611686018427387904) (hl2 : ys.length ≤ 4611686018427387904) :
    Calls Try.prog 12 #[.slice a xs.length c, .slice b ys.length d] w fun e w' => e = .returned (.bool u) ∧ Below w.heap.size w w' := by
  subst hu
  by_cases hne : xs.length = ys.length
  · have q0 : ((xs.length : Int) != (ys.length : Int)) = false := by simp [hne]
    obtain ⟨n, hn⟩ : ∃ n, n = xs.length := ⟨_, rfl⟩
    have hn2 : n = ys.length := hn.trans hne
    have HA := hid (show _ ∧ _ ∧ _ ∧ _ from ⟨h, k, hn, hn2⟩)
    have HO := hid (show _ ∧ _ from ⟨hx, hy⟩)
    rw [← hn, ← hn2] at q0
    rw [← hn] at hl ⊢
    rw [← hn2]
    clear h k hn hn2 hne hl2 hx hy
    go_enter Try.func12, Try.ntmps12
    go_wp2_with fail
    go_loopg [5] n (fun g s5 wr => ∃ i : Nat, i ≤ n ∧ g = n - i ∧ s5 = .int .i64 i ∧ Hid (Below w.heap.size w wr) ∧ Hid (allV xs ys i = true))
    case atStart => exact ⟨0, by omega, by omega, rfl, Below.refl _ _, rfl⟩
    case round =>
      obtain ⟨i, hi, rfl, rfl, HB, HP⟩ := hrel
      by_cases hlt : i < n
      · have hl1 : i < xs.length := by have := HA.out.2.2.1; omega
        have hl2 : i < ys.length := by have := HA.out.2.2.2; omega
        obtain ⟨ba, oa, ea, a0, a1, a2, a3⟩ := (HA.out.1.later HB.out) i hl1
        obtain ⟨bb, ob, eb, b0, b1, b2, b3⟩ := (HA.out.2.1.later HB.out) i hl2
        subst ea eb
        obtain ⟨x, hx⟩ : ∃ x, x = nthV xs i := ⟨_, rfl⟩
        obtain ⟨y, hy⟩ : ∃ y, y = nthV ys i := ⟨_, rfl⟩
        have ox : x.ok := by rw [hx]; exact HO.out.1 _ (nthV_mem hl1)
        have oy : y.ok := by rw [hy]; exact HO.out.2 _ (nthV_mem hl2)
        rw [← hx] at a0 a1 a2 a3
        rw [← hy] at b0 b1 b2 b3
        obtain ⟨u, hu⟩ : ∃ u, decide (x = y) = u := ⟨_, rfl⟩
        have HU : Hid (decide (nthV xs i = nthV ys i) = u) := by show _ = _; rw [← hx, ← hy]; exact hu
        have hrun := fun w => run_neV ox oy w
        rw [hu] at hrun
        clear hx hy hu hl1 hl2 ox oy
        obtain ⟨xk, xf, xn, xs'⟩ := x
        obtain ⟨yk, yf, yn, ys'⟩ := y
        simp only at hrun a0 a1 a2 a3 b0 b1 b2 b3
        have ka0 := cell_regrown a0; have ka1 := cell_regrown a1; have ka2 := cell_regrown a2; have ka3 := cell_regrown a3
        have kb0 := cell_regrown b0; have kb1 := cell_regrown b1; have kb2 := cell_regrown b2; have kb3 := cell_regrown b3
        cases u with
        | true =>
          go_wp2_with fail
          go_quiet (fail)
          go_wp2_with fail
          go_roundg (n - (i + 1))
          case measure => omega
          case rel => exact ⟨i + 1, by omega, rfl, by go_num, bdn HB.out _, allB_yes HP.out HU.out⟩
        | false =>
          have HE : Hid (decide (xs = ys) = false) := decide_eq_false fun e => by have := HU.out; rw [e] at this; simp at this
          go_wp2_with fail
          go_quiet (fail)
          go_wp2_with fail
          go_ret
          exact ⟨ret_bool (by rw [HE.out]), bdn HB.out _⟩
      · obtain rfl : i = n := by omega
        have HE : Hid (xs = ys) := allV_eq (HA.out.2.2.1.symm.trans HA.out.2.2.2) (by rw [← HA.out.2.2.1]; exact HP.out)
        go_wp2_with fail
        go_ret
        exact ⟨ret_bool (by rw [HE.out]; simp), HB.out⟩
  · have e : decide (xs = ys) = false := decide_eq_false fun e => hne (by rw [e])
    have q0 : ((xs.length : Int) != (ys.length : Int)) = true := by simp; omega
    rw [e]
    go_enter Try.func12, Try.ntmps12
    go_wp2_with fail
    go_ret
    exact ⟨rfl, Below.refl _ _⟩
end Go.Proofs.Ytfafkohghgliaaa.Tu
