import Derived.Test.YthenfioddnkjbaaGreatDoorSnRefW
/- The document's text of a configuration: whether there is one. -/
namespace Go.Proofs.YthenfioddnkjbaaGreatDoor.Rt
open Go.RowKit Go.Sort Go.Shelf
set_option linter.unusedVariables false

/-- what the document's Text answers, its text left open -/
def RTx (u : Bool) (e : Ending) : Prop := ∃ t, e = .returned (.tuple #[.string t, .int .i64 (bif u then 0 else 1)])

set_option maxRecDepth 100000 in
set_option maxHeartbeats 8000000 in
theorem rText_is {c : Cf} {w : World} (h : c.Ok w) (hw : 0 ≤ c.wi ∧ c.wi ≤ 18446744073709551615) (ht : PowTab w) :
    Calls Tryz.prog 19 #[c.val] w fun e w' => RTx c.okB e ∧ Below w.heap.size w w' := by
  have H := hid h
  have HT := hid ht
  have HB : Hid (BoxC (w.alloc (.cells #[.int .i64 c.sh, .int .i64 c.cl, .slice c.a c.ss.length c.cp, .int .i64 c.ca, .int .i64 c.pk, .int .u64 c.wi] 26)) w.heap.size c) := hid (BoxC.new w c _)
  clear h ht
  go_enter Tryz.func19, Tryz.ntmps19
  go_wp2_with fail
  refine (rvalid_is (H.out.later (by (repeat (first | exact Below.refl _ _ | assumption | refine Below.drew ?_ | refine Below.al ?_ _ | refine Below.setCell ?_ (by first | exact Nat.le_refl _ | (simp; omega) | (simp; done)) _ | refine Below.on ?_ (by assumption))))) rfl).mono ?_
  rintro e w1 ⟨rfl, hw1⟩
  have HC := hid (HB.out.later hw1)
  have HW : Hid (Below w.heap.size w w1) := hid (by (repeat (first | exact Below.refl _ _ | assumption | refine Below.drew ?_ | refine Below.al ?_ _ | refine Below.setCell ?_ (by first | exact Nat.le_refl _ | (simp; omega) | (simp; done)) _ | refine Below.on ?_ (by assumption))))
  clear hw1 HB
  cases ho : c.okB
  · have HOF := hid ho
    go_wp2_with fail
    refine bodyPost_ret (v := .tuple #[.string ⟨#[]⟩, .int .i64 1]) (by simp [results, Tryz.results19, go_sem]) rfl ?_
    exact ⟨⟨_, by rw [HOF.out]; rfl⟩, HW.out⟩
  · obtain ⟨n0, n1, n2, n3⟩ := ok_nums ho
    obtain ⟨l5, ls, lr⟩ := ok_len ho
    have HLR := hid lr
    clear lr ls
    obtain ⟨c0, c1, c2, c3, c4, c5⟩ := HC.out
    have k0 := cell_regrown c0; have k1 := cell_regrown c1; have k3 := cell_regrown c3
    have CT : Hid (∀ wz, Below w1.heap.size w1 wz → PowTab wz) := hid fun wz hb => HT.out.later (Below.on HW.out hb)
    have z0 := itB_size c.sh (by omega) (by omega)
    have z1 := itB_size c.cl (by omega) (by omega)
    have z2 := itB_size c.ca (by omega) (by omega)
    have z3 := itB_size c.pk (by omega) (by omega)
    have z4 := dec_size c.wi.toNat (by omega)
    have C0 : Hid (∀ wz, Below w1.heap.size w1 wz → _) := hid fun wz hb => itoa_is c.sh (by omega) (by omega) wz (CT.out wz hb)
    have C1 : Hid (∀ wz, Below w1.heap.size w1 wz → _) := hid fun wz hb => itoa_is c.cl (by omega) (by omega) wz (CT.out wz hb)
    have C2 : Hid (∀ wz, Below w1.heap.size w1 wz → _) := hid fun wz hb => itoa_is c.ca (by omega) (by omega) wz (CT.out wz hb)
    have C3 : Hid (∀ wz, Below w1.heap.size w1 wz → _) := hid fun wz hb => itoa_is c.pk (by omega) (by omega) wz (CT.out wz hb)
    have C4 : Hid (∀ wz, Below w1.heap.size w1 wz → _) := hid fun wz hb => fmt_any c.wi.toNat (by omega) wz (CT.out wz hb)
    rw [show ((c.wi.toNat : Nat) : Int) = c.wi by omega] at C4
    generalize itB c.sh = t0 at C0 z0
    generalize itB c.cl = t1 at C1 z1
    generalize itB c.ca = t2 at C2 z2
    generalize itB c.pk = t3 at C3 z3
    generalize dec c.wi.toNat = t4 at C4 z4
    go_wp2_with fail
    refine wp_region_quiet_below (by kernel_rfl) (by kernel_rfl) ?_
    repeat (go_big_quiet_step (first | (go_at_call_of 66 (Value.int IntKind.i64 c.sh); exact Calls.regrown_of (C0.out _ (below_regrown _ _ _))) | (go_at_call_of 66 (Value.int IntKind.i64 c.cl); exact Calls.regrown_of (C1.out _ (below_regrown _ _ _))) | (go_at_call_of 66 (Value.int IntKind.i64 c.ca); exact Calls.regrown_of (C2.out _ (below_regrown _ _ _)))))
    refine wpQuiet_nil ?_
    intro wq hq
    replace hq := below_of_regrown hq
    obtain ⟨x, hx⟩ : ∃ x : ByteArray, x = ⟨#[115, 104, 97, 114, 100, 115, 32]⟩ ++ t0 ++ ⟨#[10, 99, 108, 105, 101, 110, 116, 115, 32]⟩ ++ t1 ++ ⟨#[10, 99, 97, 112, 97, 99, 105, 116, 121, 32]⟩ ++ t2 := ⟨_, rfl⟩
    have hxz : x.size ≤ 200 := by
      rw [hx]
      simp only [ByteArray.size_append]
      show 7 + t0.size + 9 + t1.size + 10 + t2.size ≤ 200
      omega
    rw [← hx]
    clear hx
    have HQ := hid (Below.on HW.out hq)
    have b2 := cell_later hq c2
    have b4 := cell_later hq c4
    have b5 := cell_later hq c5
    have k4 := cell_regrown b4; have k5 := cell_regrown b5
    have HQ1 := hid hq
    have HO := hid ho
    clear hq c0 c1 c2 c3 c4 c5 k0 k1 k3 C0 C1 C2 z0 z1 z2 ho
    have C3 : Hid (∀ wz, Below wq.heap.size wq wz → _) := hid fun wz hb => C3.out wz (Below.on HQ1.out hb)
    have C4 : Hid (∀ wz, Below wq.heap.size wq wz → _) := hid fun wz hb => C4.out wz (Below.on HQ1.out hb)
    go_wp2_with fail
    refine wp_region_quiet_below (by kernel_rfl) (by kernel_rfl) ?_
    repeat (go_big_quiet_step (first | (go_at_call 66; exact Calls.regrown_of (C3.out _ (below_regrown _ _ _))) | (go_at_call 67; exact Calls.regrown_of (C4.out _ (below_regrown _ _ _)))))
    refine wpQuiet_nil ?_
    intro wy hy
    replace hy := below_of_regrown hy
    obtain ⟨hd, hhd⟩ : ∃ hd : ByteArray, hd = x ++ ⟨#[10, 112, 97, 114, 107, 32]⟩ ++ t3 ++ ⟨#[10, 119, 105, 110, 100, 111, 119, 32]⟩ ++ t4 ++ ⟨#[10]⟩ := ⟨_, rfl⟩
    have hz : hd.size ≤ 500 := by
      rw [hhd]
      simp only [ByteArray.size_append]
      show x.size + 6 + t3.size + 8 + t4.size + 1 ≤ 500
      omega
    rw [← hhd]
    clear hhd
    have HY := hid (Below.on HQ.out hy)
    have d2 := cell_later hy b2
    have HRW := hid H.out.row
    obtain ⟨a, ha⟩ : ∃ a, a = c.a := ⟨_, rfl⟩
    rw [← ha] at HRW d2
    have HD2 := hid d2
    clear hy b2 b4 b5 k4 k5 C3 C4 z3 z4 hxz HQ HQ1 CT HC HW ha d2
    go_wp2_with fail
    go_loopg [4, 5] c.ss.length (fun g s4 s5 wr => ∃ (k : Nat) (tx : ByteArray), k ≤ c.ss.length ∧ g = c.ss.length - k ∧ s5 = .int .i64 k ∧ s4 = .string tx ∧ tx.size ≤ 500 + k * 200 ∧ Hid (Below wy.heap.size wy wr))
    case atStart => exact ⟨0, hd, by omega, by omega, rfl, rfl, by omega, Below.refl _ _⟩
    case round =>
      obtain ⟨k, tx, hk, rfl, rfl, rfl, htx, HR⟩ := hrel
      have d2 := cell_later HR.out HD2.out
      by_cases hlt : k < c.ss.length
      · obtain ⟨b, off, rfl, cell⟩ := (HRW.out.later (Below.on HY.out HR.out)) k hlt
        have hks := key_size HLR.out hlt
        obtain ⟨y, hy⟩ : ∃ y, y = nthS c.ss k := ⟨_, rfl⟩
        rw [← hy] at cell hks
        have HW1 := hid (fun wz => rword_is (l := nums y) (nums_b8 y) (by rw [nums_length]; omega) wz)
        rw [ofNats_nums] at HW1
        obtain ⟨wd, hwd⟩ : ∃ wd, wd = ofNats (wordL (nums y)) := ⟨_, rfl⟩
        have hwz : wd.size ≤ 97 := by
          rw [hwd, ofNats_size]
          have := wordL_len (nums y)
          rw [nums_length] at this
          omega
        rw [← hwd] at HW1
        clear hwd hy hks
        go_wp2_with fail
        refine (HW1.out _).mono ?_
        rintro e w2 ⟨rfl, hb2⟩
        have HB2 := hid (Below.on HR.out hb2)
        clear hb2
        go_wp2_with fail
        obtain ⟨nx, hnx⟩ : ∃ nx : ByteArray, nx = tx ++ ⟨#[115, 112, 108, 105, 116, 32]⟩ ++ wd ++ ⟨#[10]⟩ := ⟨_, rfl⟩
        have hnz : nx.size ≤ 500 + (k + 1) * 200 := by
          rw [hnx]
          simp only [ByteArray.size_append]
          show tx.size + 6 + wd.size + 1 ≤ _
          omega
        rw [← hnx]
        clear hnx
        go_roundg (c.ss.length - (k + 1))
        case measure => omega
        case rel => exact ⟨k + 1, nx, by omega, rfl, by go_num, rfl, hnz, HB2⟩
      · obtain rfl : k = c.ss.length := by omega
        go_wp2_with fail
        refine bodyPost_ret (v := .tuple #[.string tx, .int .i64 0]) (by simp [results, Tryz.results19, go_sem]) rfl ?_
        exact ⟨⟨_, by rw [HO.out]; rfl⟩, Below.on HY.out HR.out⟩
end Go.Proofs.YthenfioddnkjbaaGreatDoor.Rt
/- The document's text of a configuration, exactly. -/
namespace Go.Proofs.YthenfioddnkjbaaGreatDoor.Rt
open Go.RowKit Go.Sort Go.Shelf
set_option linter.unusedVariables false

theorem line_ref (t wd : ByteArray) : t ++ ⟨#[115, 112, 108, 105, 116, 32]⟩ ++ wd ++ ⟨#[10]⟩ = t ++ lineB ⟨#[115, 112, 108, 105, 116]⟩ wd := by
  have e : (⟨#[115, 112, 108, 105, 116, 32]⟩ : ByteArray) = ⟨#[115, 112, 108, 105, 116]⟩ ++ ⟨#[32]⟩ := rfl
  rw [e]
  simp only [lineB, ByteArray.append_assoc]
theorem head_ref (c : Cf) : c.head = ⟨#[115, 104, 97, 114, 100, 115, 32]⟩ ++ itB c.sh ++ ⟨#[10, 99, 108, 105, 101, 110, 116, 115, 32]⟩ ++ itB c.cl ++ ⟨#[10, 99, 97, 112, 97, 99, 105, 116, 121, 32]⟩ ++ itB c.ca ++ ⟨#[10, 112, 97, 114, 107, 32]⟩ ++ itB c.pk ++ ⟨#[10, 119, 105, 110, 100, 111, 119, 32]⟩ ++ dec c.wi.toNat ++ ⟨#[10]⟩ := by
  have e0 : (⟨#[115, 104, 97, 114, 100, 115, 32]⟩ : ByteArray) = ⟨#[115, 104, 97, 114, 100, 115]⟩ ++ ⟨#[32]⟩ := rfl
  have e1 : (⟨#[10, 99, 108, 105, 101, 110, 116, 115, 32]⟩ : ByteArray) = ⟨#[10]⟩ ++ ⟨#[99, 108, 105, 101, 110, 116, 115]⟩ ++ ⟨#[32]⟩ := rfl
  have e2 : (⟨#[10, 99, 97, 112, 97, 99, 105, 116, 121, 32]⟩ : ByteArray) = ⟨#[10]⟩ ++ ⟨#[99, 97, 112, 97, 99, 105, 116, 121]⟩ ++ ⟨#[32]⟩ := rfl
  have e3 : (⟨#[10, 112, 97, 114, 107, 32]⟩ : ByteArray) = ⟨#[10]⟩ ++ ⟨#[112, 97, 114, 107]⟩ ++ ⟨#[32]⟩ := rfl
  have e4 : (⟨#[10, 119, 105, 110, 100, 111, 119, 32]⟩ : ByteArray) = ⟨#[10]⟩ ++ ⟨#[119, 105, 110, 100, 111, 119]⟩ ++ ⟨#[32]⟩ := rfl
  rw [e0, e1, e2, e3, e4]
  simp only [Cf.head, lineB, ByteArray.append_assoc]
set_option maxRecDepth 100000 in
set_option maxHeartbeats 8000000 in
theorem rTextX_is {c : Cf} {w : World} (h : c.Ok w) (hw : 0 ≤ c.wi ∧ c.wi ≤ 18446744073709551615) (ht : PowTab w) :
    Calls Tryz.prog 19 #[c.val] w fun e w' => e = .returned c.said ∧ Below w.heap.size w w' := by
  have H := hid h
  have HT := hid ht
  have HB : Hid (BoxC (w.alloc (.cells #[.int .i64 c.sh, .int .i64 c.cl, .slice c.a c.ss.length c.cp, .int .i64 c.ca, .int .i64 c.pk, .int .u64 c.wi] 26)) w.heap.size c) := hid (BoxC.new w c _)
  clear h ht
  go_enter Tryz.func19, Tryz.ntmps19
  go_wp2_with fail
  refine (rvalid_is (H.out.later (by (repeat (first | exact Below.refl _ _ | assumption | refine Below.drew ?_ | refine Below.al ?_ _ | refine Below.setCell ?_ (by first | exact Nat.le_refl _ | (simp; omega) | (simp; done)) _ | refine Below.on ?_ (by assumption))))) rfl).mono ?_
  rintro e w1 ⟨rfl, hw1⟩
  have HC := hid (HB.out.later hw1)
  have HW : Hid (Below w.heap.size w w1) := hid (by (repeat (first | exact Below.refl _ _ | assumption | refine Below.drew ?_ | refine Below.al ?_ _ | refine Below.setCell ?_ (by first | exact Nat.le_refl _ | (simp; omega) | (simp; done)) _ | refine Below.on ?_ (by assumption))))
  clear hw1 HB
  cases ho : c.okB
  · have HOF := hid ho
    go_wp2_with fail
    refine bodyPost_ret (v := .tuple #[.string ⟨#[]⟩, .int .i64 1]) (by simp [results, Tryz.results19, go_sem]) rfl ?_
    exact ⟨by rw [said_no HOF.out], HW.out⟩
  · obtain ⟨n0, n1, n2, n3⟩ := ok_nums ho
    obtain ⟨l5, ls, lr⟩ := ok_len ho
    have HLR := hid lr
    clear lr ls
    obtain ⟨c0, c1, c2, c3, c4, c5⟩ := HC.out
    have k0 := cell_regrown c0; have k1 := cell_regrown c1; have k3 := cell_regrown c3
    have CT : Hid (∀ wz, Below w1.heap.size w1 wz → PowTab wz) := hid fun wz hb => HT.out.later (Below.on HW.out hb)
    have z0 := itB_size c.sh (by omega) (by omega)
    have z1 := itB_size c.cl (by omega) (by omega)
    have z2 := itB_size c.ca (by omega) (by omega)
    have z3 := itB_size c.pk (by omega) (by omega)
    have z4 := dec_size c.wi.toNat (by omega)
    have HHD := hid (head_ref c)
    have C0 : Hid (∀ wz, Below w1.heap.size w1 wz → _) := hid fun wz hb => itoa_is c.sh (by omega) (by omega) wz (CT.out wz hb)
    have C1 : Hid (∀ wz, Below w1.heap.size w1 wz → _) := hid fun wz hb => itoa_is c.cl (by omega) (by omega) wz (CT.out wz hb)
    have C2 : Hid (∀ wz, Below w1.heap.size w1 wz → _) := hid fun wz hb => itoa_is c.ca (by omega) (by omega) wz (CT.out wz hb)
    have C3 : Hid (∀ wz, Below w1.heap.size w1 wz → _) := hid fun wz hb => itoa_is c.pk (by omega) (by omega) wz (CT.out wz hb)
    have C4 : Hid (∀ wz, Below w1.heap.size w1 wz → _) := hid fun wz hb => fmt_any c.wi.toNat (by omega) wz (CT.out wz hb)
    rw [show ((c.wi.toNat : Nat) : Int) = c.wi by omega] at C4
    generalize itB c.sh = t0 at C0 z0 HHD
    generalize itB c.cl = t1 at C1 z1 HHD
    generalize itB c.ca = t2 at C2 z2 HHD
    generalize itB c.pk = t3 at C3 z3 HHD
    generalize dec c.wi.toNat = t4 at C4 z4 HHD
    go_wp2_with fail
    refine wp_region_quiet_below (by kernel_rfl) (by kernel_rfl) ?_
    repeat (go_big_quiet_step (first | (go_at_call_of 66 (Value.int IntKind.i64 c.sh); exact Calls.regrown_of (C0.out _ (below_regrown _ _ _))) | (go_at_call_of 66 (Value.int IntKind.i64 c.cl); exact Calls.regrown_of (C1.out _ (below_regrown _ _ _))) | (go_at_call_of 66 (Value.int IntKind.i64 c.ca); exact Calls.regrown_of (C2.out _ (below_regrown _ _ _)))))
    refine wpQuiet_nil ?_
    intro wq hq
    replace hq := below_of_regrown hq
    obtain ⟨x, hx⟩ : ∃ x : ByteArray, x = ⟨#[115, 104, 97, 114, 100, 115, 32]⟩ ++ t0 ++ ⟨#[10, 99, 108, 105, 101, 110, 116, 115, 32]⟩ ++ t1 ++ ⟨#[10, 99, 97, 112, 97, 99, 105, 116, 121, 32]⟩ ++ t2 := ⟨_, rfl⟩
    have hxz : x.size ≤ 200 := by
      rw [hx]
      simp only [ByteArray.size_append]
      show 7 + t0.size + 9 + t1.size + 10 + t2.size ≤ 200
      omega
    rw [← hx]
    rw [← hx] at HHD
    clear hx
    have HQ := hid (Below.on HW.out hq)
    have b2 := cell_later hq c2
    have b4 := cell_later hq c4
    have b5 := cell_later hq c5
    have k4 := cell_regrown b4; have k5 := cell_regrown b5
    have HQ1 := hid hq
    have HO := hid ho
    clear hq c0 c1 c2 c3 c4 c5 k0 k1 k3 C0 C1 C2 z0 z1 z2 ho
    have C3 : Hid (∀ wz, Below wq.heap.size wq wz → _) := hid fun wz hb => C3.out wz (Below.on HQ1.out hb)
    have C4 : Hid (∀ wz, Below wq.heap.size wq wz → _) := hid fun wz hb => C4.out wz (Below.on HQ1.out hb)
    go_wp2_with fail
    refine wp_region_quiet_below (by kernel_rfl) (by kernel_rfl) ?_
    repeat (go_big_quiet_step (first | (go_at_call 66; exact Calls.regrown_of (C3.out _ (below_regrown _ _ _))) | (go_at_call 67; exact Calls.regrown_of (C4.out _ (below_regrown _ _ _)))))
    refine wpQuiet_nil ?_
    intro wy hy
    replace hy := below_of_regrown hy
    obtain ⟨hd, hhd⟩ : ∃ hd : ByteArray, hd = x ++ ⟨#[10, 112, 97, 114, 107, 32]⟩ ++ t3 ++ ⟨#[10, 119, 105, 110, 100, 111, 119, 32]⟩ ++ t4 ++ ⟨#[10]⟩ := ⟨_, rfl⟩
    have hz : hd.size ≤ 500 := by
      rw [hhd]
      simp only [ByteArray.size_append]
      show x.size + 6 + t3.size + 8 + t4.size + 1 ≤ 500
      omega
    rw [← hhd]
    rw [← hhd] at HHD
    clear hhd
    have HY := hid (Below.on HQ.out hy)
    have d2 := cell_later hy b2
    have HRW := hid H.out.row
    obtain ⟨a, ha⟩ : ∃ a, a = c.a := ⟨_, rfl⟩
    rw [← ha] at HRW d2
    have HD2 := hid d2
    clear hy b2 b4 b5 k4 k5 C3 C4 z3 z4 hxz HQ HQ1 CT HC HW ha d2
    go_wp2_with fail
    go_loopg [4, 5] c.ss.length (fun g s4 s5 wr => ∃ (k : Nat) (tx : ByteArray), k ≤ c.ss.length ∧ g = c.ss.length - k ∧ s5 = .int .i64 k ∧ s4 = .string tx ∧ tx.size ≤ 500 + k * 200 ∧ Hid (tx = spl (c.ss.take k) c.head) ∧ Hid (Below wy.heap.size wy wr))
    case atStart => exact ⟨0, hd, by omega, by omega, rfl, rfl, by omega, hid HHD.out.symm, Below.refl _ _⟩
    case round =>
      obtain ⟨k, tx, hk, rfl, rfl, rfl, htx, HTX, HR⟩ := hrel
      have d2 := cell_later HR.out HD2.out
      by_cases hlt : k < c.ss.length
      · obtain ⟨b, off, rfl, cell⟩ := (HRW.out.later (Below.on HY.out HR.out)) k hlt
        have hks := key_size HLR.out hlt
        obtain ⟨y, hy⟩ : ∃ y, y = nthS c.ss k := ⟨_, rfl⟩
        rw [← hy] at cell hks
        have HW1 := hid (fun wz => rword_is (l := nums y) (nums_b8 y) (by rw [nums_length]; omega) wz)
        rw [ofNats_nums] at HW1
        obtain ⟨wd, hwd⟩ : ∃ wd, wd = ofNats (wordL (nums y)) := ⟨_, rfl⟩
        have hwz : wd.size ≤ 97 := by
          rw [hwd, ofNats_size]
          have := wordL_len (nums y)
          rw [nums_length] at this
          omega
        rw [← hwd] at HW1
        have HWD : Hid (wd = ofNats (wordL (nums (nthS c.ss k)))) := hid (by rw [hwd, hy])
        clear hwd hy hks
        go_wp2_with fail
        refine (HW1.out _).mono ?_
        rintro e w2 ⟨rfl, hb2⟩
        have HB2 := hid (Below.on HR.out hb2)
        clear hb2
        go_wp2_with fail
        obtain ⟨nx, hnx⟩ : ∃ nx : ByteArray, nx = tx ++ ⟨#[115, 112, 108, 105, 116, 32]⟩ ++ wd ++ ⟨#[10]⟩ := ⟨_, rfl⟩
        have hnz : nx.size ≤ 500 + (k + 1) * 200 := by
          rw [hnx]
          simp only [ByteArray.size_append]
          show tx.size + 6 + wd.size + 1 ≤ _
          omega
        rw [← hnx]
        have HNX : Hid (nx = spl (c.ss.take (k + 1)) c.head) := hid (by
          rw [hnx, HTX.out, List.take_succ_eq_append_getElem hlt, spl_snoc, show c.ss[k] = nthS c.ss k by simp [nthS, hlt], ← HWD.out]
          exact line_ref _ _)
        clear hnx
        go_roundg (c.ss.length - (k + 1))
        case measure => omega
        case rel => exact ⟨k + 1, nx, by omega, rfl, by go_num, rfl, hnz, HNX, HB2⟩
      · obtain rfl : k = c.ss.length := by omega
        go_wp2_with fail
        refine bodyPost_ret (v := .tuple #[.string tx, .int .i64 0]) (by simp [results, Tryz.results19, go_sem]) rfl ?_
        refine ⟨?_, Below.on HY.out HR.out⟩
        rw [said_ok HO.out, HTX.out, List.take_length]; rfl
end Go.Proofs.YthenfioddnkjbaaGreatDoor.Rt
