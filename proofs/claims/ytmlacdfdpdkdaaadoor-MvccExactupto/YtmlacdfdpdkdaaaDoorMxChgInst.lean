import Derived.Test.YtmlacdfdpdkdaaaDoorVSameV
import Derived.Test.YtmlacdfdpdkdaaaDoorMxChgNew
import Derived.Test.YtmlacdfdpdkdaaaDoorVInstall
import Derived.Test.YtmlacdfdpdkdaaaDoorRvInst
import Derived.Deep.RegionHeld3
/- The law's untouchedWrites at a list that is as it was: it is written over then. -/
namespace Go.Proofs.YtmlacdfdpdkdaaaDoor.Vs
open Go.RowKit Go.Sort
set_option linter.unusedVariables false

/-- a list of writes and the marks behind it stand in block g -/
def StandW (w : World) (g : Nat) (xs : List Wr) : Prop := ∃ f, CellsW w g f (xs.length + 3) ∧ (∀ i, i < xs.length → f i = nthW xs i) ∧ (∀ i, xs.length ≤ i → i < xs.length + 3 → f i = markW i)
theorem StandW.later {w w' : World} {g : Nat} {xs : List Wr} (h : StandW w g xs) (hb : Below w.heap.size w w') : StandW w' g xs := by
  obtain ⟨f, h1, h2, h3⟩ := h
  exact ⟨f, h1.later hb, h2, h3⟩
theorem StandW.onl {w w' : World} {G : Nat → Prop} {g : Nat} {xs : List Wr} (h : StandW w g xs) (ho : Onl G w w') (hg : ¬ G g) : StandW w' g xs := by
  obtain ⟨f, h1, h2, h3⟩ := h
  exact ⟨f, h1.onl ho hg, h2, h3⟩
theorem StandW.low {w : World} {g i : Nat} {xs : List Wr} (h : StandW w g xs) (hi : i < xs.length) : w.cell? ⟨g, i * 3, none⟩ = some (.string (nthW xs i).key) ∧ w.cell? ⟨g, i * 3 + 1, none⟩ = some (.bool (nthW xs i).del) ∧ w.cell? ⟨g, i * 3 + 2, none⟩ = some (.string (nthW xs i).val) := by
  obtain ⟨f, h1, h2, h3⟩ := h
  rw [← h2 i hi]; exact h1 i (by omega)
theorem StandW.high {w : World} {g i : Nat} {xs : List Wr} (h : StandW w g xs) (h1 : xs.length ≤ i) (h2 : i < xs.length + 3) : w.cell? ⟨g, i * 3, none⟩ = some (.string ⟨#[35]⟩) ∧ w.cell? ⟨g, i * 3 + 1, none⟩ = some (.bool true) ∧ w.cell? ⟨g, i * 3 + 2, none⟩ = some (.string (itS i)) := by
  obtain ⟨f, k1, k2, k3⟩ := h
  have := k1 i h2
  rw [k3 i h1 h2] at this
  exact this
theorem run_neWr (k : ByteArray) (d : Bool) (v : ByteArray) (w : World) : (binOp .neq 28 (.agg #[.string k, .bool d, .string v]) (.agg #[.string k, .bool d, .string v])).run Tryd.prog w = .ok (.bool false) w := by
  simp [go_sem, Tryd.underlying28]
/-- the digits of any number -/
def itZ (i : Int) : ByteArray := ⟨(Lib.itoa i).toArray⟩
theorem itoaZ_is {i : Int} (h0 : -4611686018427387904 ≤ i) (hi : i ≤ 4611686018427387904) (w : World) (ht : PowTab w) :
    Calls Tryd.prog 78 #[.int .i64 i] w fun e w' => e = .returned (.string (itZ i)) ∧ Below w.heap.size w w' := by
  refine (Tryd.strconv_Itoa i (by omega) (by omega) w ht).mono ?_
  rintro e w' ⟨rfl, k, os, rfl⟩
  exact ⟨rfl, ⟨rfl, rfl, rfl, by simp [grow], fun j hj => by simp [grow, Array.getElem?_append, hj]⟩⟩
theorem markWz_is {i : Int} (h0 : -4611686018427387904 ≤ i) (hi : i ≤ 4611686018427387904) (w : World) (ht : PowTab w) :
    Calls Tryd.prog 58 #[.int .i64 i] w fun e w' => e = .returned (.agg #[.string ⟨#[35]⟩, .bool true, .string (itZ i)]) ∧ Below w.heap.size w w' := by
  have HT : Hid (PowTab (w.alloc (.cells #[.string ⟨#[]⟩, .bool false, .string ⟨#[]⟩] 28))) := ht.later (Below.al (Below.refl _ _) _)
  have kb : (w.alloc (.cells #[.string ⟨#[]⟩, .bool false, .string ⟨#[]⟩] 28)).heap[w.heap.size]? = some (.cells #[.string ⟨#[]⟩, .bool false, .string ⟨#[]⟩] 28 (0, 0)) := World.alloc_heap_new _ _
  have HI := hid (itoaZ_is h0 hi _ HT.out)
  have HBK := hid kb
  obtain ⟨s, hs⟩ : ∃ s, s = itZ i := ⟨_, rfl⟩
  rw [← hs] at HI ⊢
  clear ht hs kb
  go_enter Tryd.func58, Tryd.ntmps58
  go_wp2_with (go_at_call 78; refine HI.out.mono ?_; rintro e w1 ⟨rfl, hb1⟩; have k1 := (hb1.block w.heap.size (by simp)).trans HBK.out; have d0 : w1.cell? ⟨w.heap.size, 0, none⟩ = some (.string ⟨#[]⟩) := cell_of_obj k1 rfl; have d1 : w1.cell? ⟨w.heap.size, 1, none⟩ = some (.bool false) := cell_of_obj k1 rfl; have d2 : w1.cell? ⟨w.heap.size, 2, none⟩ = some (.string ⟨#[]⟩) := cell_of_obj k1 rfl; have fz : ∀ o, w1.frozen? ⟨w.heap.size, o, none⟩ = false := fun o => frozen_of_row w1 w.heap.size o _ _ k1)
  refine bodyPost_ret (v := .agg #[.string ⟨#[35]⟩, .bool true, .string s]) (by simp [results, Tryd.results58, go_sem, d0, d1, d2]) rfl ⟨rfl, ?_⟩
  exact Below.setCell (Below.setCell (Below.setCell (Below.on (Below.al (Below.refl _ _) _) hb1) (Nat.le_refl _) _) (Nat.le_refl _) _) (Nat.le_refl _) _

set_option maxHeartbeats 4000000 in
theorem untouchedW_is {g c : Nat} {a : Option Addr} {xs : List Wr} {w : World} (hs : StandW w g xs) (hr : RowW w a xs) (hl : xs.length ≤ 1073741824) (hL : Loose w g) (hg : g < w.heap.size) (hP : ∀ w', Onl (fun b => b = g) w w' → PowTab w') :
    Calls Tryd.prog 35 #[.slice (some ⟨g, 0, none⟩) xs.length (xs.length + 3), .slice a xs.length c] w fun e w' => e = .returned (.bool true) ∧ Onl (fun b => b = g) w w' ∧ Loose w' g := by
  obtain ⟨n, hn⟩ : ∃ n, xs.length = n := ⟨_, rfl⟩
  have HX := hid (show StandW w g xs ∧ RowW w a xs ∧ xs.length = n ∧ PowTab w from ⟨hs, hr, hn, hP w (Onl.refl _ _)⟩)
  have HP := hid hP
  have HL := hid (show Loose w g ∧ g < w.heap.size from ⟨hL, hg⟩)
  rw [hn] at hl ⊢
  clear hs hr hn hP hL hg
  go_enter Tryd.func35, Tryd.ntmps35
  go_wp2_with fail
  go_loopg [6] (n + 3) (fun gg s6 wr => ∃ k : Nat, k ≤ n + 3 ∧ gg = n + 3 - k ∧ s6 = .int .i64 k ∧ Hid (Below w.heap.size w wr))
  case atStart => exact ⟨0, by omega, by omega, rfl, Below.refl _ _⟩
  case round =>
    obtain ⟨i, hi, rfl, rfl, HB⟩ := hrel
    by_cases hlt : i < n + 3
    · have HM : Hid (∀ ws, Below wr.heap.size wr ws → Calls Tryd.prog 58 #[.int .i64 (i : Int)] ws fun e w' => e = .returned (.agg #[.string ⟨#[35]⟩, .bool true, .string (itS i)]) ∧ Below ws.heap.size ws w') := fun ws hb => markWrite_is i (by omega) ws ((HX.out.2.2.2.later HB.out).later hb)
      have hI : (i : Int) < (n : Int) + 3 := by omega
      by_cases hin : i < n
      · obtain ⟨a0, a1, a2⟩ := (HX.out.1.later HB.out).low (i := i) (by rw [HX.out.2.2.1]; exact hin)
        obtain ⟨gb, ob, rfl, b0, b1, b2⟩ := (HX.out.2.1.later HB.out) i (by rw [HX.out.2.2.1]; exact hin)
        generalize nthW xs i = x at a0 a1 a2 b0 b1 b2
        obtain ⟨x1, x2, x3⟩ := x
        simp only at a0 a1 a2 b0 b1 b2
        have hrun := run_neWr x1 x2 x3
        have ka0 := cell_regrown a0; have ka1 := cell_regrown a1; have ka2 := cell_regrown a2
        have kb0 := cell_regrown b0; have kb1 := cell_regrown b1; have kb2 := cell_regrown b2
        have d1 : decide ((i : Int) < (n : Int)) = true := by simpa using hin
        have d2 : (i : Int) < (n : Int) := by omega
        have d3 : decide ((n : Int) ≤ (i : Int)) = false := by simpa using hin
        have d4 : ((n : Int) ≤ (i : Int)) = False := eq_false (by omega)
        clear HM
        go_wp2_with fail
        go_quiet (fail)
        go_wp2_with fail
        go_roundg (n + 3 - (i + 1))
        case measure => omega
        case rel => exact ⟨i + 1, by omega, rfl, by go_num, Below.drewN HB.out _⟩
      · obtain ⟨a0, a1, a2⟩ := (HX.out.1.later HB.out).high (i := i) (by rw [HX.out.2.2.1]; omega) (by rw [HX.out.2.2.1]; exact hlt)
        generalize itS i = s at a2 HM
        have hrun := run_neWr ⟨#[35]⟩ true s
        have ka0 := cell_regrown a0; have ka1 := cell_regrown a1; have ka2 := cell_regrown a2
        have d1 : decide ((i : Int) < (n : Int)) = false := by simpa using hin
        have d2 : ((i : Int) < (n : Int)) = False := eq_false (by omega)
        have d3 : decide ((n : Int) ≤ (i : Int)) = true := by simp; omega
        have d4 : (n : Int) ≤ (i : Int) := by omega
        go_wp2_with fail
        refine wp_region_quiet_below (by kernel_rfl) (by kernel_rfl) ?_
        repeat (go_big_quiet_step (((go_at_call 58; exact Calls.regrown_of (HM.out _ (below_of_regrown ⟨⟨_, _⟩, rfl⟩))))))
        refine wpQuiet_nil ?_
        intro wn hwn
        replace hwn := below_of_regrown hwn
        go_wp2_with fail
        go_roundg (n + 3 - (i + 1))
        case measure => omega
        case rel => exact ⟨i + 1, by omega, rfl, by go_num, Below.on HB.out hwn⟩
    · obtain rfl : i = n + 3 := by omega
      go_wp2_with fail
      have HC : Hid (∃ f, CellsW wr g f n) := by
        obtain ⟨f, h1, _⟩ := HX.out.1.later HB.out
        rw [HX.out.2.2.1] at h1
        exact ⟨f, fun i hi => h1 i (by omega)⟩
      have HL2 := hid (show Loose wr g ∧ g < wr.heap.size ∧ Onl (fun b => b = g) w wr from ⟨HL.out.1.later HB.out HL.out.2, Nat.lt_of_lt_of_le HL.out.2 HB.out.size, Onl.of_below HB.out⟩)
      rename World => wA
      go_loopg [7] n (fun gg s7 wr => ∃ k : Nat, k ≤ n ∧ gg = n - k ∧ s7 = .int .i64 k ∧ ∃ f, Hid (CellsW wr g f n ∧ Loose wr g ∧ g < wr.heap.size ∧ Onl (fun b => b = g) w wr))
      case atStart =>
        obtain ⟨f, hf⟩ := HC.out
        exact ⟨0, by omega, by omega, rfl, f, ⟨hf, HL2.out⟩⟩
      case round =>
        obtain ⟨k, hk, rfl, rfl, f', HK⟩ := hrel
        by_cases hlt2 : k < n
        · have MK := hid (markWz_is (i := -(k : Int)) (by omega) (by omega) wr (HP.out wr HK.out.2.2.2))
          generalize itZ (-(k : Int)) = s at MK
          have HA : Hid (∀ w1, Below wr.heap.size wr w1 → CellsW w1 g f' n ∧ Loose w1 g ∧ g < w1.heap.size ∧ Onl (fun b => b = g) w w1) := fun w1 hb => ⟨HK.out.1.later hb, HK.out.2.1.later hb HK.out.2.2.1, Nat.lt_of_lt_of_le HK.out.2.2.1 hb.size, HK.out.2.2.2.on hb⟩
          have hkI : (k : Int) < (n : Int) := by omega
          go_wp2_with (go_at_call 58; refine MK.out.mono ?_; rintro e w3 ⟨rfl, hb3⟩; have d0 := ((HA.out w3 hb3).1 k hlt2).1; have d1 := ((HA.out w3 hb3).1 k hlt2).2.1; have d2 := ((HA.out w3 hb3).1 k hlt2).2.2; have fz : ∀ o, w3.frozen? ⟨g, o, none⟩ = false := (HA.out w3 hb3).2.1)
          go_roundg (n - (k + 1))
          case measure => omega
          case rel =>
            exact ⟨k + 1, by omega, rfl, by go_num, put f' k ⟨⟨#[35]⟩, true, s⟩, ⟨(HA.out w3 hb3).1.put hlt2 ⟨⟨#[35]⟩, true, s⟩, (((HA.out w3 hb3).2.1.setc _ _).setc _ _).setc _ _, by simpa using (HA.out w3 hb3).2.2.1, (HA.out w3 hb3).2.2.2.trans (onl_setW w3 g k ⟨⟨#[35]⟩, true, s⟩)⟩⟩
        · obtain rfl : k = n := by omega
          have HZ := hid (show Onl (fun b => b = g) w wr ∧ Loose wr g from ⟨HK.out.2.2.2, HK.out.2.1⟩)
          go_wp2_with fail
          go_ret
          exact ⟨rfl, HZ.out⟩
end Go.Proofs.YtmlacdfdpdkdaaaDoor.Vs
/- The law's changes: inst. -/
namespace Go.Proofs.YtmlacdfdpdkdaaaDoor.Bg
open Go.RowKit Go.Sort Go.Proofs.YtmlacdfdpdkdaaaDoor Go.Proofs.YtmlacdfdpdkdaaaDoor.Vs
set_option linter.unusedVariables false

set_option maxRecDepth 8000 in
set_option maxHeartbeats 4000000 in
theorem chg_inst {W w : World} {b m n j : Nat} {x : Sv} (hP : PowTab W) (h : Sx W w b x m) (hx : Eqs x n) (s : Sc) (hn : n + s.ws.length + s.vs.length ≤ 1048576) (hw : RowW W s.wa s.ws) (hv : RowV W s.va s.vs) (ht : s.t.a ≤ 18446744073709551615) (hvs : ∀ e ∈ s.vs, e.2.s.a ≤ 18446744073709551615) (hj : j < 2) (hb : bits BinOp.and IntKind.i64 s.o 1 = (j : Int)) (hk : s.k = 2) :
    Calls Tryd.prog 9 #[pt b, .agg s.cells] w fun e w' => e = .returned (.bool true) ∧ Hid (Ch W w' b m (n + s.ws.length + s.vs.length)) := by
  obtain ⟨wb, hwb⟩ : ∃ wb, wb = w.alloc (.cells s.cells 58) := ⟨_, rfl⟩
  have hbb : Below w.heap.size w wb := by rw [hwb]; exact Below.al (Below.refl _ _) _
  obtain ⟨q, hq⟩ : ∃ q, q = w.heap.size := ⟨_, rfl⟩
  have HX := hid hx
  obtain ⟨c, s0, z0, h, hcq⟩ : ∃ c s0 z0, St W wb c b { x with s := s0, z := z0 } m ∧ c q = 22 := by
    obtain ⟨c0, s0, z0, h0⟩ := h
    obtain ⟨c, h1, _, h2⟩ := h0.later hbb (fun _ => 22)
    refine ⟨c, s0, z0, h1, h2 q (by omega) ?_⟩
    have hbx : wb.heap[w.heap.size]? = some (.cells s.cells 58 (0, 0)) := by rw [hwb]; exact World.alloc_heap_new _ _
    rw [hq]
    exact not_ixB hbx (fun h => by rcases h with h | h | h <;> exact absurd h (by decide))
  have HS := hid h
  have HCQ := hid hcq
  obtain ⟨x0, x1, x2, x3, x4, x5, x6, x7, x8⟩ := Bx.of s hwb
  rw [← hq] at x0 x1 x2 x3 x4 x5 x6 x7 x8
  have y0 := h.cp j hj
  have y1 := h.cq j hj
  have hcj := hx.c j hj
  have hst := h.st j hj
  have hrs := h.rs j hj
  have hgd := hst.good
  simp only [hx.m, hx.k] at hst hrs hgd y0 y1
  have RM := hid (roomy_is (c := s.wc) (w := wb) (hw.later h.bl) (by omega) (hP.later h.bl))
  have HIR := hid (instR_len hgd.rising s.ws s.t)
  have HIO := hid (instR_mem (hx.ok j hj) hgd.rising s.ws s.t)
  have HGD := hid hgd
  have HCJ := hid hcj
  have HWB := hid hwb
  have HQ := hid hq
  have HPT := hid hP
  have HW := hid hw
  have HV := hid hv
  have HT := hid ht
  have HVS := hid hvs
  have HNN := hid hn
  clear h hx hbb hq hwb hst hrs hgd hcq hP hw hv ht hvs
  rw [hk] at x0
  go_enter Tryd.func9, Tryd.ntmps9
  go_upto_region 1 with fail
  rw [← HWB.out, ← HQ.out]
  have hJ : (j : Int) < 2 := by omega
  go_wp2_with fail
  refine RM.out.mono ?_
  rintro e w1 ⟨g, rfl, hry⟩
  have HRY := hid hry
  obtain ⟨c1, h1, hcq1, hcg1⟩ : ∃ c1, St W w1 c1 b { x with s := s0, z := z0 } m ∧ c1 q = 22 ∧ c1 g = 23 := by
    obtain ⟨c1, h1, h2, h3⟩ := HS.out.later hry.bl (fun _ => 23)
    refine ⟨c1, h1, ?_, h3 g hry.low ?_⟩
    · rw [h2 q (World.block_lt_of_cell? _ _ x0)]; exact HCQ.out
    · obtain ⟨cs, hc⟩ := hry.ty; exact not_ixB hc (fun h => by rcases h with h | h | h <;> exact absurd h (by decide))
  have hnq : ¬ (fun k => x.F j k ∨ k = x.r j) q := by
    rintro (e | e)
    · have := (h1.cf j hj q e).1; omega
    · have h2 := h1.cr j hj (x.r j) (.inl rfl)
      rw [← e, hcq1] at h2; omega
  have hng : ¬ (fun k => x.F j k ∨ k = x.r j) g := by
    rintro (e | e)
    · have := (h1.cf j hj g e).1; omega
    · have h2 := h1.cr j hj (x.r j) (.inl rfl)
      rw [← e, hcg1] at h2; omega
  have hnb : ¬ (fun k => x.F j k ∨ k = x.r j) b := by
    have hcb := h1.cb
    rintro (e | e)
    · have := (h1.cf j hj b e).1; omega
    · have h2 := h1.cr j hj (x.r j) (.inl rfl)
      rw [← e, hcb] at h2; omega
  have P1 : Hid (∀ w2, Below w1.heap.size w1 w2 → Calls Tryd.prog 5 #[pt (x.p j), .slice (some ⟨g, 0, none⟩) s.ws.length (s.ws.length + 3), sv s.t] w2 fun e w' => e = .returned (.int .i64 (instE (x.M j) s.ws s.t)) ∧ Hid (Onl (fun k => x.F j k ∨ k = x.r j) w1 w') ∧ Hid (∀ w2, Below w'.heap.size w' w2 → Calls Tryd.prog 34 #[pt (x.r j), .slice s.wa s.ws.length s.wc, sv s.t] w2 fun e w'' => e = .returned (.int .i64 (instE (x.M j) s.ws s.t)) ∧ Hid (Onl (fun k => x.F j k ∨ k = x.r j) w1 w'') ∧ Hid (∀ w3, Below w''.heap.size w'' w3 → Calls Tryd.prog 35 #[.slice (some ⟨g, 0, none⟩) s.ws.length (s.ws.length + 3), .slice s.wa s.ws.length s.wc] w3 fun e w4 => e = .returned (.bool true) ∧ Hid (Ch W w4 b m (n + s.ws.length + s.vs.length))))) := by
    have hst := h1.st j hj
    have hx := HX.out
    have hx' : Eqs { x with s := s0, z := z0 } n := ⟨hx.m, hx.k, hx.c, hx.ok⟩
    intro w2 hb2
    refine (h1.pair hj (f1 := 5) (f2 := 34) (a1 := #[pt (x.p j), .slice (some ⟨g, 0, none⟩) s.ws.length (s.ws.length + 3), sv s.t]) (a2 := #[pt (x.r j), .slice s.wa s.ws.length s.wc, sv s.t]) (e1 := .int .i64 (instE (x.M j) s.ws s.t)) (M' := instR (x.M j) s.ws s.t) (k' := x.kp j) (fun w1 hb1 => ?_) (fun w2 ho hbl hr => ?_) w2 hb2).mono ?_
    · exact install_is s.t (hst.later hb1) (HRY.out.row.later hb1) (fun b0 off e hf => hng (.inl (by injection e with e; injection e with e; rw [e]; exact hf))) (by omega) (by have := HCJ.out; omega)
    · simp only [hx.m, hx.k] at hr
      refine (rinstall_is HGD.out hr (HW.out.later hbl) (fun h0 b0 off e1 e2 => ?_) (by omega) (by have := HCJ.out; omega) hbl.size s.t HT.out).mono ?_
      · obtain ⟨b9, o9, e9, hc9, _⟩ := HW.out 0 h0
        rw [e1] at e9
        have e9 : b0 = b9 := by injection e9 with e9; injection e9
        have h8 := World.block_lt_of_cell? _ _ hc9
        have h7 := h1.rl j hj
        simp only at h7 h8
        omega
      · rintro e w' ⟨rfl, v', h1, h2, h3⟩
        exact ⟨rfl, v', h1, h2, h3⟩
    · rintro e w' ⟨rfl, ho, hk⟩
      refine ⟨rfl, ho, fun w2 hb2 => (hk.out w2 hb2).mono ?_⟩
      rintro e w'' ⟨rfl, ho2, c', F', v', h4, hc4⟩
      refine ⟨rfl, ho2, fun w3 hb3 => ?_⟩
      have hcg4 : c' g = 23 := (hc4 g HRY.out.lt hng).trans hcg1
      obtain ⟨c5, h5, hc5, _⟩ := h4.later hb3 (fun _ => 22)
      have hg4 : g < w''.heap.size := Nat.lt_of_lt_of_le HRY.out.lt ho2.out.size
      have hcg5 : c5 g = 23 := (hc5 g hg4).trans hcg4
      have hg5 : g < w3.heap.size := Nat.lt_of_lt_of_le hg4 hb3.size
      have ho3 := ho2.out.on hb3
      have hgW : W.heap.size ≤ g := Nat.le_trans HS.out.bl.size HRY.out.low
      have hstd : StandW w3 g s.ws := by
        obtain ⟨f, f1, f2, f3⟩ := HRY.out.cells
        exact ⟨f, f1.onl ho3 hng, f2, f3⟩
      have hbe : ∀ w', Onl (fun k => k = g) w3 w' → Below W.heap.size w3 w' := fun w' ho => ho.below (fun k e => by rw [e]; exact hgW) h5.bl.size
      refine (untouchedW_is (c := s.wc) hstd (HW.out.later h5.bl) (by omega) (ho3.loose hng HRY.out.lt HRY.out.loose) hg5 (fun w' ho => HPT.out.later (h5.bl.trans (hbe w' ho)))).mono ?_
      rintro e w4 ⟨rfl, ho6, _⟩
      obtain ⟨c6, h6, _⟩ := h5.aside (ho6.mono fun k e => by rw [e, hcg5]; omega) (hbe _ ho6)
      exact ⟨rfl, _, h6.sx, hx'.put (by omega) (Nat.le_trans HIR.out.1 (by have := HCJ.out; omega)) HIO.out⟩
  replace x2 := cell_later hry.bl x2
  replace x3 := cell_later hry.bl x3
  replace x4 := cell_later hry.bl x4
  replace x7 := cell_later hry.bl x7
  replace y0 := cell_later hry.bl y0
  replace y1 := cell_later hry.bl y1
  generalize instE (x.M j) s.ws s.t = ie at P1
  generalize (fun k => x.F j k ∨ k = x.r j) = G at P1 hnq hnb hng
  generalize x.p j = pj at y0 P1
  generalize x.r j = rj at y1 P1
  clear hry h1 hcq1 hcg1 RM x0 x1 x5 x6 x8 hng
  go_wp2_with fail
  go_region_held3 (fun w' => w'.cell? ⟨q, 2, none⟩ = some (.int .u64 s.t.a) ∧ w'.cell? ⟨q, 3, none⟩ = some (.int .u32 s.t.b) ∧ w'.cell? ⟨q, 4, none⟩ = some (.int .u32 s.t.c) ∧ w'.cell? ⟨q, 7, none⟩ = some (.slice s.wa s.ws.length s.wc) ∧ w'.cell? ⟨b, j, none⟩ = some (pt pj) ∧ w'.cell? ⟨b, 2 + j, none⟩ = some (pt rj) ∧ Onl G w1 w')
    ((refine (fun (hO : Onl G w1 _) => ⟨hO.cell hnq x2, hO.cell hnq x3, hO.cell hnq x4, hO.cell hnq x7, hO.cell hnb y0, hO.cell hnb y1, hO⟩) ?_; (repeat (first | with_reducible exact Onl.refl _ _ | with_reducible assumption | with_reducible refine Onl.drew ?_ | with_reducible refine Onl.al ?_ _))))
    (first | (go_at_call 5; refine (P1.out _ (by (repeat (first | with_reducible exact Below.refl _ _ | with_reducible assumption | with_reducible refine Below.drew ?_ | with_reducible refine Below.al ?_ _ | with_reducible refine Below.setCell ?_ (by first | exact Nat.le_refl _ | (simp; omega) | (simp; done)) _ | with_reducible refine Below.on ?_ (by assumption))))).mono ?_; rintro e w4 ⟨rfl, ho4, HK⟩; have hO4 : Onl G w1 w4 := ho4.out) | (go_at_call 34; refine (HK.out _ (by (repeat (first | with_reducible exact Below.refl _ _ | with_reducible assumption | with_reducible refine Below.drew ?_ | with_reducible refine Below.al ?_ _ | with_reducible refine Below.setCell ?_ (by first | exact Nat.le_refl _ | (simp; omega) | (simp; done)) _ | with_reducible refine Below.on ?_ (by assumption))))).mono ?_; rintro e w5 ⟨rfl, ho5, HF⟩; have hO5 : Onl G w1 w5 := ho5.out; have x7b := hO5.cell hnq x7))
  all_goals (try go_wp2_with fail)
  refine (HF.out _ (Below.refl _ _)).mono ?_
  rintro e w6 ⟨rfl, HE⟩
  go_wp2_with fail
  go_ret
  exact ⟨rfl, HE⟩
end Go.Proofs.YtmlacdfdpdkdaaaDoor.Bg
