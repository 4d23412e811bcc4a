import Derived.Test.YtmloaddbmkonoaaKTicked
namespace Go.Proofs.Ytmloaddbmkonoaa
open Go.RowKit Go.Sort
set_option linter.unusedVariables false

set_option maxHeartbeats 2000000 in
theorem crash_any (b : Nat) (g kp n c uw ul un : Int) (sl : Value) (hsl : ∃ a len cap, sl = .slice a len cap) (w : World) (B0 : Hid (BookAt w b kp ⟨uw, ul, un⟩ true)) (hlow : uw < kp) :
    Calls Try.prog 22 #[.pointer (some ⟨b, 0, none⟩), .agg #[.int .u32 n, .int .u64 g, .int .u64 c, sl]] w fun e w' => ∃ q, e = .returned (.tuple #[.pointer (some ⟨q, 0, none⟩), .bool true]) ∧ Below w.heap.size w w' ∧ w.heap.size ≤ q ∧ ClockAt w' q ⟨g, kp, n, 0, ⟨kp, 0, 0⟩⟩ := by
  obtain ⟨a, len, cap, rfl⟩ := hsl
  have HA : Hid (lessB uw ul un kp 0 0 = true) := lessB_iff.2 (.inl hlow)
  have hb := B0.out.lt
  go_enter Try.func22, Try.ntmps22
  go_wp2_with fail
  obtain ⟨wa, hwa⟩ : ∃ wa, wa = w.alloc (.cells #[.int .u32 n, .int .u64 g, .int .u64 c, .slice a len cap] 26) := ⟨_, rfl⟩
  have ba : Below w.heap.size w wa := by rw [hwa]; exact al_below _ _
  have X : BoxAt wa w.heap.size [.int .u32 n, .int .u64 g, .int .u64 c, .slice a len cap] := by rw [hwa]; exact box_at _ _ _
  rw [← hwa]
  have x0 := X 0 _ rfl
  have x1 := X 1 _ rfl
  have Ba := B0.out.later ba
  have b0 := Ba.c0
  have HBa := hid Ba
  have Hba := hid ba
  have hq1 : w.heap.size < wa.heap.size := World.block_lt_of_cell? _ _ x0
  have hq2 : b < wa.heap.size := Ba.lt
  clear hwa X Ba ba
  go_cut [6] (fun s6 wx => ∃ q : Nat, s6 = .pointer (some ⟨q, 0, none⟩) ∧ Below wa.heap.size wa wx ∧ wa.heap.size ≤ q ∧ ClockAt wx q ⟨g, kp, n, 0, ⟨kp, 0, 0⟩⟩)
  case first =>
    go_region_held3 (fun w' => w'.cell? ⟨w.heap.size, 0, none⟩ = some (.int .u32 n) ∧ w'.cell? ⟨w.heap.size, 1, none⟩ = some (.int .u64 g) ∧ w'.cell? ⟨b, 0, none⟩ = some (.int .u64 kp) ∧ Below wa.heap.size wa w')
      ((refine (fun (hB : Below wa.heap.size wa _) => ⟨cell_later hB x0, cell_later hB x1, cell_later hB b0, hB⟩) ?_; (repeat (first | exact Below.refl _ _ | assumption | refine Below.drew ?_ | refine Below.al ?_ _ | refine Below.setCell ?_ (by first | exact Nat.le_refl _ | (simp; omega) | (simp; done)) _ | refine Below.on ?_ (by assumption)))))
      (first | (go_at_call 9; refine (reopen_any n g kp _).mono ?_; rintro e w1 ⟨rfl, hb1, hc1⟩; have hB1 : Below wa.heap.size wa w1 := (by refine Below.on ?_ hb1; (repeat (first | exact Below.refl _ _ | assumption | refine Below.drew ?_ | refine Below.al ?_ _ | refine Below.setCell ?_ (by first | exact Nat.le_refl _ | (simp; omega) | (simp; done)) _ | refine Below.on ?_ (by assumption))))))
    all_goals (try go_wp2_with fail)
    all_goals go_meet
    all_goals exact ⟨_, rfl, hB1, by simp, hc1⟩
  case rest =>
    obtain ⟨q, rfl, hB, hq, hk⟩ := hcut
    have HK := hid hk
    have HB := hid hB
    have BB := HBa.out.later hB
    have b0 := BB.c0; have b1 := BB.c1; have b2 := BB.c2; have b3 := BB.c3; have b4 := BB.c4
    have kb0 := cell_regrown b0; have kb1 := cell_regrown b1; have kb2 := cell_regrown b2; have kb3 := cell_regrown b3; have kb4 := cell_regrown b4
    have HBB := hid BB
    clear hk hB BB x0 x1
    go_wp2_with fail
    refine wp_region_quiet_below (by kernel_rfl) (by kernel_rfl) ?_
    repeat (go_big_quiet_step ((go_at_call 28; exact Calls.regrown_of (ceiling_any q _ _ (HK.out.later (below_regrown _ _ _))))))
    refine wpQuiet_nil ?_
    intro w2 hw
    have hw := below_of_regrown hw
    have HK2 := hid (HK.out.later hw)
    have HB2 := hid (Below.on HB.out hw)
    have BB := HBB.out.later hw
    clear kb0 kb1 kb2 kb3 kb4 b0 b1 b2 b3 b4 hw HBB HB HK
    have b1 := BB.c1; have b2 := BB.c2; have b3 := BB.c3; have b4 := BB.c4
    have kb1 := cell_regrown b1; have kb2 := cell_regrown b2; have kb3 := cell_regrown b3; have kb4 := cell_regrown b4
    clear BB
    go_wp2_with fail
    refine wp_region_quiet_below (by kernel_rfl) (by kernel_rfl) ?_
    repeat (go_big_quiet_step (first | (go_at_call 13; exact Calls.regrown_of (last_any q _ _ (HK2.out.later (below_regrown _ _ _)))) | (go_at_call 15; exact Calls.regrown_of (after_is HA.out _))))
    refine wpQuiet_nil ?_
    intro w3 hw
    have hw := below_of_regrown hw
    have HK3 := hid (HK2.out.later hw)
    have HB3 := hid (Below.on HB2.out hw)
    clear kb1 kb2 kb3 kb4 b1 b2 b3 b4 hw HK2 HB2
    go_wp2_with fail
    go_ret2
    exact ⟨q, rfl, Below.on Hba.out HB3.out, by have := Hba.out.size; omega, HK3.out⟩

set_option maxHeartbeats 2000000 in
theorem begun_any (b p : Nat) (g n c : Int) (sl : Value) (hsl : ∃ a len cap, sl = .slice a len cap) (w : World) (HC : Hid (Ck.ok ⟨g, 0, n, 0, zst⟩)) (H0 : Hid (ClockAt w p ⟨g, 0, n, 0, zst⟩)) (B0 : Hid (BookAt w b 0 zst false)) (hbp : b ≠ p) :
    Calls Try.prog 19 #[.pointer (some ⟨b, 0, none⟩), .pointer (some ⟨p, 0, none⟩), .agg #[.int .u32 n, .int .u64 g, .int .u64 c, sl]] w fun e w' => e = .returned (.bool true) ∧ TickedPost b p g n 5 w w' := by
  obtain ⟨a, len, cap, rfl⟩ := hsl
  have u5 : U64 5 := ⟨by decide, by decide⟩
  have z32 : U32 0 := ⟨by decide, by decide⟩
  have z64 : U64 0 := ⟨by decide, by decide⟩
  have HC5 : Hid (Ck.ok ⟨g, 0, n, 5, zst⟩) := ⟨HC.out.win, HC.out.ceil, HC.out.node, u5, HC.out.l⟩
  have hs5 : Hid (St.ok ⟨5, 0, n⟩) := ⟨u5, z32, HC.out.node⟩
  have HX : Hid (tickN ⟨g, 0, n, 5, zst⟩ = ⟨5, 0, n, 0⟩) := by
    show _ = _
    simp [tickN, zst]
  have HT : Hid (tickC ⟨g, 0, n, 5, zst⟩ = ⟨g, 0, n, 5, ⟨5, 0, n⟩⟩) := tickC_yes HX.out rfl
  have HC6 : Hid (Ck.ok ⟨g, 0, n, 5, ⟨5, 0, n⟩⟩) := ⟨HC.out.win, HC.out.ceil, HC.out.node, u5, hs5.out⟩
  have H5 : Hid (¬ (5 : Int) = 18446744073709551615) := by show ¬ _; decide
  have hb := B0.out.lt
  have hp := H0.out.lt
  clear u5 z32 z64
  go_enter Try.func19, Try.ntmps19
  go_wp2_with (first
    | (go_at_call 10; refine (read_any _ _ 5 _ (H0.out.later (al_below w _))).mono ?_; rintro e w1 ⟨rfl, ho, hk⟩; have B1 := hid ((B0.out.later (al_below w _)).only ho hbp); have O1 := hid (((Only2.refl b p w).on (al_below w _)).trans (Only2.right ho)); have K1 := hid hk; have X1 := hid ((box_at w [.int .u32 n, .int .u64 g, .int .u64 c, .slice a len cap] 26).only ho (by omega)); clear ho hk)
    | (go_at_call 11; refine (tick_is HX.out _ K1.out HC5.out).mono ?_; rw [HT.out]; rintro e w2 ⟨rfl, ho, hk⟩; have B2 := hid (B1.out.only ho hbp); have O2 := hid (O1.out.trans (Only2.right ho)); have K2 := hid hk; have x0 := (X1.out.only ho (by omega)) 0 _ rfl; have hx2 : w.heap.size < w2.heap.size := World.block_lt_of_cell? _ _ x0; clear ho hk B1 K1 O1)
    | (go_at_call 21; refine (use_any b p g 0 n 5 ⟨5, 0, n⟩ ⟨5, 0, n⟩ zst false _ HC6.out hs5.out H5.out (K2.out.later (w3c_below w2 5 0 n)) (B2.out.later (w3c_below w2 5 0 n)) hbp).mono ?_; rintro e w5 ⟨rfl, ho5, K, U, hU, hUs, hB5, hC5⟩; have HO5 := hid ho5; have HU := hid hU; have HB5 := hid hB5; have HCC := hid hC5; have HUs := hid (hUs rfl); clear ho5 hU hB5 hC5 hUs))
  go_ret
  obtain ⟨h1, h2, h3, h4⟩ := HU.out
  obtain rfl := HUs.out
  exact ⟨rfl, (O2.out.on (w3c_below w2 5 0 n)).trans HO5.out, K, _, _, ⟨h1, HC6.out.rd, hs5.out, h2, less_irr _ _ _⟩, HB5.out, HCC.out⟩

end Go.Proofs.Ytmloaddbmkonoaa
