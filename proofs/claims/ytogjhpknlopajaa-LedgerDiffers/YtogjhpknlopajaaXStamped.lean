import Derived.Test.YtogjhpknlopajaaXSortedH
/- stamped. -/
namespace Go.Proofs.Ytogjhpknlopajaa.Lg
open Go.RowKit Go.Sort Go.Shelf Go.Lib Lk
set_option linter.unusedVariables false

theorem BoxE.al {w : World} {q : Nat} {f : En} (h : BoxE w q f) (o : Obj) : BoxE (w.alloc o) q f := h.later (Below.al (Below.refl _ _) _)
theorem box_snd (w : World) (o : Obj) (f : En) : BoxE ((w.alloc o).alloc (.cells #[.int .u32 f.id.1, .int .u32 f.id.2, .int .u32 f.home, .int .i64 f.oc, .int .u64 f.w, .int .u32 f.l, .int .u32 f.n] 33)) (w.heap.size + 1) f := by
  have := box_new (w.alloc o) f
  rwa [World.size_alloc] at this
theorem BoxE.dr {w : World} {q : Nat} {f : En} (h : BoxE w q f) : BoxE w.drew q f := h
set_option maxHeartbeats 4000000 in
theorem stamped_is {w : World} {a : Option Addr} {n c : Nat} {U : List En} (hrow : RowC En.zero ecs 7 w a U) (hn : U.length = n) (hl : n ≤ 4611686018427387904)
    (hs : ∀ j, j + 1 < n → lessB (nthE U (j + 1)).w (nthE U (j + 1)).l (nthE U (j + 1)).n (nthE U j).w (nthE U j).l (nthE U j).n = false ∧ (sameB (nthE U j).w (nthE U j).l (nthE U j).n (nthE U (j + 1)).w (nthE U (j + 1)).l (nthE U (j + 1)).n = true → ltI (nthE U j).id (nthE U (j + 1)).id = true)) :
    Calls Try.prog 22 #[.slice a n c] w fun r w' => r = .returned (.bool true) ∧ Below w.heap.size w w' := by
  have HR := hid hrow
  have HLN := hid hn
  have HS := hid hs
  clear hrow hn hs
  go_enter Try.func22, Try.ntmps22
  go_wp2_with fail
  go_loopg [3] n (fun g s3 wr => ∃ k : Nat, 1 ≤ k ∧ (k ≤ n ∨ k = 1) ∧ g = n + 1 - k ∧ s3 = .int .i64 k ∧ Hid (Below w.heap.size w wr))
  case atStart => exact ⟨1, by omega, by omega, by omega, rfl, Below.refl _ _⟩
  case round =>
    obtain ⟨k, hk1, hkn, rfl, rfl, HB⟩ := hrel
    by_cases hlt : k < n
    · obtain ⟨j, hjk⟩ : ∃ j, k = j + 1 := ⟨k - 1, by omega⟩
      obtain ⟨b, off, eb, hc⟩ := RowC.later HR.out HB.out j (by rw [HLN.out]; omega)
      obtain ⟨b', off', eb', hc'⟩ := RowC.later HR.out HB.out k (by rw [HLN.out]; omega)
      subst eb
      injection eb' with eb'
      injection eb' with e1 e2 _
      subst e1 e2
      obtain ⟨x, hxe⟩ : ∃ x, x = nthE U j := ⟨_, rfl⟩
      obtain ⟨y, hye⟩ : ∃ y, y = nthE U k := ⟨_, rfl⟩
      have hxe' : (U[j]?).getD En.zero = x := hxe.symm
      have hye' : (U[k]?).getD En.zero = y := hye.symm
      rw [hxe'] at hc
      rw [hye'] at hc'
      have hxy := HS.out j (by omega)
      rw [← hjk, ← hxe, ← hye] at hxy
      have BL := hid (fun W => refbelow_is hxy.1 W)
      obtain ⟨z, hz⟩ : ∃ z, sameB x.w x.l x.n y.w y.l y.n = z := ⟨_, rfl⟩
      have qq : ∀ W, (binOp .eql 31 (.agg #[.int .u64 x.w, .int .u32 x.l, .int .u32 x.n]) (.agg #[.int .u64 y.w, .int .u32 y.l, .int .u32 y.n])).run Try.prog W = .ok (.bool z) W := fun W => by rw [← hz]; exact run_eqS _ _ _ _ _ _ W
      have EA : Hid (z = true → ∀ W, Calls Try.prog 40 #[.agg #[.int .u32 x.id.1, .int .u32 x.id.2], .agg #[.int .u32 y.id.1, .int .u32 y.id.2]] W fun e w' => e = .returned (.bool true) ∧ Below W.heap.size W w') := fun e W => earlier_is (hxy.2 (by rw [hz, e])) W
      have hwr : IntKind.i64.wrap ((k : Int) - 1) = (j : Int) := by rw [IntKind.wrap_i64]; omega
      have hk2 : (k : Int) < (n : Int) := by omega
      have hj2 : (j : Int) < (n : Int) := by omega
      have hj0 : (0 : Int) ≤ (j : Int) := by omega
      have g0 : wr.cell? ⟨b, off + j * 7, none⟩ = some (.int .u32 x.id.1) := hc 0 _ rfl
      have g1 : wr.cell? ⟨b, off + j * 7 + 1, none⟩ = some (.int .u32 x.id.2) := hc 1 _ rfl
      have g2 : wr.cell? ⟨b, off + j * 7 + 2, none⟩ = some (.int .u32 x.home) := hc 2 _ rfl
      have g3 : wr.cell? ⟨b, off + j * 7 + 3, none⟩ = some (.int .i64 x.oc) := hc 3 _ rfl
      have g4 : wr.cell? ⟨b, off + j * 7 + 4, none⟩ = some (.int .u64 x.w) := hc 4 _ rfl
      have g5 : wr.cell? ⟨b, off + j * 7 + 5, none⟩ = some (.int .u32 x.l) := hc 5 _ rfl
      have g6 : wr.cell? ⟨b, off + j * 7 + 6, none⟩ = some (.int .u32 x.n) := hc 6 _ rfl
      have f0 : wr.cell? ⟨b, off + k * 7, none⟩ = some (.int .u32 y.id.1) := hc' 0 _ rfl
      have f1 : wr.cell? ⟨b, off + k * 7 + 1, none⟩ = some (.int .u32 y.id.2) := hc' 1 _ rfl
      have f2 : wr.cell? ⟨b, off + k * 7 + 2, none⟩ = some (.int .u32 y.home) := hc' 2 _ rfl
      have f3 : wr.cell? ⟨b, off + k * 7 + 3, none⟩ = some (.int .i64 y.oc) := hc' 3 _ rfl
      have f4 : wr.cell? ⟨b, off + k * 7 + 4, none⟩ = some (.int .u64 y.w) := hc' 4 _ rfl
      have f5 : wr.cell? ⟨b, off + k * 7 + 5, none⟩ = some (.int .u32 y.l) := hc' 5 _ rfl
      have f6 : wr.cell? ⟨b, off + k * 7 + 6, none⟩ = some (.int .u32 y.n) := hc' 6 _ rfl
      clear hc hc' hxe hye hxe' hye' hxy hjk hz
      go_wp2_with fail
      go_cut [4, 5] (fun s4 s5 wz => ∃ q1 q2 : Nat, s4 = .pointer (some ⟨q1, 0, none⟩) ∧ s5 = .pointer (some ⟨q2, 0, none⟩) ∧ Hid (BoxE wz q1 x) ∧ Hid (BoxE wz q2 y) ∧ Hid (Below wr.heap.size wr wz))
      case first =>
        go_region_held3 (fun w' => w'.cell? ⟨b, off + j * 7, none⟩ = some (.int .u32 x.id.1) ∧ w'.cell? ⟨b, off + j * 7 + 1, none⟩ = some (.int .u32 x.id.2) ∧ w'.cell? ⟨b, off + j * 7 + 2, none⟩ = some (.int .u32 x.home) ∧ w'.cell? ⟨b, off + j * 7 + 3, none⟩ = some (.int .i64 x.oc) ∧ w'.cell? ⟨b, off + j * 7 + 4, none⟩ = some (.int .u64 x.w) ∧ w'.cell? ⟨b, off + j * 7 + 5, none⟩ = some (.int .u32 x.l) ∧ w'.cell? ⟨b, off + j * 7 + 6, none⟩ = some (.int .u32 x.n) ∧ w'.cell? ⟨b, off + k * 7, none⟩ = some (.int .u32 y.id.1) ∧ w'.cell? ⟨b, off + k * 7 + 1, none⟩ = some (.int .u32 y.id.2) ∧ w'.cell? ⟨b, off + k * 7 + 2, none⟩ = some (.int .u32 y.home) ∧ w'.cell? ⟨b, off + k * 7 + 3, none⟩ = some (.int .i64 y.oc) ∧ w'.cell? ⟨b, off + k * 7 + 4, none⟩ = some (.int .u64 y.w) ∧ w'.cell? ⟨b, off + k * 7 + 5, none⟩ = some (.int .u32 y.l) ∧ w'.cell? ⟨b, off + k * 7 + 6, none⟩ = some (.int .u32 y.n) ∧ Below wr.heap.size wr w')
          ((refine (fun (hB : Below wr.heap.size wr _) => ⟨cell_later hB g0, cell_later hB g1, cell_later hB g2, cell_later hB g3, cell_later hB g4, cell_later hB g5, cell_later hB g6, cell_later hB f0, cell_later hB f1, cell_later hB f2, cell_later hB f3, cell_later hB f4, cell_later hB f5, cell_later hB f6, hB⟩) ?_; (repeat (first | with_reducible exact Below.refl _ _ | with_reducible assumption | with_reducible refine Below.drew ?_ | with_reducible refine Below.al ?_ _ | with_reducible refine Below.setCell ?_ (by first | exact Nat.le_refl _ | (simp; omega) | (simp; done)) _ | with_reducible refine Below.on ?_ (by assumption)))))
          (fail)
        all_goals (try go_wp2_with fail)
        all_goals go_meet
        all_goals refine ⟨_, _, rfl, rfl, hid ?_, hid ?_, hid ?_⟩
        · exact BoxE.dr (BoxE.al (box_new _ _) _)
        · exact BoxE.dr (box_snd _ _ _)
        · exact Below.drew (Below.al (Below.al (Below.refl _ _) _) _)
        · exact BoxE.dr (box_snd _ _ _)
        · exact BoxE.dr (BoxE.al (box_new _ _) _)
        · exact Below.drew (Below.al (Below.al (Below.refl _ _) _) _)
      case rest =>
        obtain ⟨q1, q2, rfl, rfl, HX, HY, HC⟩ := hcut
        rename World => wz
        obtain ⟨x0, x1, x2, x3, x4, x5, x6⟩ := HX.out
        obtain ⟨y0, y1, y2, y3, y4, y5, y6⟩ := HY.out
        clear g0 g1 g2 g3 g4 g5 g6 f0 f1 f2 f3 f4 f5 f6 x2 x3 y2 y3
        have HBz : Hid (Below w.heap.size w wz) := Below.on HB.out HC.out
        cases z with
        | false =>
          go_wp2_with (go_at_call 41; refine (BL.out _).mono ?_; rintro e w1 ⟨rfl, hb1⟩; have x4 := cell_later hb1 x4; have x5 := cell_later hb1 x5; have x6 := cell_later hb1 x6; have y4 := cell_later hb1 y4; have y5 := cell_later hb1 y5; have y6 := cell_later hb1 y6)
          go_roundg (n + 1 - (k + 1))
          case measure => omega
          case rel => exact ⟨k + 1, by omega, by omega, rfl, by go_num, Below.on HBz.out hb1⟩
        | true =>
          have EB := hid (EA.out rfl)
          clear EA
          go_wp2_with (first
            | (go_at_call 41; refine (BL.out _).mono ?_; rintro e w1 ⟨rfl, hb1⟩; have x0 := cell_later hb1 x0; have x1 := cell_later hb1 x1; have x4 := cell_later hb1 x4; have x5 := cell_later hb1 x5; have x6 := cell_later hb1 x6; have y0 := cell_later hb1 y0; have y1 := cell_later hb1 y1; have y4 := cell_later hb1 y4; have y5 := cell_later hb1 y5; have y6 := cell_later hb1 y6)
            | (go_at_call 40; refine (EB.out _).mono ?_; rintro e w2 ⟨rfl, hb2⟩))
          go_roundg (n + 1 - (k + 1))
          case measure => omega
          case rel => exact ⟨k + 1, by omega, by omega, rfl, by go_num, Below.on (Below.on HBz.out hb1) hb2⟩
    · have hk2 : ¬ (k : Int) < (n : Int) := by omega
      go_wp2_with fail
      go_ret
      exact ⟨rfl, HB.out⟩
end Go.Proofs.Ytogjhpknlopajaa.Lg
