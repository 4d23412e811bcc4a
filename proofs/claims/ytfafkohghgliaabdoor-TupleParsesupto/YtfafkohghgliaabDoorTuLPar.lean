import Derived.Test.YtfafkohghgliaabDoorTuD3
import Derived.Test.YtfafkohghgliaabDoorTuPT
import Derived.Test.YtfafkohghgliaabDoorTuPP
import Derived.Test.YtfafkohghgliaabDoorTuRefQ
/- The law: TupleParses. -/
namespace Go.Proofs.YtfafkohghgliaabDoor.Tu
open Go.RowKit Go.Sort Go.Proofs.YtfafkohghgliaabDoor Go.Proofs.YtfafkohghgliaabDoor.Rt Go.Proofs.YtfafkohghgliaabDoor.Gt
set_option linter.unusedVariables false
set_option linter.unusedSectionVars false
variable [DecidableEq Vl]

set_option maxHeartbeats 4000000 in
theorem law_parses {l : List Nat} (h8 : B8 l) (hl : l.length ≤ 1048576) {w : World} (hv : Vars w) :
    Calls Tryd.prog 7 #[.string (ofNats l)] w fun e w' => e = .returned (.bool true) ∧ Below w.heap.size w w' := by
  obtain ⟨hTp, hTl⟩ := parT_ok h8 hl
  have hok := hTp.ok
  have HVW := hid hv
  have HP := fun w' (hb : Below w.heap.size w w') => hid (parse_is h8 (by omega) (hv.later hb))
  clear hv
  have HQ := fun w' => hid (refparse_is h8 (by omega) w')
  obtain ⟨T, hT⟩ : ∃ T, T = (parT l).getD [] := ⟨_, rfl⟩
  obtain ⟨E, hE⟩ : ∃ E, E = dE (parT l) := ⟨_, rfl⟩
  obtain ⟨n, hn⟩ : ∃ n, n = T.length := ⟨_, rfl⟩
  rw [← hT] at hok hTl hTp
  have HTP := hid hTp
  have H8 := hid h8
  have HTE : Hid (E = 0 → textS T = ofNats l ∧ okT T = true) := by
    show _ → _
    intro he
    rw [hE] at he
    cases hp : parT l with
    | none => rw [hp] at he; simp [dE] at he
    | some T' =>
      rw [hp] at hT
      have := par_only h8 hp
      rw [hT]
      show textS T' = _ ∧ okT T' = true
      exact ⟨by unfold textS; rw [this.1, this.2.2]; rfl, this.1⟩
  have hEv : E = 0 ∨ E = 250 := by rw [hE]; unfold dE; split <;> simp
  clear hTp
  have hn1 : n ≤ 1048577 := by omega
  have HD : ∀ w', Below w.heap.size w w' → Hid (Calls Tryd.prog 23 #[.string (ofNats l)] w' fun e w'' => ∃ a c, e = .returned (.tuple #[.slice a n c, .int .i64 E]) ∧ OwnV w'' w'.heap.size (.slice a n c) T ∧ Below w'.heap.size w' w'') := fun w' hbw => by
    refine hid ((HP w' hbw).out.mono ?_)
    rintro e w'' ⟨v, rfl, ho, hb⟩
    rw [← hT] at ho
    obtain ⟨a, c, rfl⟩ := ho.slice
    rw [← hE, ← hn] at *
    exact ⟨a, c, rfl, ho, hb⟩
  have HR : ∀ w', Hid (Calls Tryd.prog 24 #[.string (ofNats l)] w' fun e w'' => ∃ a c, e = .returned (.tuple #[.slice a n c, .int .i64 E]) ∧ OwnV w'' w'.heap.size (.slice a n c) T ∧ Below w'.heap.size w' w'') := fun w' => by
    refine hid ((HQ w').out.mono ?_)
    rintro e w'' ⟨v, rfl, ho, hb⟩
    rw [← hT] at ho
    obtain ⟨a, c, rfl⟩ := ho.slice
    rw [← hE, ← hn] at *
    exact ⟨a, c, rfl, ho, hb⟩
  have HS : ∀ w' a c b d, RowV w' a T → RowV w' b T → Hid (Calls Tryd.prog 12 #[.slice a n c, .slice b n d] w' fun e w'' => e = .returned (.bool true) ∧ Below w'.heap.size w' w'') := fun w' a c b d h k => by
    rw [hn]; exact hid (refsame_is (u := true) (by simp) h k hok hok (by omega) (by omega))
  have HN := hid hn
  clear HP HQ hT hE hn hok hTl
  go_enter Tryd.func7, Tryd.ntmps7
  go_wp2_with fail
  refine (HD _ (Below.refl _ _)).out.mono ?_
  rintro e w1 ⟨a1, c1, rfl, ho1, hb1⟩
  go_wp2_with fail
  refine (HR _).out.mono ?_
  rintro e w2 ⟨a2, c2, rfl, ho2, hb2⟩
  have hr2 : RowV w2 a1 T ∧ RowV w2 a2 T := ⟨(show OwnV w2 w.heap.size (.slice a1 T.length c1) T by rw [← HN.out]; exact ho1.later hb2).row, (show OwnV w2 w1.heap.size (.slice a2 T.length c2) T by rw [← HN.out]; exact ho2).row⟩
  rcases hEv with rfl | rfl
  case inr =>
    go_wp2_with (go_at_call 12; refine (HS _ _ _ _ _ hr2.1 hr2.2).out.mono ?_; rintro e w3 ⟨rfl, hb3⟩)
    go_ret
    exact ⟨rfl, Below.on (Below.on hb1 hb2) hb3⟩
  have HOWN : ∀ w', Below w2.heap.size w2 w' → Hid (Calls Tryd.prog 9 #[.slice a1 n c1] w' fun e w'' => ∃ g, e = .returned (.slice (some ⟨g, 0, none⟩) n (n + 1)) ∧ Rm w'' g (roomF T) (n + 1) ∧ Below w'.heap.size w' w'') := fun w' hb => by
    rw [HN.out]
    refine hid ((own_is (c := c1) (hr2.1.later hb) (by have := HN.out; omega)).mono ?_)
    rintro e w'' ⟨g, rfl, hrm, _, _, hb⟩
    exact ⟨g, rfl, hrm, hb⟩
  have HTX : ∀ w' g, Below w.heap.size w w' → Rm w' g (roomF T) (n + 1) → Hid (Calls Tryd.prog 21 #[.slice (some ⟨g, 0, none⟩) n (n + 1)] w' fun e w'' => e = .returned (.tuple #[.string (ofNats l), .int .i64 0]) ∧ Below w'.heap.size w' w'') := fun w' g hbw hr => by
    rw [HN.out] at hr ⊢
    have := text_is (c := T.length + 1) hr.own HTP.out (HVW.out.pow.later hbw)
    rw [(HTE.out rfl).1, (HTE.out rfl).2] at this
    exact hid this
  go_wp2_with (first
    | (go_at_call 12; refine (HS _ _ _ _ _ hr2.1 hr2.2).out.mono ?_; rintro e w3 ⟨rfl, hb3⟩)
    | (go_at_call 9; refine (HOWN _ hb3).out.mono ?_; rintro e wa ⟨go, rfl, hro, hba⟩)
    | (go_at_call 21; refine (HTX _ _ (Below.on (Below.on (Below.on hb1 hb2) hb3) hba) hro).out.mono ?_; rintro e wb ⟨rfl, hbb⟩))
  refine (HD _ (Below.on (Below.on (Below.on (Below.on hb1 hb2) hb3) hba) hbb)).out.mono ?_
  rintro e w4 ⟨a3, c3, rfl, ho3, hb4⟩
  have HD3 : Hid (D3 w w4 w1.heap.size w4.heap.size n (.slice a1 n c1) (.slice a2 n c2) (.slice a3 n c3) T) := by
    have b24 := Below.on (Below.on (Below.on hb3 hba) hbb) hb4
    have hz3a := hba.size
    have hzab := hbb.size
    have hz12 := hb2.size
    have hz23 := hb3.size
    have hz34 := hb4.size
    exact hid ⟨⟨T, HN.out.symm, (ho1.later hb2).later b24⟩, (ho2.later b24).zero, ho3.zero, fun k hk => by have := ho2.owner k hk; omega, fun k hk => by have := ho3.owner k hk; omega, fun k hk => by have := ho1.owner k hk; omega, Nat.le_refl _, Below.on (Below.on hb1 hb2) b24⟩
  have HLOW : Hid (∀ k, (Value.slice a1 n c1).ownBlock = some k → w.heap.size ≤ k) := hid fun k hk => (ho1.owner k hk).1
  obtain ⟨J, hJ⟩ : ∃ J, J = w1.heap.size := ⟨_, rfl⟩
  obtain ⟨M, hM⟩ : ∃ M, M = w4.heap.size := ⟨_, rfl⟩
  rw [← hJ, ← hM] at HD3
  have HA1 : Hid (0 < n → ∃ g, a1 = some ⟨g, 0, none⟩ ∧ w.heap.size ≤ g) := hid fun h0 => by
    have ho1' : OwnV w1 w.heap.size (.slice a1 T.length c1) T := by rw [← HN.out]; exact ho1
    obtain ⟨g, e, _, hg⟩ := ho1'.rm (by have := HN.out; omega)
    exact ⟨g, e, hg⟩
  have hqs : ((ofNats l).toList == (ofNats l).toList) = true := by simp
  clear HD HR ho1 ho2 ho3 hb1 hb2 hb3 hb4 hba hbb hro HOWN HTX HTE HTP hr2 hJ hM
  go_wp2_with fail
  go_loopg [11] n (fun g s9 wr => ∃ i : Nat, i ≤ n ∧ g = n - i ∧ s9 = .int .i64 i ∧ Hid (D3 w wr J M n (.slice a1 n c1) (.slice a2 n c2) (.slice a3 n c3) T))
  case atStart => exact ⟨0, by omega, by omega, rfl, HD3⟩
  case round =>
    obtain ⟨i, hi, rfl, rfl, HK⟩ := hrel
    clear HD3
    by_cases hlt : i < n
    · obtain ⟨g, rfl, hg⟩ := HA1.out (by omega)
      have HG := hid hg
      obtain ⟨l', hl', ho'⟩ := HK.out.own
      subst hl'
      obtain ⟨g2, eg, hrm, _⟩ := ho'.rm (by omega)
      injection eg with eg
      injection eg with eg _
      subst eg
      have d := hrm.at_ i hlt
      have d0 := d.1; have d1 := d.2.1; have d2 := d.2.2.1; have d3 := d.2.2.2
      have l0 := hrm.loose (i * 4); have l1 := hrm.loose (i * 4 + 1); have l2 := hrm.loose (i * 4 + 2); have l3 := hrm.loose (i * 4 + 3)
      have HP := hid (HK.out.put i ⟨9, false, (i : Int), []⟩ hg)
      clear hg d hrm ho'
      go_wp2_with fail
      go_roundg (l'.length - (i + 1))
      case measure => omega
      case rel => exact ⟨i + 1, by omega, rfl, by go_num, HP⟩
    · obtain rfl : i = n := by omega
      clear HA1
      go_wp2_with fail
      go_loopg [12, 13] 70 (fun g s10 s11 wz => ∃ (j : Nat) (a : Option Addr) (c : Nat), j ≤ 70 ∧ g = 70 - j ∧ s11 = .int .i64 j ∧ s10 = .slice a (i + j) c ∧ Hid (D3 w wz J M (i + j) (.slice a (i + j) c) (.slice a2 i c2) (.slice a3 i c3) T) ∧ Hid (∀ k, (Value.slice a (i + j) c).ownBlock = some k → w.heap.size ≤ k))
      case atStart => exact ⟨0, a1, c1, by omega, by omega, rfl, rfl, HK, HLOW⟩
      case round =>
        obtain ⟨j, a, c, hj, rfl, rfl, rfl, HZ, HLO⟩ := hrel
        clear HK HLOW
        rename World => wz
        by_cases hlt2 : j < 70
        · obtain ⟨l', hl', ho'⟩ := HZ.out.own
          have HO := hid ho'
          have HL' := hid hl'
          clear ho' hl'
          go_wp2_with (at_builtin; refine append_K rfl _ _ rfl (⟨8, false, (j : Int), []⟩ : Vl) rfl (HO.out.later (Below.al (Below.refl _ _) _)) (g := wz.heap.size) rfl (newV _ ⟨8, false, (j : Int), []⟩ _) (by rw [HL'.out]; omega) (by have := HZ.out.bel.size; simp; omega) ?_; intro v9 w9 ho9 hg9 hor9)
          have hl9 : (l' ++ [(⟨8, false, (j : Int), []⟩ : Vl)]).length = i + j + 1 := by rw [List.length_append, HL'.out]; rfl
          have HD9 := HZ.out.grow hl9 ho9 hg9 hor9 HLO.out
          have hlo9 := fun k hk => (ho9.owner k hk).1
          obtain ⟨a9, c9, rfl⟩ := ho9.slice
          rw [hl9] at HD9 hlo9 ⊢
          go_roundg (70 - (j + 1))
          case measure => omega
          case rel => exact ⟨j + 1, a9, c9, by omega, rfl, by go_num, rfl, hid HD9, hid hlo9⟩
        · obtain rfl : j = 70 := by omega
          have HR : Hid (RowV wz a3 T ∧ RowV wz a2 T) := hid ⟨(show OwnV wz 0 (.slice a3 T.length c3) T by rw [← HN.out]; exact HZ.out.tri).row, (show OwnV wz 0 (.slice a2 T.length c2) T by rw [← HN.out]; exact HZ.out.two).row⟩
          go_wp2_with (go_at_call 12; refine (HS _ _ _ _ _ HR.out.1 HR.out.2).out.mono ?_; rintro e w9 ⟨rfl, hb9⟩)
          go_ret
          exact ⟨by simp, Below.on HZ.out.bel hb9⟩
end Go.Proofs.YtfafkohghgliaabDoor.Tu
