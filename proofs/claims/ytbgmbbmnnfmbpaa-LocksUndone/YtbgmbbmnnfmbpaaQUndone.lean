import Derived.Test.YtbgmbbmnnfmbpaaQSet
import Derived.Test.YtbgmbbmnnfmbpaaQOrd
/- LocksUndone. -/
namespace Go.Proofs.Ytbgmbbmnnfmbpaa.Lk
open Go.RowKit Go.Sort
set_option linter.unusedVariables false

theorem confl_yes {M : List Hd} {i : Ix} {rs : List T2} {ws : List Wr} {h : Hd} (hh : h ∈ M) (hne : h.id ≠ i) (hm : meetB rs ws h = true) : confl M i rs ws = true := by
  rw [confl, List.any_eq_true]
  exact ⟨h, hh, by rw [hm]; simp [hne]⟩
theorem confl_self {M : List Hd} {h : Hd} (hn : hasB M h.id = false) (hc : confl M h.id h.rs h.ws = false) : confl (M ++ [h]) h.id h.rs h.ws = false := by
  rw [confl, List.any_append, Bool.or_eq_false_iff]
  exact ⟨hc, by simp⟩
theorem drop_back {M : List Hd} {h : Hd} (hn : hasB M h.id = false) : dropM (M ++ [h]) h.id = M := by
  have h1 := drop_none hn
  simp only [dropM, List.filter_append] at h1 ⊢
  rw [h1]; simp
theorem hasB_last {M : List Hd} {h : Hd} : hasB (M ++ [h]) h.id = true := hasB_iff.2 ⟨h, by simp, rfl⟩
theorem meet_point {h : Hd} {x : Wr} (hx : x ∈ h.ws) : meetB [(x.key, zb x.key)] [] h = true := meet_iff.2 (.inr (.inr ⟨x, hx, _, by simp, ins_point _⟩))
theorem meet_write {h : Hd} {x : Wr} (hx : x ∈ h.ws) : meetB [] [x] h = true := meet_iff.2 (.inl ⟨x, by simp, x, hx, rfl⟩)
theorem meet_read {h : Hd} {s : T2} (hs : s ∈ h.rs) (hi : insB s.1 s = true) : meetB [] [⟨s.1, false, ⟨#[]⟩⟩] h = true := meet_iff.2 (.inr (.inl ⟨⟨s.1, false, ⟨#[]⟩⟩, by simp, s, hs, hi⟩))
theorem one2 {w : World} {g : Nat} {x : T2} (h0 : w.cell? ⟨g, 0, none⟩ = some (.string x.1)) (h1 : w.cell? ⟨g, 1, none⟩ = some (.string x.2)) : Row2 w (some ⟨g, 0, none⟩) [x] := fun i hi => by
  have : i = 0 := by simp at hi; omega
  subst this
  exact ⟨g, 0, rfl, by simpa [nth2] using h0, by simpa [nth2] using h1⟩
theorem oneW {w : World} {g : Nat} {x : Wr} (h0 : w.cell? ⟨g, 0, none⟩ = some (.string x.key)) (h1 : w.cell? ⟨g, 1, none⟩ = some (.bool x.del)) (h2 : w.cell? ⟨g, 2, none⟩ = some (.string x.val)) : RowW w (some ⟨g, 0, none⟩) [x] := fun i hi => by
  have : i = 0 := by simp at hi; omega
  subst this
  exact ⟨g, 0, rfl, by simpa [nthW] using h0, by simpa [nthW] using h1, by simpa [nthW] using h2⟩
theorem wrap_ne {c : Int} (h : 0 ≤ c ∧ c ≤ 4294967295) : IntKind.u32.wrap (c + 1) ≠ c := by rw [IntKind.wrap_u32]; omega
theorem none2 {w : World} : Row2 w none [] := fun i hi => by simp at hi
theorem noneW {w : World} : RowW w none [] := fun i hi => by simp at hi

theorem conf_point {w : World} {p : Nat} {m1 m2 : Option Nat} {V : List Hv} {I : It} {i : Ix} {g : Nat} {x : Wr} {k0 : ByteArray} {h : Hd} (T : Tb w p m1 m2 V I) (hh : h ∈ V.map Hv.h) (hne : h.id ≠ i) (hx : x ∈ h.ws) (ek : k0 = zb x.key) (h0 : w.cell? ⟨g, 0, none⟩ = some (.string x.key)) (h1 : w.cell? ⟨g, 1, none⟩ = some (.string k0)) :
    Calls Try.prog 22 #[.pointer (some ⟨p, 0, none⟩), .agg #[.int .u32 i.1, .int .u32 i.2], .slice (some ⟨g, 0, none⟩) 1 1, .slice none 0 0] w fun e w' => e = .returned (.bool true) ∧ Below w.heap.size w w' := by
  subst ek
  exact conflict_is (rs := [(x.key, zb x.key)]) (ws := []) (u := true) (rc := 1) (wc := 0) (ra := some ⟨g, 0, none⟩) (wa := none) (i := i) (confl_yes hh hne (meet_point hx)) T (one2 h0 h1) noneW (by simp) (by simp)
theorem conf_write {w : World} {p : Nat} {m1 m2 : Option Nat} {V : List Hv} {I : It} {i : Ix} {g : Nat} {x : Wr} {h : Hd} (T : Tb w p m1 m2 V I) (hh : h ∈ V.map Hv.h) (hne : h.id ≠ i) (hm : meetB [] [x] h = true) (h0 : w.cell? ⟨g, 0, none⟩ = some (.string x.key)) (h1 : w.cell? ⟨g, 1, none⟩ = some (.bool x.del)) (h2 : w.cell? ⟨g, 2, none⟩ = some (.string x.val)) :
    Calls Try.prog 22 #[.pointer (some ⟨p, 0, none⟩), .agg #[.int .u32 i.1, .int .u32 i.2], .slice none 0 0, .slice (some ⟨g, 0, none⟩) 1 1] w fun e w' => e = .returned (.bool true) ∧ Below w.heap.size w w' :=
  conflict_is (rs := []) (ws := [x]) (u := true) (rc := 0) (wc := 1) (ra := none) (wa := some ⟨g, 0, none⟩) (i := i) (confl_yes hh hne hm) T none2 (oneW h0 h1 h2) (by simp) (by simp)
theorem id_ne {i : Ix} {oc : Int} (h : oc ≠ i.1) : i ≠ (oc, i.2) := fun e => h (by rw [e])

/-- a scene's cells -/
abbrev scs (a : Option Addr) (c : Nat) (L : List Hv) (v : Hv) (s : T2) (tw tl tn : Int) : List Value := [.slice a L.length c, .int .u32 v.h.id.1, .int .u32 v.h.id.2, .int .u32 v.h.home, .int .u64 v.h.w, .int .u32 v.h.l, .int .u32 v.h.n, .slice v.ra v.h.rs.length v.rc, .slice v.wa v.h.ws.length v.wc, .string s.1, .string s.2, .int .u64 tw, .int .u32 tl, .int .u32 tn]

set_option maxRecDepth 16000 in
set_option maxHeartbeats 4000000 in
theorem undone_law {W : World} {a : Option Addr} {c : Nat} {L : List Hv} {v : Hv} {s : T2} {tw tl tn : Int} (h : RowL W a L) (hok : ∀ x ∈ L, x.ok W) (hl : L.length ≤ 1759218604391) (hv : v.ok W) (hc : 0 ≤ v.h.id.1 ∧ v.h.id.1 ≤ 4294967295) (hk : ∀ z ∈ v.h.ws, z.key.size < 9223372036854775807) :
    Calls Try.prog 7 #[.agg #[.slice a L.length c, .int .u32 v.h.id.1, .int .u32 v.h.id.2, .int .u32 v.h.home, .int .u64 v.h.w, .int .u32 v.h.l, .int .u32 v.h.n, .slice v.ra v.h.rs.length v.rc, .slice v.wa v.h.ws.length v.wc, .string s.1, .string s.2, .int .u64 tw, .int .u32 tl, .int .u32 tn]] W fun e w' => e = .returned (.bool true) ∧ Below W.heap.size W w' := by
  obtain ⟨wx, hwx⟩ : ∃ wx, wx = W.alloc (.cells #[.slice a L.length c, .int .u32 v.h.id.1, .int .u32 v.h.id.2, .int .u32 v.h.home, .int .u64 v.h.w, .int .u32 v.h.l, .int .u32 v.h.n, .slice v.ra v.h.rs.length v.rc, .slice v.wa v.h.ws.length v.wc, .string s.1, .string s.2, .int .u64 tw, .int .u32 tl, .int .u32 tn] 44) := ⟨_, rfl⟩
  have HBX : Hid (Below W.heap.size W wx) := by rw [hwx]; exact Below.al (Below.refl _ _) _
  have hsx : wx.heap.size = W.heap.size + 1 := by rw [hwx]; simp
  have hx : ∀ o u, (scs a c L v s tw tl tn)[o]? = some u → wx.cell? ⟨W.heap.size, o, none⟩ = some u := fun o u ho => cell_of_obj (by rw [hwx]; exact (MapKept.heap_alloc _ _).1) (by simpa using ho)
  have HX := hid hx
  have hrow : RowL wx a L := fun i hi => by
    obtain ⟨b, off, e, hc⟩ := h i hi
    exact ⟨b, off, e, fun o u ho => cell_later HBX.out (hc o u ho)⟩
  have SE := hid (set_is (c := c) (v := v) (s := s) (tw := tw) (tl := tl) (tn := tn) hrow (fun x hx => (hok x hx).later HBX.out) (by omega))
  have HSX := hid hsx
  have HV := hid (hv.later HBX.out)
  have HC := hid hc
  have HKS := hid hk
  have HML : Hid ((setM L).length ≤ L.length) := setM_le _ L rfl
  have HMP : Hid (0 < L.length → 0 < (setM L).length) := fun h => setM_pos (L.length - 1) L (by omega)
  have y0 := hx 0 _ rfl
  have y1 := hx 1 _ rfl
  have y2 := hx 2 _ rfl
  have y3 := hx 3 _ rfl
  have y4 := hx 4 _ rfl
  have y5 := hx 5 _ rfl
  have y6 := hx 6 _ rfl
  have y7 := hx 7 _ rfl
  have y8 := hx 8 _ rfl
  have y9 := hx 9 _ rfl
  have y10 := hx 10 _ rfl
  have y11 := hx 11 _ rfl
  have y12 := hx 12 _ rfl
  have y13 := hx 13 _ rfl
  clear h hok hv hc hk hrow hx hsx
  go_enter Try.func7, Try.ntmps7
  go_upto_region 1 with fail
  rw [← hwx]
  clear hwx
  go_wp2_with fail
  refine SE.out.mono ?_
  rintro e w1 ⟨p, m1, m2, V, I, rfl, HS⟩
  have HX1 : Hid (∀ o u, (scs a c L v s tw tl tn)[o]? = some u → w1.cell? ⟨W.heap.size, o, none⟩ = some u) := fun o u h => cell_later HS.out.2.2.2 (HX.out o u h)
  have HT1 := hid HS.out.1
  have HM := hid HS.out.2.1
  have HIT := hid HS.out.2.2.1
  have HB1 := hid HS.out.2.2.2
  have nI : ¬ Its p m1 m2 W.heap.size := fun h => by have := HIT.out _ h; have := HSX.out; omega
  have NI := hid nI
  have hvl : V.length = (setM L).length := by rw [← HM.out, List.length_map]
  have HVL := hid hvl
  clear HS SE hvl nI y0 y1 y2 y3 y4 y5 y6 y7 y8 y9 y10 y11 y12 y13
  go_upto_region 2 with fail
  go_cut [30] (fun s30 wz => s30 = .bool false ∧ Hid (Below w1.heap.size w1 wz))
  case first =>
    have y0 := HX1.out 0 _ rfl
    by_cases h0 : 0 < L.length
    · have d0 : decide (0 < L.length) = true := decide_eq_true h0
      have LE := hid (len_is HT1.out)
      have hne : ((V.length : Int) == 0) = false := by
        have := HMP.out h0
        have := HVL.out
        rw [beq_eq_false_iff_ne]; omega
      clear h0
      go_wp2_with fail
      refine LE.out.mono ?_
      rintro e w2 ⟨rfl, hw2⟩
      have HW2 := hid hw2
      clear hw2
      go_wp2_with fail
      go_meet
      exact ⟨rfl, HW2⟩
    · have d0 : decide (0 < L.length) = false := decide_eq_false h0
      clear h0
      go_wp2_with fail
      go_meet
      exact ⟨rfl, hid (Below.refl _ _)⟩
  case rest =>
    obtain ⟨rfl, HBA⟩ := hcut
    rename World => wA
    have HXA : Hid (∀ o u, (scs a c L v s tw tl tn)[o]? = some u → wA.cell? ⟨W.heap.size, o, none⟩ = some u) := fun o u h => cell_later HBA.out (HX1.out o u h)
    obtain ⟨there, hth⟩ : ∃ t, t = hasB (V.map Hv.h) v.h.id := ⟨_, rfl⟩
    have HTH := hid hth
    go_upto_region 4 with fail
    go_cut [5] (fun s5 wz => s5 = .bool there ∧ Hid (Below wA.heap.size wA wz))
    case first =>
      have GE := hid (get_is (HT1.out.later HBA.out) v.h.id)
      rw [← hth] at GE
      simp only [ixv] at GE
      have y1 := HXA.out 1 _ rfl
      have y2 := HXA.out 2 _ rfl
      clear hth
      go_wp2_with fail
      refine GE.out.mono ?_
      rintro e w2 ⟨u, rfl, -, -, -, -, HW2⟩
      have hw2 := HW2.out
      go_wp2_with fail
      go_meet
      exact ⟨rfl, hid (Below.al hw2 _)⟩
    case rest =>
      clear hth
      obtain ⟨rfl, HBB⟩ := hcut
      rename World => wB
      have hB1B : Below w1.heap.size w1 wB := Below.on HBA.out HBB.out
      have AL := hid (allT_is (HT1.out.later hB1B) (by have := HVL.out; have := HML.out; omega))
      have HB1B := hid hB1B
      clear hB1B
      go_wp2_with fail
      refine AL.out.mono ?_
      rintro e w3 ⟨a1, n1, c1, U1, rfl, HR1, HTo1, HB3⟩
      have HB13 : Hid (Below w1.heap.size w1 w3) := Below.on HB1B.out HB3.out
      have HX3 : Hid (∀ o u, (scs a c L v s tw tl tn)[o]? = some u → w3.cell? ⟨W.heap.size, o, none⟩ = some u) := fun o u h => cell_later HB13.out (HX1.out o u h)
      have y1 := HX3.out 1 _ rfl
      have y2 := HX3.out 2 _ rfl
      have y3 := HX3.out 3 _ rfl
      have y4 := HX3.out 4 _ rfl
      have y5 := HX3.out 5 _ rfl
      have y6 := HX3.out 6 _ rfl
      have y7 := HX3.out 7 _ rfl
      have y8 := HX3.out 8 _ rfl
      have hv3 : v.ok w3 := (HV.out.later HB1.out).later HB13.out
      have CP := hid (copiedT_is hv3)
      have HV3 := hid hv3
      clear AL hv3
      go_wp2_with fail
      refine CP.out.mono ?_
      rintro e w4 ⟨g1, g2, rfl, HVR, HB4⟩
      have T4 := (HT1.out.later HB13.out).later HB4.out
      have HO := hid (hold_is T4 HVR.out)
      simp only [Hv.val, Hv.roomy] at HO
      obtain ⟨C, hC⟩ : ∃ C, C = holdC (V.map Hv.h) v.h := ⟨_, rfl⟩
      rw [← hC] at HO
      have HCC := hid hC
      have HT4 := hid T4
      clear hC T4 CP y1 y2 y3 y4 y5 y6 y7 y8
      go_wp2_with fail
      refine HO.out.mono ?_
      rintro e w5 ⟨rfl, m1', m2', V', I', T5, hV5, hO5, hnew⟩
      have HT5 := hid T5
      have HV5 := hid hV5
      have hW4 : Below W.heap.size W w4 := Below.on (Below.on (Below.on HBX.out HB1.out) HB13.out) HB4.out
      have HBW5 : Hid (Below W.heap.size W w5) := hW4.trans (hO5.below (B := W.heap.size) (fun k hk => by have := HIT.out k hk; have := HSX.out; omega) hW4.size)
      have HIT5 : Hid (∀ b, Its p m1' m2' b → W.heap.size ≤ b) := fun b hb => by
        rcases hnew b hb with h | h
        · have := HIT.out b h; have := HSX.out; omega
        · have := hW4.size; omega
      have NI5 : Hid (¬ Its p m1' m2' W.heap.size) := fun hb => by
        rcases hnew _ hb with h | h
        · exact NI.out h
        · have h1 := ((Below.on HB13.out HB4.out).size); have h2 := HB1.out.size; have := HSX.out; omega
      have HR5 := hid ((HR1.out.later HB4.out).onl HT4.out hO5)
      have HX5 : Hid (∀ o u, (scs a c L v s tw tl tn)[o]? = some u → w5.cell? ⟨W.heap.size, o, none⟩ = some u) := fun o u h => hO5.cell NI.out (cell_later HB4.out (HX3.out o u h))
      have HV5o : Hid (v.ok w5) := (HV3.out.later HB4.out).onl hO5 (fun b hb => HT4.out.bare hb)
      have hlen5 : V'.length ≤ 1759218604441 := by
        have h1 := congrArg List.length hV5
        have h2 := holdM_len (V.map Hv.h) v.h
        have h3 := HVL.out
        have h4 := HML.out
        simp at h1 h2
        omega
      have HL5 := hid hlen5
      have HNID := hid HT1.out.ok.ids
      clear T5 hV5 hO5 hnew hW4 HO hlen5
      by_cases href : holdC (V.map Hv.h) v.h = 0
      case neg =>
        have hM5 : V'.map Hv.h = V.map Hv.h ∧ ((there = true ∧ C = 101) ∨ (there = false ∧ C = 100)) := by
          rw [HV5.out, HTH.out, HCC.out]
          cases e : hasB (V.map Hv.h) v.h.id with
          | true => exact ⟨(hold_there e).2, .inl ⟨rfl, (hold_there e).1⟩⟩
          | false =>
            cases e' : (V.map Hv.h).any (fun g => clashB g v.h) with
            | true => exact ⟨(hold_met e e').2, .inr ⟨rfl, (hold_met e e').1⟩⟩
            | false => exact absurd (hold_ok e e').1 href
        obtain ⟨hM5, hcs⟩ := hM5
        have AL := hid (allT_is HT5.out HL5.out)
        rw [hM5] at AL
        have TWO : Hid (∀ (w' : World) (a2 : Option Addr) (n2 c2 : Nat) (U2 : List Hv), RowH w5.heap.size w' a2 n2 c2 U2 → Told (U2.map Hv.h) (V.map Hv.h) → Below w5.heap.size w5 w' → Calls Try.prog 21 #[.slice a1 n1 c1, .slice a2 n2 c2] w' fun e w'' => e = .returned (.bool true) ∧ Below w'.heap.size w' w'') := fun w' a2 n2 c2 U2 hr ht hb =>
          sameList_is ⟨fun _ => HTo1.out.uniq HNID.out ht, fun _ => rfl⟩ (HR5.out.later hb) hr
        clear href hM5 HCC HTH
        rcases hcs with ⟨e1, e2⟩ | ⟨e1, e2⟩
        · subst e1 e2
          go_wp2_with fail
          refine AL.out.mono ?_
          rintro e w6 ⟨a2, n2, c2, U2, rfl, HR2, HTo2, HB6⟩
          go_wp2_with fail
          refine (TWO.out _ _ _ _ _ HR2.out HTo2.out HB6.out).mono ?_
          rintro e w7 ⟨rfl, hw7⟩
          have HF : Hid (Below W.heap.size W w7) := Below.on (Below.on HBW5.out HB6.out) hw7
          clear hw7
          go_wp2_with fail
          go_ret
          exact ⟨rfl, HF.out⟩
        · subst e1 e2
          go_wp2_with fail
          refine AL.out.mono ?_
          rintro e w6 ⟨a2, n2, c2, U2, rfl, HR2, HTo2, HB6⟩
          go_wp2_with fail
          refine (TWO.out _ _ _ _ _ HR2.out HTo2.out HB6.out).mono ?_
          rintro e w7 ⟨rfl, hw7⟩
          have HF : Hid (Below W.heap.size W w7) := Below.on (Below.on HBW5.out HB6.out) hw7
          clear hw7
          go_wp2_with fail
          go_ret
          exact ⟨rfl, HF.out⟩
      case pos =>
        have hC0 : C = 0 := HCC.out.trans href
        subst hC0
        have e0 : hasB (V.map Hv.h) v.h.id = false := by
          cases e : hasB (V.map Hv.h) v.h.id with
          | false => rfl
          | true => rw [(hold_there e).1] at href; cases href
        have e1 : (V.map Hv.h).any (fun g => clashB g v.h) = false := by
          cases e : (V.map Hv.h).any (fun g => clashB g v.h) with
          | false => rfl
          | true => rw [(hold_met e0 e).1] at href; cases href
        have hM5 : V'.map Hv.h = V.map Hv.h ++ [v.h] := HV5.out.trans (hold_ok e0 e1).2
        have hth : there = false := HTH.out.trans e0
        subst hth
        have HM5 := hid hM5
        have HE0 := hid e0
        have HCS : Hid (confl (V'.map Hv.h) v.h.id v.h.rs v.h.ws = false) := by
          show _ = _
          rw [hM5]; exact confl_self e0 ((confl_met e0).trans e1)
        have HIN : Hid (v.h ∈ V'.map Hv.h) := by rw [hM5]; show _ ∈ _; simp
        obtain ⟨oc, hoc⟩ : ∃ oc, IntKind.u32.wrap (v.h.id.1 + 1) = oc := ⟨_, rfl⟩
        have HOC : Hid (oc ≠ v.h.id.1) := by rw [← hoc]; exact wrap_ne HC.out
        clear href e0 e1 hM5
        go_upto_region 9 with fail
        go_cut [8] (fun s8 wz => ∃ q : Nat, s8 = .pointer (some ⟨q, 0, none⟩) ∧ Hid (wz.cell? ⟨q, 0, none⟩ = some (.int .u32 oc)) ∧ Hid (wz.cell? ⟨q, 1, none⟩ = some (.int .u32 v.h.id.2)) ∧ Hid (Below w5.heap.size w5 wz))
        case first =>
          have y1 := HX5.out 1 _ rfl
          have y2 := HX5.out 2 _ rfl
          go_wp2_with fail
          go_meet
          exact ⟨_, rfl, hid (by simp [go_sem]), hid (by simp [go_sem]), hid (Below.al (Below.refl _ _) _)⟩
        case rest =>
          obtain ⟨q, rfl, Q0, Q1, HBD⟩ := hcut
          rename World => wD
          clear hoc
          have HID : Hid (v.h.id ≠ (oc, v.h.id.2)) := id_ne HOC.out
          have HTD := hid (HT5.out.later HBD.out)
          have CF1 : Hid (∀ (Wz : World) (g : Nat) (x : Wr) (k0 : ByteArray), k0 = zb x.key → Below wD.heap.size wD Wz → x ∈ v.h.ws → Wz.cell? ⟨g, 0, none⟩ = some (.string x.key) → Wz.cell? ⟨g, 1, none⟩ = some (.string k0) → Calls Try.prog 22 #[.pointer (some ⟨p, 0, none⟩), .agg #[.int .u32 oc, .int .u32 v.h.id.2], .slice (some ⟨g, 0, none⟩) 1 1, .slice none 0 0] Wz fun e w' => e = .returned (.bool true) ∧ Below Wz.heap.size Wz w') := fun Wz g x k0 ek hb hx h0 h1 =>
            conf_point (i := (oc, v.h.id.2)) (HTD.out.later hb) HIN.out HID.out hx ek h0 h1
          have CF2 : Hid (∀ (Wz : World) (g : Nat) (x : Wr), Below wD.heap.size wD Wz → meetB [] [x] v.h = true → Wz.cell? ⟨g, 0, none⟩ = some (.string x.key) → Wz.cell? ⟨g, 1, none⟩ = some (.bool x.del) → Wz.cell? ⟨g, 2, none⟩ = some (.string x.val) → Calls Try.prog 22 #[.pointer (some ⟨p, 0, none⟩), .agg #[.int .u32 oc, .int .u32 v.h.id.2], .slice none 0 0, .slice (some ⟨g, 0, none⟩) 1 1] Wz fun e w' => e = .returned (.bool true) ∧ Below Wz.heap.size Wz w') := fun Wz g x hb hm h0 h1 h2 =>
            conf_write (i := (oc, v.h.id.2)) (HTD.out.later hb) HIN.out HID.out hm h0 h1 h2
          have HXD : Hid (∀ o u, (scs a c L v s tw tl tn)[o]? = some u → wD.cell? ⟨W.heap.size, o, none⟩ = some u) := fun o u h => cell_later HBD.out (HX5.out o u h)
          have HVD := hid (HV5o.out.later HBD.out)
          have HBWD : Hid (Below W.heap.size W wD) := Below.on HBW5.out HBD.out
          have hwl : v.h.ws.length ≤ 9223372036854775806 := by have := HVD.out.wl; omega
          have hrl : v.h.rs.length ≤ 9223372036854775806 := by have := HVD.out.rl; omega
          go_wp2_with fail
          go_loopg [9] v.h.ws.length (fun g s9 wr => ∃ k : Nat, k ≤ v.h.ws.length ∧ g = v.h.ws.length - k ∧ s9 = .int .i64 k ∧ Hid (Below wD.heap.size wD wr))
          case atStart => exact ⟨0, by omega, by omega, rfl, Below.refl _ _⟩
          case round =>
            obtain ⟨k, hk, rfl, rfl, HB⟩ := hrel
            have y8 := cell_later HB.out (HXD.out 8 _ rfl)
            by_cases hlt : k < v.h.ws.length
            · obtain ⟨b, off, eb, d0, d1, d2⟩ := (HVD.out.w.later HB.out) k hlt
              have hm := nthW_mem hlt
              obtain ⟨x, hx⟩ : ∃ x, x = nthW v.h.ws k := ⟨_, rfl⟩
              rw [← hx] at d0 d1 d2 hm
              have hks := HKS.out x hm
              have hlen : (9223372036854775807 < x.key.size + 1) = False := by simp; omega
              obtain ⟨k0, hk0⟩ : ∃ k0, x.key ++ ⟨#[0]⟩ = k0 := ⟨_, rfl⟩
              have HK0 : Hid (k0 = zb x.key) := hk0.symm
              have HMX := hid hm
              rw [eb] at y8
              clear eb
              have q0 := cell_later HB.out Q0.out
              have q1 := cell_later HB.out Q1.out
              obtain ⟨wy, hwy⟩ : ∃ wy, wy = (wr.alloc (.cells #[.string x.key, .bool x.del, .string x.val] 52)).alloc (.cells #[.string x.key, .string k0] 23) := ⟨_, rfl⟩
              have hby : Below wr.heap.size wr wy := by rw [hwy]; exact Below.al (Below.al (Below.refl _ _) _) _
              have z0 : wy.cell? ⟨wr.heap.size, 0, none⟩ = some (.string x.key) := by rw [hwy]; simp [go_sem]
              have z1 : wy.cell? ⟨wr.heap.size, 1, none⟩ = some (.bool x.del) := by rw [hwy]; simp [go_sem]
              have z2 : wy.cell? ⟨wr.heap.size, 2, none⟩ = some (.string x.val) := by rw [hwy]; simp [go_sem]
              have t0 : wy.cell? ⟨wr.heap.size + 1, 0, none⟩ = some (.string x.key) := by rw [hwy]; simp [go_sem]
              have t1 : wy.cell? ⟨wr.heap.size + 1, 1, none⟩ = some (.string k0) := by rw [hwy]; simp [go_sem]
              have C1 := hid (CF1.out wy _ x k0 HK0.out (Below.on HB.out hby) HMX.out t0 t1)
              have Y0 := hid (cell_later hby q0)
              have Y1 := hid (cell_later hby q1)
              have l0 : ((wr.alloc (.cells #[.string x.key, .bool x.del, .string x.val] 52)).alloc (.cells #[.string x.key, .string k0] 23)).cell? ⟨q, 0, none⟩ = some (.int .u32 oc) := by rw [← hwy]; exact Y0.out
              have l1 : ((wr.alloc (.cells #[.string x.key, .bool x.del, .string x.val] 52)).alloc (.cells #[.string x.key, .string k0] 23)).cell? ⟨q, 1, none⟩ = some (.int .u32 v.h.id.2) := by rw [← hwy]; exact Y1.out
              have Z0 := hid z0
              have Z1 := hid z1
              have Z2 := hid z2
              have HBY : Hid (Below wD.heap.size wD wy) := Below.on HB.out hby
              have hk1 : (k : Int) < (v.h.ws.length : Int) := by omega
              clear hx hm hks hby z0 z1 z2 t0 t1
              go_wp2_with fail
              rw [← hwy]
              refine C1.out.mono ?_
              rintro e w7 ⟨rfl, hw7⟩
              have q0 := cell_later hw7 Y0.out
              have q1 := cell_later hw7 Y1.out
              have z0 := cell_later hw7 Z0.out
              have z1 := cell_later hw7 Z1.out
              have z2 := cell_later hw7 Z2.out
              obtain ⟨w8, hw8⟩ : ∃ w8, w8 = w7.alloc (.cells #[.string x.key, .bool x.del, .string x.val] 52) := ⟨_, rfl⟩
              have HB8 : Hid (Below wD.heap.size wD w8) := by rw [hw8]; exact Below.al (Below.on HBY.out hw7) _
              have C2 := hid (CF2.out w8 w7.heap.size x HB8.out (meet_write HMX.out) (by rw [hw8]; simp [go_sem]) (by rw [hw8]; simp [go_sem]) (by rw [hw8]; simp [go_sem]))
              clear hw7 hwy
              go_wp2_with fail
              rw [← hw8]
              refine C2.out.mono ?_
              rintro e w9 ⟨rfl, hw9⟩
              have HB9 : Hid (Below wD.heap.size wD w9) := Below.on HB8.out hw9
              clear hw9 hw8
              go_wp2_with fail
              go_roundg (v.h.ws.length - (k + 1))
              case measure => omega
              case rel => exact ⟨k + 1, by omega, rfl, by go_num, HB9⟩
            · obtain rfl : k = v.h.ws.length := by omega
              have HBE := HB
              clear HB
              go_wp2_with fail
              clear y8 hlt hk
              go_loopg [12] v.h.rs.length (fun g s12 wr => ∃ k : Nat, k ≤ v.h.rs.length ∧ g = v.h.rs.length - k ∧ s12 = .int .i64 k ∧ Hid (Below wD.heap.size wD wr))
              case atStart => exact ⟨0, by omega, by omega, rfl, HBE⟩
              case round =>
                obtain ⟨k, hk, rfl, rfl, HB⟩ := hrel
                have y7 := cell_later HB.out (HXD.out 7 _ rfl)
                by_cases hlt : k < v.h.rs.length
                · obtain ⟨b, off, eb, d0, d1⟩ := (HVD.out.r.later HB.out) k hlt
                  have hm := nth2_mem hlt
                  obtain ⟨x, hx⟩ : ∃ x, x = nth2 v.h.rs k := ⟨_, rfl⟩
                  rw [← hx] at d0 d1 hm
                  rw [eb] at y7
                  clear eb
                  have q0 := cell_later HB.out Q0.out
                  have q1 := cell_later HB.out Q1.out
                  obtain ⟨z, hz⟩ : ∃ z, insB x.1 x = z := ⟨_, rfl⟩
                  obtain ⟨wy, hwy⟩ : ∃ wy, wy = wr.alloc (.cells #[.string x.1, .string x.2] 23) := ⟨_, rfl⟩
                  have hby : Below wr.heap.size wr wy := by rw [hwy]; exact Below.al (Below.refl _ _) _
                  have Z0 : Hid (wy.cell? ⟨wr.heap.size, 0, none⟩ = some (.string x.1)) := by rw [hwy]; exact hid (by simp [go_sem])
                  have IN := hid (inside_is hz wy)
                  simp only [spv] at IN
                  have Y0 := hid (cell_later hby q0)
                  have Y1 := hid (cell_later hby q1)
                  have HBY : Hid (Below wD.heap.size wD wy) := Below.on HB.out hby
                  have HMX := hid hm
                  have HZ := hid hz
                  have hk1 : (k : Int) < (v.h.rs.length : Int) := by omega
                  clear hx hm hz hby
                  go_wp2_with fail
                  rw [← hwy]
                  refine IN.out.mono ?_
                  rintro e w7 ⟨rfl, hw7⟩
                  cases z with
                  | false =>
                    have HB9 : Hid (Below wD.heap.size wD w7) := Below.on HBY.out hw7
                    clear hw7 hwy
                    go_wp2_with fail
                    go_roundg (v.h.rs.length - (k + 1))
                    case measure => omega
                    case rel => exact ⟨k + 1, by omega, rfl, by go_num, HB9⟩
                  | true =>
                    have q0 := cell_later hw7 Y0.out
                    have q1 := cell_later hw7 Y1.out
                    have z0 := cell_later hw7 Z0.out
                    obtain ⟨w8, hw8⟩ : ∃ w8, w8 = w7.alloc (.cells #[.string x.1, .bool false, .string ⟨#[]⟩] 52) := ⟨_, rfl⟩
                    have HB8 : Hid (Below wD.heap.size wD w8) := by rw [hw8]; exact Below.al (Below.on HBY.out hw7) _
                    have C2 := hid (CF2.out w8 w7.heap.size ⟨x.1, false, ⟨#[]⟩⟩ HB8.out (meet_read HMX.out HZ.out) (by rw [hw8]; simp [go_sem]) (by rw [hw8]; simp [go_sem]) (by rw [hw8]; simp [go_sem]))
                    clear hw7 hwy
                    go_wp2_with fail
                    rw [← hw8]
                    refine C2.out.mono ?_
                    rintro e w9 ⟨rfl, hw9⟩
                    have HB9 : Hid (Below wD.heap.size wD w9) := Below.on HB8.out hw9
                    clear hw9 hw8
                    go_wp2_with fail
                    go_roundg (v.h.rs.length - (k + 1))
                    case measure => omega
                    case rel => exact ⟨k + 1, by omega, rfl, by go_num, HB9⟩
                · obtain rfl : k = v.h.rs.length := by omega
                  clear CF1 CF2 y7 hlt hk
                  have hX : ∀ o u, (scs a c L v s tw tl tn)[o]? = some u → wr.cell? ⟨W.heap.size, o, none⟩ = some u := fun o u h => cell_later HB.out (HXD.out o u h)
                  have CP := hid (copiedT_is (HVD.out.later HB.out))
                  have y1 := hX 1 _ rfl
                  have y2 := hX 2 _ rfl
                  have y3 := hX 3 _ rfl
                  have y4 := hX 4 _ rfl
                  have y5 := hX 5 _ rfl
                  have y6 := hX 6 _ rfl
                  have y7 := hX 7 _ rfl
                  have y8 := hX 8 _ rfl
                  have HXR := hid hX
                  clear hX
                  go_wp2_with fail
                  refine CP.out.mono ?_
                  rintro e w6 ⟨h1, h2, rfl, HVR6, HB6⟩
                  obtain ⟨w7, hw7⟩ : ∃ w7, w7 = w6.alloc (.cells #[.int .u32 v.h.id.1, .int .u32 v.h.id.2, .int .u32 v.h.home, .int .u64 v.h.w, .int .u32 v.h.l, .int .u32 v.h.n, .slice (some ⟨h1, 0, none⟩) v.h.rs.length (v.h.rs.length + 1), .slice (some ⟨h2, 0, none⟩) v.h.ws.length (v.h.ws.length + 1)] 42) := ⟨_, rfl⟩
                  have hb7 : Below w6.heap.size w6 w7 := by rw [hw7]; exact Below.al (Below.refl _ _) _
                  have HBR7 : Hid (Below wr.heap.size wr w7) := Below.on HB6.out hb7
                  have CF := hid (conflict_is (i := v.h.id) (rc := v.h.rs.length + 1) (wc := v.h.ws.length + 1) HCS.out ((HTD.out.later HB.out).later HBR7.out) (HVR6.out.r.later hb7) (HVR6.out.w.later hb7) (by show v.h.rs.length ≤ _; omega) (by show v.h.ws.length ≤ _; omega))
                  simp only [ixv, Hv.roomy] at CF
                  clear CP hb7
                  go_wp2_with fail
                  rw [← hw7]
                  refine CF.out.mono ?_
                  rintro e w8 ⟨rfl, hw8⟩
                  have HBR8 : Hid (Below wr.heap.size wr w8) := Below.on HBR7.out hw8
                  have y1 := cell_later HBR8.out (HXR.out 1 _ rfl)
                  have y2 := cell_later HBR8.out (HXR.out 2 _ rfl)
                  have HT8 := hid ((HTD.out.later HB.out).later HBR8.out)
                  have RE := hid (release_is HT8.out v.h.id)
                  have hgone : hasB (V'.map Hv.h) v.h.id = true := by rw [HM5.out]; exact hasB_last
                  rw [hgone] at RE
                  simp only [ixv] at RE
                  clear CF hw8 hw7 hgone
                  go_wp2_with fail
                  refine RE.out.mono ?_
                  rintro e wE ⟨rfl, V2, I2, T2, hV2, hO2⟩
                  have hM2 : V2.map Hv.h = V.map Hv.h := by rw [hV2, HM5.out]; exact drop_back HE0.out
                  have hl2 : V2.length ≤ 1759218604441 := by
                    have h1 := congrArg List.length hM2
                    have h3 := HVL.out
                    have h4 := HML.out
                    simp at h1
                    omega
                  have AL := hid (allT_is T2 hl2)
                  rw [hM2] at AL
                  have HRE := hid ((((HR5.out.later HBD.out).later HB.out).later HBR8.out).onl HT8.out hO2)
                  have hW8 : Below W.heap.size W w8 := Below.on (Below.on HBWD.out HB.out) HBR8.out
                  have HBWE : Hid (Below W.heap.size W wE) := hW8.trans (hO2.below (B := W.heap.size) (fun k hk => HIT5.out k hk) hW8.size)
                  clear RE T2 hV2 hO2 hM2 hl2 hW8
                  go_wp2_with fail
                  refine AL.out.mono ?_
                  rintro e wF ⟨a2, n2, c2, U2, rfl, HR2, HTo2, HBF⟩
                  have SL := hid (sameList_is (u := true) ⟨fun _ => HTo1.out.uniq HNID.out HTo2.out, fun _ => rfl⟩ (HRE.out.later HBF.out) HR2.out)
                  clear AL
                  go_wp2_with fail
                  refine SL.out.mono ?_
                  rintro e wG ⟨rfl, hwG⟩
                  have HF : Hid (Below W.heap.size W wG) := Below.on (Below.on HBWE.out HBF.out) hwG
                  clear hwG
                  go_wp2_with fail
                  go_ret
                  exact ⟨rfl, HF.out⟩
end Go.Proofs.Ytbgmbbmnnfmbpaa.Lk
