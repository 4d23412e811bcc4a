import Derived.Test.YtbgmbbmnnfmbpaaQTries
import Derived.Test.YtbgmbbmnnfmbpaaOpenRows
/- LocksApart. -/
namespace Go.Proofs.Ytbgmbbmnnfmbpaa.Lk
open Go.RowKit Go.Sort
set_option linter.unusedVariables false

/-- a step of a script -/
structure Stp where
  k : Int
  o : Int
  v : Hv
  sp : T2
abbrev Stp.cells (x : Stp) : List Value := [.int .i64 x.k, .int .i64 x.o, .int .u32 x.v.h.id.1, .int .u32 x.v.h.id.2, .int .u32 x.v.h.home, .int .u64 x.v.h.w, .int .u32 x.v.h.l, .int .u32 x.v.h.n, .slice x.v.ra x.v.h.rs.length x.v.rc, .slice x.v.wa x.v.h.ws.length x.v.wc, .string x.sp.1, .string x.sp.2]
def zstp : Stp := ⟨0, 0, Hv.zero, (⟨#[]⟩, ⟨#[]⟩)⟩
def nthP (l : List Stp) (i : Nat) : Stp := (l[i]?).getD zstp
abbrev RowP (W : World) (a : Option Addr) (l : List Stp) : Prop := RowC zstp Stp.cells 12 W a l
theorem nthP_mem {l : List Stp} {i : Nat} (h : i < l.length) : nthP l i ∈ l := by
  have : nthP l i = l[i] := by simp [nthP, h]
  rw [this]; exact List.getElem_mem h
theorem rowP_at {W w : World} {a : Option Addr} {l : List Stp} (h : RowP W a l) (hb : Below W.heap.size W w) {i : Nat} (hi : i < l.length) : ∃ b off, a = some ⟨b, off, none⟩ ∧ ∀ o u, ((nthP l i).cells)[o]? = some u → w.cell? ⟨b, off + i * 12 + o, none⟩ = some u := by
  obtain ⟨b, off, e, hc⟩ := h i hi
  exact ⟨b, off, e, fun o u ho => cell_later hb (hc o u ho)⟩

/-- the first Hold: one write -/
def oneV (g : Nat) : Hv := ⟨⟨⟨1, 1⟩, 0, 0, 0, 0, [], [⟨⟨#[107]⟩, false, ⟨#[]⟩⟩]⟩, none, 0, some ⟨g, 0, none⟩, 1⟩
theorem oneV_ok {w : World} : (oneV w.heap.size).ok (w.alloc (.cells #[.string ⟨#[107]⟩, .bool false, .string ⟨#[]⟩] 52)) where
  r := fun i hi => by simp [oneV] at hi
  w := fun i hi => by
    have : i = 0 := by simp [oneV] at hi; omega
    subst this
    exact ⟨_, 0, rfl, by simp [go_sem, oneV, nthW], by simp [go_sem, oneV, nthW], by simp [go_sem, oneV, nthW]⟩
  rl := by simp [oneV]
  wl := by simp [oneV]

set_option maxRecDepth 16000 in
set_option maxHeartbeats 4000000 in
theorem apart_law {W : World} {a : Option Addr} {c : Nat} {l : List Stp} (h : RowP W a l) (hok : ∀ x ∈ l, x.v.ok W) (hl : l.length ≤ 1099511627776) :
    Calls Try.prog 8 #[.slice a l.length c] W fun e w' => e = .returned (.bool true) ∧ Below W.heap.size W w' := by
  have HR := hid h
  have HOK := hid hok
  clear h hok
  obtain ⟨p, hp⟩ : ∃ p, p = W.heap.size := ⟨_, rfl⟩
  have NE : Hid (Calls Try.prog 24 #[] W fun e w' => e = .returned (.pointer (some ⟨p, 0, none⟩)) ∧ Hid (Tb w' p none none [] []) ∧ Hid (Below W.heap.size W w')) := by rw [hp]; exact new_is W
  have HP := hid hp
  clear hp
  go_enter Try.func8, Try.ntmps8
  go_wp2_with fail
  refine NE.out.mono ?_
  rintro e w1 ⟨rfl, HT1, HB1⟩
  have AL := hid (allT_is HT1.out (by simp))
  clear NE
  go_wp2_with fail
  refine AL.out.mono ?_
  rintro e w2 ⟨a0, n0, c0, U0, rfl, HR0, HTo0, HB2⟩
  have hn0 : n0 = 0 := by
    have h1 : (U0.map Hv.h).length = 0 := HTo0.out.len
    have h2 := HR0.out.len
    rw [List.length_map] at h1
    omega
  subst hn0
  obtain ⟨w3, hw3⟩ : ∃ w3, w3 = w2.alloc (.cells #[.string ⟨#[107]⟩, .bool false, .string ⟨#[]⟩] 52) := ⟨_, rfl⟩
  have HB3 : Hid (Below w2.heap.size w2 w3) := by rw [hw3]; exact Below.al (Below.refl _ _) _
  have TR := hid (tries_is ((HT1.out.later HB2.out).later HB3.out) (v := oneV w2.heap.size) (by rw [hw3]; exact oneV_ok) (by simp))
  simp only [oneV, Hv.val] at TR
  clear AL HR0 HTo0
  go_wp2_with fail
  rw [← hw3]
  clear hw3
  refine TR.out.mono ?_
  rintro e w4 ⟨rfl, m1, m2, V, I, T4, hV, hO, hnew⟩
  have HINV : Hid (Tb w4 p m1 m2 V I ∧ V.length ≤ 1 ∧ (∀ b, Its p m1 m2 b → W.heap.size ≤ b) ∧ Below W.heap.size W w4) := by
    have h13 : Below W.heap.size W w3 := Below.on (Below.on HB1.out HB2.out) HB3.out
    refine ⟨T4, ?_, fun b hb => ?_, h13.trans (hO.below (B := W.heap.size) (fun k hk => ?_) h13.size)⟩
    · have h1 := congrArg List.length hV
      have h2 := holdM_len (([] : List Hv).map Hv.h) (oneV w2.heap.size).h
      simp [oneV] at h1 h2
      omega
    · rcases hnew b hb with h | h
      · rcases h with rfl | h | h
        · have := HP.out; omega
        · cases h
        · cases h
      · have := h13.size; omega
    · rcases hk with rfl | h | h
      · have := HP.out; omega
      · cases h
      · cases h
  clear T4 hV hO hnew TR HT1 HB1 HB2 HB3
  go_wp2_with fail
  go_loopg [5] l.length (fun g s5 wr => ∃ i : Nat, i ≤ l.length ∧ g = l.length - i ∧ s5 = .int .i64 i ∧ ∃ m1 m2 V I, Hid (Tb wr p m1 m2 V I ∧ V.length ≤ i + 1 ∧ (∀ b, Its p m1 m2 b → W.heap.size ≤ b) ∧ Below W.heap.size W wr))
  case atStart => exact ⟨0, by omega, by omega, rfl, _, _, _, _, HINV⟩
  case round =>
    clear HINV
    obtain ⟨i, hi, rfl, rfl, m1, m2, V, I, HI⟩ := hrel
    by_cases hlt : i < l.length
    · obtain ⟨b, off, ea, hc⟩ := rowP_at HR.out HI.out.2.2.2 hlt
      subst ea
      obtain ⟨x, hx⟩ : ∃ x, x = nthP l i := ⟨_, rfl⟩
      rw [← hx] at hc
      have hxo : x.v.ok W := HOK.out x (by rw [hx]; exact nthP_mem hlt)
      have HXO := hid hxo
      have hi1 : (i : Int) < (l.length : Int) := by omega
      have hc' : ∀ o u, (x.cells)[o]? = some u → W.cell? ⟨b, off + i * 12 + o, none⟩ = some u := by
        obtain ⟨b', off', e', h'⟩ := HR.out i hlt
        injection e' with e'
        injection e' with e1 e2
        subst e1 e2
        rw [hx]; exact h'
      have HXC := hid hc'
      have k0 : wr.cell? ⟨b, off + i * 12, none⟩ = some (.int .i64 x.k) := hc 0 _ rfl
      clear hx hxo hc hc'
      go_upto_if 38 with fail
      go_cut [] (fun wE => ∃ m1 m2 V I, Hid (Tb wE p m1 m2 V I ∧ V.length ≤ i + 2 ∧ (∀ b, Its p m1 m2 b → W.heap.size ≤ b) ∧ Below W.heap.size W wE))
      case first =>
        by_cases hk : x.k = 2
        · have hk2 : (x.k == 2) = true := by simpa using hk
          have hT := HI.out.1
          have hlV := HI.out.2.1
          have hB := HI.out.2.2.2
          have AL := hid (allT_is hT (by omega))
          have HIT := hid HI.out.2.2.1
          have HTT := hid hT
          have HBB := hid hB
          have HLV := hid hlV
          clear HI hk hT hlV hB
          go_wp2_with fail
          refine AL.out.mono ?_
          rintro e w1 ⟨a1, n1, c1, U1, rfl, HR1, HTo1, HB1⟩
          have c2 : w1.cell? ⟨b, off + i * 12 + 2, none⟩ = some (.int .u32 x.v.h.id.1) := cell_later (Below.on HBB.out HB1.out) (HXC.out 2 _ rfl)
          have c3 : w1.cell? ⟨b, off + i * 12 + 3, none⟩ = some (.int .u32 x.v.h.id.2) := cell_later (Below.on HBB.out HB1.out) (HXC.out 3 _ rfl)
          obtain ⟨gone, hg⟩ : ∃ gone, gone = hasB (V.map Hv.h) x.v.h.id := ⟨_, rfl⟩
          have RE := hid (release_is (HTT.out.later HB1.out) x.v.h.id)
          rw [← hg] at RE
          simp only [ixv] at RE
          have HG := hid hg
          clear AL hg k0
          go_wp2_with fail
          refine RE.out.mono ?_
          rintro e w2 ⟨rfl, V2, I2, T2, hV2, hO2⟩
          have hl2 : V2.length ≤ i + 1 := by
            have h1 := congrArg List.length hV2
            have h2 := dropM_le (V.map Hv.h) x.v.h.id
            have h3 := HLV.out
            simp at h1 h2
            omega
          have AL := hid (allT_is T2 (by omega))
          have HR2 := hid (HR1.out.onl (HTT.out.later HB1.out) hO2)
          have HT2 := hid T2
          have HV2 := hid hV2
          have hB2 : Below W.heap.size W w2 := by
            have h1 := Below.on HBB.out HB1.out
            exact h1.trans (hO2.below (B := W.heap.size) (fun k hk => HIT.out k hk) h1.size)
          have HBW2 := hid hB2
          have HL2 := hid hl2
          clear RE T2 hV2 hO2 hB2 hl2 c2 c3
          go_wp2_with fail
          refine AL.out.mono ?_
          rintro e w3 ⟨a3, n3, c3, U3, rfl, HR3, HTo3, HB3⟩
          have HR13 := hid (HR2.out.later HB3.out)
          have HT3 := hid (HT2.out.later HB3.out)
          have HBW3 : Hid (Below W.heap.size W w3) := Below.on HBW2.out HB3.out
          have hN1 : n1 = (V.map Hv.h).length := by rw [← HTo1.out.len, List.length_map, HR1.out.len]
          have hN3 : n3 = (dropM (V.map Hv.h) x.v.h.id).length := by rw [← HV2.out, ← HTo3.out.len, List.length_map, HR3.out.len]
          have hnb : n1 ≤ 1099511627777 := by rw [hN1]; have := HLV.out; simp; omega
          have hsz : gone = true → n3 + 1 = n1 := fun e => by rw [hN1, hN3]; exact drop_len HTT.out.ok.ids (by rw [← HG.out]; exact e)
          have hsz' : gone = false → n3 = n1 := fun e => by rw [hN1, hN3, drop_none (by rw [← HG.out]; exact e)]
          have HU : Hid (∀ j, j < n1 → ((!sameI (nthH U1 j).h.id x.v.h.id) = true ↔ (nthH U1 j).h ∈ U3.map Hv.h)) := fun j hj => by
            have hm : (nthH U1 j).h ∈ V.map Hv.h := HTo1.out.perm.mem_iff.1 (List.mem_map.2 ⟨_, nthH_mem (by rw [HR1.out.len]; exact hj), rfl⟩)
            have h3 := HTo3.out.perm
            rw [HV2.out] at h3
            rw [h3.mem_iff, drop_mem]
            simp only [sameI, Bool.not_eq_true', decide_eq_false_iff_not]
            exact ⟨fun h => ⟨hm, h⟩, fun h => h.2⟩
          have HLN1 := hid HR1.out.len
          have HOK3 : Hid (∀ u ∈ U1, u.ok w3) := fun u hu => HR13.out.ok u hu
          clear AL hN1 hN3
          go_upto_region 14 with fail
          go_cut [69] (fun s69 wz => s69 = .bool false ∧ Hid (Below w3.heap.size w3 wz))
          case first =>
            cases gone with
            | true =>
              have h1 := hsz rfl
              have hw1 : IntKind.i64.wrap ((n1 : Int) - 1) = (n3 : Int) := by rw [IntKind.wrap_i64]; omega
              clear hsz hsz' h1 hnb
              go_wp2_with fail
              go_meet
              exact ⟨rfl, hid (Below.refl _ _)⟩
            | false =>
              have h1 := hsz' rfl
              subst h1
              have hw1 : ((n3 : Int) == (n3 : Int) - 1) = false := by rw [beq_eq_false_iff_ne]; omega
              clear hsz hsz'
              go_wp2_with fail
              go_meet
              exact ⟨rfl, hid (Below.refl _ _)⟩
          case rest =>
            obtain ⟨rfl, HC3⟩ := hcut
            clear hsz hsz'
            go_wp2_with fail
            go_loopg [9] n1 (fun g s9 wr => ∃ j : Nat, j ≤ n1 ∧ g = n1 - j ∧ s9 = .int .i64 j ∧ Hid (Below w3.heap.size w3 wr))
            case atStart => exact ⟨0, by omega, by omega, rfl, HC3⟩
            case round =>
              obtain ⟨j, hj, rfl, rfl, HBj⟩ := hrel
              by_cases hjl : j < n1
              · obtain ⟨g, eg, hc⟩ := ownH_at (HR13.out.later HBj.out).own HLN1.out hjl
                subst eg
                have hyo := (HOK3.out _ (nthH_mem (by rw [HLN1.out]; exact hjl))).later HBj.out
                have hu := HU.out j hjl
                obtain ⟨y, hye⟩ : ∃ y, y = nthH U1 j := ⟨_, rfl⟩
                rw [← hye] at hc hyo hu
                have s0 := cell_regrown (show wr.cell? ⟨g, j * 8, none⟩ = _ from hc 0 _ rfl)
                have s1 := cell_regrown (hc 1 _ rfl)
                have s2 := cell_regrown (hc 2 _ rfl)
                have s3 := cell_regrown (hc 3 _ rfl)
                have s4 := cell_regrown (hc 4 _ rfl)
                have s5 := cell_regrown (hc 5 _ rfl)
                have s6 := cell_regrown (hc 6 _ rfl)
                have s7 := cell_regrown (hc 7 _ rfl)
                have q2 := cell_regrown (cell_later (Below.on HBW3.out HBj.out) (HXC.out 2 _ rfl))
                have q3 := cell_regrown (cell_later (Below.on HBW3.out HBj.out) (HXC.out 3 _ rfl))
                obtain ⟨z, hz⟩ : ∃ z, sameI y.h.id x.v.h.id = z := ⟨_, rfl⟩
                have qq : ∀ W, (binOp .eql 35 (.agg #[.int .u32 y.h.id.1, .int .u32 y.h.id.2]) (.agg #[.int .u32 x.v.h.id.1, .int .u32 x.v.h.id.2])).run Try.prog W = .ok (.bool z) W := fun W => by rw [← hz]; exact run_eqI y.h.id x.v.h.id W
                rw [hz] at hu
                have ST : Hid (∀ W, Below wr.heap.size wr W → Calls Try.prog 26 #[.slice a3 n3 c3, .agg #[.int .u32 y.h.id.1, .int .u32 y.h.id.2, .int .u32 y.h.home, .int .u64 y.h.w, .int .u32 y.h.l, .int .u32 y.h.n, .slice y.ra y.h.rs.length y.rc, .slice y.wa y.h.ws.length y.wc]] W fun e w' => e = .returned (.bool (!z)) ∧ Below W.heap.size W w') := fun W hb => stands_is hu ((HR3.out.later HBj.out).later hb) (hyo.later hb)
                have hj1 : (j : Int) < (n1 : Int) := by omega
                clear hc hyo hu hye hz
                cases z with
                | true =>
                  simp only [Bool.not_true] at ST
                  go_wp2_with fail
                  refine wp_region_quiet_below (by kernel_rfl) (by kernel_rfl) ?_
                  repeat (go_big_quiet_step (((go_at_call 26; exact Calls.regrown_of (ST.out _ (below_of_regrown ⟨⟨_, _⟩, rfl⟩))))))
                  refine wpQuiet_nil ?_
                  intro wn hwn
                  replace hwn := below_of_regrown hwn
                  go_wp2_with fail
                  go_roundg (n1 - (j + 1))
                  case measure => omega
                  case rel => exact ⟨j + 1, by omega, rfl, by go_num, Below.on HBj.out hwn⟩
                | false =>
                  simp only [Bool.not_false] at ST
                  go_wp2_with fail
                  refine wp_region_quiet_below (by kernel_rfl) (by kernel_rfl) ?_
                  repeat (go_big_quiet_step (((go_at_call 26; exact Calls.regrown_of (ST.out _ (below_of_regrown ⟨⟨_, _⟩, rfl⟩))))))
                  refine wpQuiet_nil ?_
                  intro wn hwn
                  replace hwn := below_of_regrown hwn
                  go_wp2_with fail
                  go_roundg (n1 - (j + 1))
                  case measure => omega
                  case rel => exact ⟨j + 1, by omega, rfl, by go_num, Below.on HBj.out hwn⟩
              · obtain rfl : j = n1 := by omega
                have HE : Hid (Tb wr p m1 m2 V2 I2 ∧ V2.length ≤ i + 2 ∧ (∀ b, Its p m1 m2 b → W.heap.size ≤ b) ∧ Below W.heap.size W wr) := ⟨HT3.out.later HBj.out, by have := HL2.out; omega, HIT.out, Below.on HBW3.out HBj.out⟩
                go_wp2_with fail
                go_meet
                exact ⟨_, _, _, _, HE⟩
        · have hk2 : (x.k == 2) = false := by simpa using hk
          have hT := HI.out.1
          have hlV := HI.out.2.1
          have hB := HI.out.2.2.2
          have hcc : ∀ o u, (x.cells)[o]? = some u → wr.cell? ⟨b, off + i * 12 + o, none⟩ = some u := fun o u h => cell_later hB (HXC.out o u h)
          have c0 := hcc 2 _ rfl
          have c1 := hcc 3 _ rfl
          have c2 := hcc 4 _ rfl
          have c3 := hcc 5 _ rfl
          have c4 := hcc 6 _ rfl
          have c5 := hcc 7 _ rfl
          have c6 := hcc 8 _ rfl
          have c7 := hcc 9 _ rfl
          have TR := hid (tries_is hT (HXO.out.later hB) (by omega))
          simp only [Hv.val] at TR
          have HIT := hid HI.out.2.2.1
          have HBB := hid hB
          have HLV := hid hlV
          clear HI hk hT hlV hB hcc
          go_wp2_with fail
          refine TR.out.mono ?_
          rintro e w1 ⟨rfl, m1', m2', V', I', T1, hV1, hO1, hnew⟩
          have HE : Hid (Tb w1 p m1' m2' V' I' ∧ V'.length ≤ i + 2 ∧ (∀ b, Its p m1' m2' b → W.heap.size ≤ b) ∧ Below W.heap.size W w1) := by
            refine ⟨T1, ?_, fun b hb => ?_, HBB.out.trans (hO1.below (B := W.heap.size) (fun k hk => HIT.out k hk) HBB.out.size)⟩
            · have h1 := congrArg List.length hV1
              have h2 := holdM_len (V.map Hv.h) x.v.h
              have h3 := HLV.out
              simp at h1 h2
              omega
            · rcases hnew b hb with h | h
              · exact HIT.out b h
              · exact Nat.le_trans HBB.out.size h
          clear TR T1 hV1 hO1 hnew
          go_wp2_with fail
          go_meet
          exact ⟨_, _, _, _, HE⟩
      case rest =>
        clear k0 HI m1 m2 V I
        obtain ⟨m1, m2, V, I, HI⟩ := hcut
        have AL := hid (allT_is HI.out.1 (by have := HI.out.2.1; omega))
        go_wp2_with fail
        refine AL.out.mono ?_
        rintro e w5 ⟨a5, n5, c5, U5, rfl, HR5, HTo5, HB5⟩
        have AP := hid (apart_is (HTo5.out.apt HI.out.1.ok) HR5.out)
        clear AL
        go_wp2_with fail
        refine AP.out.mono ?_
        rintro e w6 ⟨rfl, hb6⟩
        have HE : Hid (Tb w6 p m1 m2 V I ∧ V.length ≤ i + 1 + 1 ∧ (∀ b, Its p m1 m2 b → W.heap.size ≤ b) ∧ Below W.heap.size W w6) := ⟨(HI.out.1.later HB5.out).later hb6, HI.out.2.1, HI.out.2.2.1, Below.on (Below.on HI.out.2.2.2 HB5.out) hb6⟩
        go_wp2_with fail
        go_roundg (l.length - (i + 1))
        case measure => omega
        case rel => exact ⟨i + 1, by omega, rfl, by go_num, _, _, _, _, HE⟩
    · obtain rfl : i = l.length := by omega
      go_wp2_with fail
      go_ret
      exact ⟨rfl, HI.out.2.2.2⟩
end Go.Proofs.Ytbgmbbmnnfmbpaa.Lk
