import Derived.Test.YtfafkohghgliaabDoorTuPS
import Derived.Test.YtfafkohghgliaabDoorTuPE
import Derived.Test.YtfafkohghgliaabDoorTuPD
import Derived.Test.YtfafkohghgliaabDoorTuRoom
import Derived.Test.YtfafkohghgliaabDoorTuJoin
import Derived.Test.YtfafkohghgliaabDoorTuBeg
import Derived.Test.YtfafkohghgliaabDoorTuLSm
import Derived.Test.YtfafkohghgliaabDoorTuTpD
import Derived.Test.YtfafkohghgliaabDoorTuBx
/- The law: TupleInside. -/
namespace Go.Proofs.YtfafkohghgliaabDoor.Tu
open Go.RowKit Go.Sort Go.Proofs.YtfafkohghgliaabDoor
set_option linter.unusedVariables false
set_option linter.unusedSectionVars false
variable [DecidableEq Vl]

/-- is a key in the span of a prefix? -/
def inS (p : List Vl) (l : List Nat) : Bool := !ltL l (encL p) && ltL l (encL p ++ [255])
theorem inS_iff {p t : List Vl} (hp : okT p = true) (ht : okT t = true) (kp : OkT p) (kt : OkT t) : inS p (encL t) = begB t p := by
  rw [Bool.eq_iff_iff, begB_iff, ← in_span hp ht kp kt]
  unfold inS
  rw [Bool.and_eq_true, Bool.not_eq_true']
/-- the machine's Inside -/
def inM (k lo hi : ByteArray) : Bool := !Op.bytesLess k.toList lo.toList && (hi.toList.isEmpty || Op.bytesLess k.toList hi.toList)
theorem inM_is {p : List Vl} {l : List Nat} (hp : okT p = true) (kp : OkT p) (h8 : B8 l) : inM (ofNats l) (encS p) (endS p) = inS p l := by
  have hb := encL_b8 kp
  have hb2 : B8 (encL p ++ [255]) := hb.append (B8.one (by decide))
  have e1 : endS p = ofNats (encL p ++ [255]) := by unfold endS; rw [hp]; rfl
  have e2 : (ofNats (encL p ++ [255])).toList.isEmpty = false := by rw [toL]; simp
  unfold inM inS
  rw [encS_yes hp, e1, bless h8 hb, bless h8 hb2, e2, Bool.false_or]
theorem inside_is {k lo hi : ByteArray} {u : Bool} (hu : inM k lo hi = u) (w : World) :
    Calls Tryd.prog 15 #[.string k, spv lo hi] w fun e w' => e = .returned (.bool u) ∧ Below w.heap.size w w' := by
  subst hu
  go_enter Tryd.func15, Tryd.ntmps15
  go_wp2_with fail
  all_goals go_ret
  all_goals refine ⟨ret_b ?_, by (repeat (first | exact Below.refl _ _ | assumption | refine Below.drew ?_ | refine Below.al ?_ _ | refine Below.setCell ?_ (by first | exact Nat.le_refl _ | (simp; omega) | (simp; done)) _ | refine Below.on ?_ (by assumption)))⟩
  all_goals simp only [inM, leq_less]
  · rename_i h1 h0
    rw [h0]; simp
  · rename_i h
    rw [← leq_less]
    have : (Op.bytesLess lo.toList k.toList || lo.toList == k.toList) = false := by
      rw [Bool.eq_false_iff]
      intro h2
      apply h
      simpa using h2
    rw [this]; rfl
theorem OwnV.cap {w : World} {B c : Nat} {a : Option Addr} {l : List Vl} (h : OwnV w B (.slice a l.length c) l) : l.length ≤ c := by
  rcases h.2 with ⟨e, e2⟩ | ⟨g, cap, cur, e, _, _, hn, _⟩
  · rw [e2]; exact Nat.zero_le _
  · injection e with _ _ e3
    rw [e3]; exact hn
set_option maxHeartbeats 4000000 in
set_option maxRecDepth 100000 in
theorem law_inside {a b : Option Addr} {c d : Nat} {xs ys : List Vl} {l : List Nat} {w : World} (h : RowV w a xs) (h2 : RowV w b ys) (h8 : B8 l) (ht : Tp xs) (ht2 : Tp ys) (hcap : ys.length ≤ d) (hl : xs.length ≤ 1048576) (hl2 : ys.length ≤ 1048576) (hll : l.length ≤ 1048576) (he : (encL xs).length ≤ 2097152) (he2 : (encL ys).length ≤ 2097152) :
    Calls Tryd.prog 4 #[.agg #[.slice a xs.length c, .slice b ys.length d, .string (ofNats l)]] w fun e w' => e = .returned (.bool true) ∧ Below w.heap.size w w' := by
  have HR := hid (show RowV w a xs ∧ RowV w b ys from ⟨h, h2⟩)
  have htj := tp_join ht ht2 hl hl2 he he2
  have HO1 : ∀ w', Below w.heap.size w w' → Hid (Calls Tryd.prog 9 #[.slice a xs.length c] w' fun e w'' => ∃ g, e = .returned (.slice (some ⟨g, 0, none⟩) xs.length (xs.length + 1)) ∧ RowV w'' (some ⟨g, 0, none⟩) xs ∧ Below w'.heap.size w' w'') := fun w' hb => hid ((own_is (HR.out.1.later hb) (by omega)).mono (by rintro e w'' ⟨g, rfl, hr, -, -, hb2⟩; exact ⟨g, rfl, hr.own, hb2⟩))
  have HO2 : ∀ w', Below w.heap.size w w' → Hid (Calls Tryd.prog 9 #[.slice b ys.length d] w' fun e w'' => ∃ g, e = .returned (.slice (some ⟨g, 0, none⟩) ys.length (ys.length + 1)) ∧ RowV w'' (some ⟨g, 0, none⟩) ys ∧ Below w'.heap.size w' w'') := fun w' hb => hid ((own_is (HR.out.2.later hb) (by omega)).mono (by rintro e w'' ⟨g, rfl, hr, -, -, hb2⟩; exact ⟨g, rfl, hr.own, hb2⟩))
  have HV1 : ∀ w', Below w.heap.size w w' → Hid (Calls Tryd.prog 11 #[.slice a xs.length c] w' fun e w'' => e = .returned (.int .i64 (vE (okT xs))) ∧ Below w'.heap.size w' w'') := fun w' hb => hid (refvalid_is (HR.out.1.later hb) ht.ok ht.le)
  have HV2 : ∀ w', Below w.heap.size w w' → Hid (Calls Tryd.prog 11 #[.slice b ys.length d] w' fun e w'' => e = .returned (.int .i64 (vE (okT ys))) ∧ Below w'.heap.size w' w'') := fun w' hb => hid (refvalid_is (HR.out.2.later hb) ht2.ok ht2.le)
  have HSP : ∀ w' g, RowV w' (some ⟨g, 0, none⟩) xs → Hid (Calls Tryd.prog 13 #[.slice (some ⟨g, 0, none⟩) xs.length (xs.length + 1)] w' fun e w'' => e = .returned (.tuple #[spv (encS xs) (endS xs), .int .i64 (vE (okT xs))]) ∧ Below w'.heap.size w' w'') := fun w' g r => hid (span_is r ht)
  obtain ⟨u1, hu1⟩ : ∃ u, okT xs = u := ⟨_, rfl⟩
  obtain ⟨u2, hu2⟩ : ∃ u, okT ys = u := ⟨_, rfl⟩
  rw [hu1] at HV1 HSP
  rw [hu2] at HV2
  by_cases hu : u1 = true ∧ u2 = true
  · obtain ⟨rfl, rfl⟩ := hu
    have hxy : okT (xs ++ ys) = true := by rw [okT_app, hu1, hu2]; rfl
    have HE2 : ∀ w' g, RowV w' (some ⟨g, 0, none⟩) ys → Hid (Calls Tryd.prog 8 #[.slice (some ⟨g, 0, none⟩) ys.length (ys.length + 1)] w' fun e w'' => e = .returned (.tuple #[.string (encS ys), .int .i64 0]) ∧ Below w'.heap.size w' w'') := fun w' g r => hid (by have := encode_is (c := ys.length + 1) r ht2; rwa [hu2] at this)
    have HJ : ∀ w', Below w.heap.size w w' → Hid (Calls Tryd.prog 14 #[.slice a xs.length c, .slice b ys.length d] w' fun e w'' => ∃ p q, e = .returned (.slice p (xs ++ ys).length q) ∧ RowV w'' p (xs ++ ys) ∧ Below w'.heap.size w' w'') := fun w' hb => hid ((joined_is (HR.out.1.later hb) (HR.out.2.later hb) (by omega)).mono (by rintro e w'' ⟨v, rfl, ho, hb2⟩; obtain ⟨p, q, rfl⟩ := ho.slice; exact ⟨p, q, rfl, ho.row, hb2⟩))
    have HEJ : ∀ w' p q, RowV w' p (xs ++ ys) → Hid (Calls Tryd.prog 8 #[.slice p (xs ++ ys).length q] w' fun e w'' => e = .returned (.tuple #[.string (encS (xs ++ ys)), .int .i64 0]) ∧ Below w'.heap.size w' w'') := fun w' p q r => hid (by have := encode_is (c := q) r htj; rwa [hxy] at this)
    have i1 : inM (encS (xs ++ ys)) (encS xs) (endS xs) = true := by
      rw [encS_yes hxy, inM_is hu1 ht.ok (encL_b8 htj.ok), inS_iff hu1 hxy ht.ok htj.ok, begB_iff]
      exact ⟨ys, rfl⟩
    have i2 : inM (encS ys) (encS xs) (endS xs) = begB ys xs := by rw [encS_yes hu2, inM_is hu1 ht.ok (encL_b8 ht2.ok), inS_iff hu1 hu2 ht.ok ht2.ok]
    have HB1 : ∀ w', Below w.heap.size w w' → Hid (Calls Tryd.prog 16 #[.slice b ys.length d, .slice a xs.length c] w' fun e w'' => e = .returned (.bool (begB ys xs)) ∧ Below w'.heap.size w' w'') := fun w' hb => hid (begins_is (HR.out.2.later hb) (HR.out.1.later hb) ht2.ok ht.ok hcap ht2.le ht.le)
    have HDL := fun w' => hid (decode_is h8 (by omega) w')
    have HKEY : Hid (∀ t', decT l = some t' → OkT t' ∧ t'.length ≤ l.length ∧ inM (ofNats l) (encS xs) (endS xs) = begB t' xs) := hid fun t' hd => by
      obtain ⟨o1, o2, o3⟩ := dec_only h8 hd
      have hs := tp_of o1 o2
      rw [o3] at hs
      refine ⟨o2, hs.1, ?_⟩
      have := inS_iff hu1 o1 ht.ok o2
      rw [o3] at this
      rw [inM_is hu1 ht.ok h8, this]
    have HTT := hid (show Tp xs from ht)
    obtain ⟨B, hB⟩ : ∃ B, B = begB ys xs := ⟨_, rfl⟩
    obtain ⟨s, hs⟩ : ∃ s, s = encS xs := ⟨_, rfl⟩
    obtain ⟨z, hz⟩ : ∃ z, z = endS xs := ⟨_, rfl⟩
    obtain ⟨sb, hsb⟩ : ∃ s, s = encS ys := ⟨_, rfl⟩
    obtain ⟨sc, hsc⟩ : ∃ s, s = encS (xs ++ ys) := ⟨_, rfl⟩
    have HN := hid (show xs.length = xs.length from rfl)
    rw [← hs, ← hz] at HSP HKEY
    rw [← hs, ← hz, ← hsb, ← hB] at i2
    rw [← hs, ← hz, ← hsc] at i1
    rw [← hB] at HB1
    rw [← hsb] at HE2
    rw [← hsc] at HEJ
    obtain ⟨n, hn⟩ : ∃ n, n = xs.length := ⟨_, rfl⟩
    obtain ⟨m, hm⟩ : ∃ m, m = ys.length := ⟨_, rfl⟩
    obtain ⟨nm, hnm⟩ : ∃ nm, nm = (xs ++ ys).length := ⟨_, rfl⟩
    have HNN := hid (show n = xs.length from hn)
    rw [← hn] at HO1 HV1 HSP HJ HB1 hl ⊢
    rw [← hm] at HO2 HV2 HE2 HJ HB1 hl2 hcap ⊢
    rw [← hnm] at HJ HEJ
    have I1 := fun w => hid (inside_is i1 w)
    have I2 := fun w => hid (inside_is i2 w)
    clear h h2 ht ht2 htj hs hz hn hm hu1 hu2 he he2 hxy i1 i2 hB hsb hsc hnm HN
    go_enter Tryd.func4, Tryd.ntmps4
    have hbx := World.alloc_heap_new w (.cells #[.slice a n c, .slice b m d, .string (ofNats l)] 37)
    have k0 : (w.alloc (.cells #[.slice a n c, .slice b m d, .string (ofNats l)] 37)).cell? ⟨w.heap.size, 0, none⟩ = some (.slice a n c) := by simp only [World.cell?, hbx]; rfl
    have k1 : (w.alloc (.cells #[.slice a n c, .slice b m d, .string (ofNats l)] 37)).cell? ⟨w.heap.size, 1, none⟩ = some (.slice b m d) := by simp only [World.cell?, hbx]; rfl
    have k2 : (w.alloc (.cells #[.slice a n c, .slice b m d, .string (ofNats l)] 37)).cell? ⟨w.heap.size, 2, none⟩ = some (.string (ofNats l)) := by simp only [World.cell?, hbx]; rfl
    have hW0 : Below w.heap.size w (w.alloc (.cells #[.slice a n c, .slice b m d, .string (ofNats l)] 37)) := Below.al (Below.refl _ _) _
    clear hbx
    go_wp2_with fail
    refine (HV1 _ hW0).out.mono ?_
    rintro e w1 ⟨rfl, hb1⟩
    simp only [vE]
    have hW1 : Below w.heap.size w w1 := Below.on hW0 hb1
    have k0 := cell_later hb1 k0
    have k1 := cell_later hb1 k1
    have k2 := cell_later hb1 k2
    clear hb1 hW0
    go_wp2_with fail
    refine (HV2 _ hW1).out.mono ?_
    rintro e w2 ⟨rfl, hb2⟩
    simp only [vE]
    have hW2 : Below w.heap.size w w2 := Below.on hW1 hb2
    have k0 := cell_later hb2 k0
    have k1 := cell_later hb2 k1
    have k2 := cell_later hb2 k2
    clear hb2 hW1
    go_wp2_with fail
    refine (HO1 _ hW2).out.mono ?_
    rintro e w3 ⟨g3, rfl, hr3, hb3⟩
    have hW3 : Below w.heap.size w w3 := Below.on hW2 hb3
    have k0 := cell_later hb3 k0
    have k1 := cell_later hb3 k1
    have k2 := cell_later hb3 k2
    clear hb3 hW2
    go_wp2_with fail
    refine (HSP _ _ hr3).out.mono ?_
    rintro e w4 ⟨rfl, hb4⟩
    simp only [vE]
    have hW4 : Below w.heap.size w w4 := Below.on hW3 hb4
    have k0 := cell_later (Below.al (Below.refl _ _) (.cells #[.string s, .string z] 39)) (cell_later hb4 k0)
    have k1 := cell_later (Below.al (Below.refl _ _) (.cells #[.string s, .string z] 39)) (cell_later hb4 k1)
    have k2 := cell_later (Below.al (Below.refl _ _) (.cells #[.string s, .string z] 39)) (cell_later hb4 k2)
    have hX4 := Bx.new w4 s z 39
    have hW4' : Below w.heap.size w (w4.alloc (.cells #[.string s, .string z] 39)) := Below.al hW4 _
    clear hb4 hW3 hr3
    go_wp2_with fail
    refine (HO2 _ hW4').out.mono ?_
    rintro e w5 ⟨g5, rfl, hr5, hb5⟩
    have hW5 : Below w.heap.size w w5 := Below.on hW4' hb5
    have k0 := cell_later hb5 k0
    have k1 := cell_later hb5 k1
    have k2 := cell_later hb5 k2
    have hX5 := hX4.later hb5
    clear hb5 hW4' hX4
    go_wp2_with fail
    refine (HE2 _ _ hr5).out.mono ?_
    rintro e w6 ⟨rfl, hb6⟩
    have hW6 : Below w.heap.size w w6 := Below.on hW5 hb6
    have k0 := cell_later hb6 k0
    have k1 := cell_later hb6 k1
    have k2 := cell_later hb6 k2
    have hX6 := hX5.later hb6
    clear hb6 hW5 hX5 hr5
    go_wp2_with fail
    refine (HJ _ hW6).out.mono ?_
    rintro e w7 ⟨p, q, rfl, hr7, hb7⟩
    have hW7 : Below w.heap.size w w7 := Below.on hW6 hb7
    have k0 := cell_later hb7 k0
    have k1 := cell_later hb7 k1
    have k2 := cell_later hb7 k2
    have hX7 := hX6.later hb7
    clear hb7 hW6 hX6
    go_wp2_with fail
    refine (HEJ _ _ _ hr7).out.mono ?_
    rintro e w8 ⟨rfl, hb8⟩
    have hW8 : Below w.heap.size w w8 := Below.on hW7 hb8
    have k0 := cell_later hb8 k0
    have k1 := cell_later hb8 k1
    have k2 := cell_later hb8 k2
    have hX8 := hX7.later hb8
    have x0 := hX8.c0; have x1 := hX8.c1
    clear hb8 hW7 hX7 hr7
    go_wp2_with (go_at_call 15; refine (I1 _).out.mono ?_; rintro e w9 ⟨rfl, hb9⟩)
    have hW9 : Below w.heap.size w w9 := Below.on hW8 hb9
    have k0 := cell_later hb9 k0
    have k1 := cell_later hb9 k1
    have k2 := cell_later hb9 k2
    have hX9 := hX8.later hb9
    have x0 := hX9.c0; have x1 := hX9.c1
    clear hb9 hW8 hX8 I1
    have ck0 := cell_regrown k0; have ck1 := cell_regrown k1; have cx0 := cell_regrown x0; have cx1 := cell_regrown x1
    have HA1 := fun w' hb => HB1 w' (Below.on hW9 hb)
    refine wp_region_quiet_below (by kernel_rfl) (by kernel_rfl) ?_
    repeat (go_big_quiet_step (first
      | (go_at_call 15; exact Calls.regrown_of (I2 _).out)
      | (go_at_call 16; exact Calls.regrown_of (HA1 _ (below_regrown _ _ _)).out)))
    refine wpQuiet_nil ?_
    intro w10 hww10
    replace hww10 := below_of_regrown hww10
    have hW10 := hid (Below.on hW9 hww10)
    replace k0 := cell_later hww10 k0
    replace k2 := cell_later hww10 k2
    have hX10 := hX9.later hww10
    clear ck0 ck1 cx0 cx1 HA1 hW9 hww10 hX9 x0 x1 k1
    clear HO1 HO2 HV1 HV2 HSP HE2 HJ HEJ HB1 I2
    go_wp2_with fail
    refine (HDL _).out.mono ?_
    rintro e w11 ⟨v, rfl, ho, hb11⟩
    have hW11 := hid (Below.on hW10.out hb11)
    replace k0 := cell_later hb11 k0
    replace k2 := cell_later hb11 k2
    have hX11 := hX10.later hb11
    have x0 := hX11.c0; have x1 := hX11.c1
    have ck0 := cell_regrown k0; have ck2 := cell_regrown k2; have cx0 := cell_regrown x0; have cx1 := cell_regrown x1
    clear hX10 hW10 hb11 HDL
    cases hd : decT l with
    | none =>
      have hE : dE (none : Option (List Vl)) = 250 := rfl
      rw [hE]
      clear hd ho HKEY
      go_wp2_with fail
      refine wp_region_quiet_below (by kernel_rfl) (by kernel_rfl) ?_
      repeat (go_big_quiet_step (fail))
      refine wpQuiet_nil ?_
      intro w12 hww12
      have hb12 := hid (below_of_regrown hww12)
      clear hww12
      go_wp2_with fail
      go_ret
      exact ⟨rfl, Below.on hW11.out hb12.out⟩
    | some t' =>
      obtain ⟨ko, kl, ki⟩ := HKEY.out t' hd
      rw [hd] at ho
      obtain ⟨a', c', rfl⟩ := ho.slice
      have hrow : RowV w11 a' t' := OwnV.row ho
      have hcp : t'.length ≤ c' := OwnV.cap ho
      have hE : dE (some t') = 0 := rfl
      rw [hE]
      have HB2 : ∀ w', Below w11.heap.size w11 w' → Hid (Calls Tryd.prog 16 #[.slice a' t'.length c', .slice a n c] w' fun e w'' => e = .returned (.bool (begB t' xs)) ∧ Below w'.heap.size w' w'') := fun w' hb => by
        rw [HNN.out]; exact hid (begins_is (hrow.later hb) (HR.out.1.later (Below.on hW11.out hb)) ko HTT.out.ok hcp (by omega) HTT.out.le)
      obtain ⟨B', hB'⟩ : ∃ B', B' = begB t' xs := ⟨_, rfl⟩
      rw [← hB'] at HB2 ki
      have I3 := fun w => hid (inside_is ki w)
      have e9 : ((some t' : Option (List Vl)).getD []).length = t'.length := rfl
      rw [e9]
      obtain ⟨r, hr⟩ : ∃ r, r = t'.length := ⟨_, rfl⟩
      rw [← hr] at HB2 ⊢
      clear hd ho HKEY ko kl ki hrow hcp hE hB' e9 hr HR
      go_wp2_with fail
      refine wp_region_quiet_below (by kernel_rfl) (by kernel_rfl) ?_
      repeat (go_big_quiet_step (first
        | (go_at_call 15; exact Calls.regrown_of (I3 _).out)
        | (go_at_call 16; exact Calls.regrown_of (HB2 _ (below_regrown _ _ _)).out)))
      refine wpQuiet_nil ?_
      intro w12 hww12
      have hb12 := hid (below_of_regrown hww12)
      clear hww12
      go_wp2_with fail
      go_ret
      exact ⟨by simp, Below.on hW11.out hb12.out⟩
  · obtain ⟨s, hs⟩ : ∃ s, s = encS xs := ⟨_, rfl⟩
    obtain ⟨z, hz⟩ : ∃ z, z = endS xs := ⟨_, rfl⟩
    rw [← hs, ← hz] at HSP
    obtain ⟨n, hn⟩ : ∃ n, n = xs.length := ⟨_, rfl⟩
    obtain ⟨m, hm⟩ : ∃ m, m = ys.length := ⟨_, rfl⟩
    rw [← hn] at HO1 HV1 HSP hl ⊢
    rw [← hm] at HV2 hl2 hcap ⊢
    have HUU : Hid (¬ (u1 = true ∧ u2 = true)) := hu
    clear h h2 ht ht2 htj HO2 hs hz hn hm hu1 hu2 he he2 hu
    go_enter Tryd.func4, Tryd.ntmps4
    have hbx := World.alloc_heap_new w (.cells #[.slice a n c, .slice b m d, .string (ofNats l)] 37)
    have k0 : (w.alloc (.cells #[.slice a n c, .slice b m d, .string (ofNats l)] 37)).cell? ⟨w.heap.size, 0, none⟩ = some (.slice a n c) := by simp only [World.cell?, hbx]; rfl
    have k1 : (w.alloc (.cells #[.slice a n c, .slice b m d, .string (ofNats l)] 37)).cell? ⟨w.heap.size, 1, none⟩ = some (.slice b m d) := by simp only [World.cell?, hbx]; rfl
    have hW0 : Below w.heap.size w (w.alloc (.cells #[.slice a n c, .slice b m d, .string (ofNats l)] 37)) := Below.al (Below.refl _ _) _
    clear hbx
    go_wp2_with fail
    refine (HV1 _ hW0).out.mono ?_
    rintro e w1 ⟨rfl, hb1⟩
    simp only [vE]
    have hW1 : Below w.heap.size w w1 := Below.on hW0 hb1
    have k0 := cell_later hb1 k0
    have k1 := cell_later hb1 k1
    clear hb1 hW0
    cases u1 with
    | false =>
      go_wp2_with fail
      refine (HO1 _ hW1).out.mono ?_
      rintro e w2 ⟨g, rfl, hr2, hb2⟩
      have hW2 : Below w.heap.size w w2 := Below.on hW1 hb2
      have k0 := cell_later hb2 k0
      clear hb2
      go_wp2_with fail
      refine (HSP _ _ hr2).out.mono ?_
      rintro e w3 ⟨rfl, hb3⟩
      simp only [vE]
      have hW3 : Below w.heap.size w w3 := Below.on hW2 hb3
      have k0 := cell_later (Below.al (Below.refl _ _) (.cells #[.string s, .string z] 39)) (cell_later hb3 k0)
      clear hb3
      go_wp2_with (go_at_call 11; refine (HV1 _ (Below.al hW3 _)).out.mono ?_; rintro e w4 ⟨rfl, hb4⟩; simp only [vE])
      go_ret
      exact ⟨rfl, Below.on (Below.al hW3 _) hb4⟩
    | true =>
      obtain rfl : u2 = false := by have := HUU.out; cases u2 <;> simp_all
      go_wp2_with fail
      refine (HV2 _ hW1).out.mono ?_
      rintro e w1b ⟨rfl, hb1b⟩
      simp only [vE]
      have hW1b : Below w.heap.size w w1b := Below.on hW1 hb1b
      have k0 := cell_later hb1b k0
      clear hb1b
      go_wp2_with fail
      refine (HO1 _ hW1b).out.mono ?_
      rintro e w2 ⟨g, rfl, hr2, hb2⟩
      have hW2 : Below w.heap.size w w2 := Below.on hW1b hb2
      have k0 := cell_later hb2 k0
      clear hb2
      go_wp2_with fail
      refine (HSP _ _ hr2).out.mono ?_
      rintro e w3 ⟨rfl, hb3⟩
      simp only [vE]
      have hW3 : Below w.heap.size w w3 := Below.on hW2 hb3
      have k0 := cell_later (Below.al (Below.refl _ _) (.cells #[.string s, .string z] 39)) (cell_later hb3 k0)
      clear hb3
      go_wp2_with (go_at_call 11; refine (HV1 _ (Below.al hW3 _)).out.mono ?_; rintro e w4 ⟨rfl, hb4⟩; simp only [vE])
      go_ret
      exact ⟨rfl, Below.on (Below.al hW3 _) hb4⟩
end Go.Proofs.YtfafkohghgliaabDoor.Tu
