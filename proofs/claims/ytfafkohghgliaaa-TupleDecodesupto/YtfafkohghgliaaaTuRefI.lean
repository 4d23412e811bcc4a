import Derived.Test.YtfafkohghgliaaaTuRefG
/- The document's guess: by mk_turefi.py. -/
namespace Go.Proofs.Ytfafkohghgliaaa.Tu
open Go.RowKit Go.Sort Go.Proofs.Ytfafkohghgliaaa
set_option linter.unusedVariables false
set_option linter.unusedSectionVars false
variable [DecidableEq Vl]

theorem wrap_in (x : Int) : In64 (wrap64 x) := by unfold wrap64 In64; omega
theorem wrap_big {m : Nat} (h : ¬ (m : Int) ≤ 9223372036854775807) (h2 : (m : Int) ≤ 18446744073709551615) (k : In64 (m : Int)) : wrap64 (m : Int) = (m : Int) := absurd k.2 h
theorem wrap_neg {m : Nat} (h : ¬ (m : Int) ≤ 9223372036854775807) (h2 : (m : Int) ≤ 18446744073709551615) (k : In64 (-(m : Int))) : wrap64 (-wrap64 (m : Int)) = -(m : Int) := by
  have : (m : Int) = 9223372036854775808 := by have := k.1; omega
  rw [this]; unfold wrap64; omega
/-- what guess answers -/
def Ge (l : List Nat) (w : World) (e : Ending) (w' : World) : Prop := ∃ (v : Vl) (n : Nat), e = .returned (.tuple #[v.val, .int .i64 (n : Int)]) ∧ Gd l v n ∧ Below w.heap.size w w'
theorem ge_ends {l : List Nat} {w w' : World} {e : Ending} {k : Int} {f : Bool} {x m : Int} {s : List Nat} {n : Nat} (he : e = .returned (.tuple #[vlv k f x (ofNats s), .int .i64 m])) (hm : m = (n : Int)) (hg : Gd l ⟨k, f, x, s⟩ n) (hb : Below w.heap.size w w') : Ge l w e w' :=
  ⟨⟨k, f, x, s⟩, n, by rw [he, hm], hg, hb⟩
theorem vb_takeR {l : List Nat} {k d : Nat} (h : l[k]? = some d) : vb (l.take (k + 1)) = vb (l.take k) * 256 + d := by
  have hk : k < l.length := (List.getElem?_eq_some_iff.1 h).1
  rw [List.getElem?_eq_getElem hk] at h
  injection h with h
  rw [List.take_succ_eq_append_getElem hk, h, vb_snoc]
theorem vbc_take {l : List Nat} {k d : Nat} (h : l[k]? = some d) : vb (cps (l.take (k + 1))) = vb (cps (l.take k)) * 256 + cpl d := by
  have hk : k < l.length := (List.getElem?_eq_some_iff.1 h).1
  rw [List.getElem?_eq_getElem hk] at h
  injection h with h
  have e : cps (l.take k ++ [d]) = cps (l.take k) ++ [cpl d] := by simp [cps]
  rw [List.take_succ_eq_append_getElem hk, h, e, vb_snoc]
theorem pow_le8 {k : Nat} (h : k ≤ 8) : 256 ^ k ≤ 18446744073709551616 := Nat.le_trans (Nat.pow_le_pow_right (by decide) h) (by decide)
set_option maxHeartbeats 2000000 in
theorem guess_plain {c : Nat} {r : List Nat} (h8 : B8 (c :: r)) (hl : (c :: r).length ≤ 4611686018427387904) (hc : c < 16 ∨ 32 < c) (w : World) :
    Calls Try.prog 17 #[.string (ofNats (c :: r))] w (Ge (c :: r) w) := by
  have hix : ∀ w, (Instr.index 9 (.string (ofNats (c :: r))) (.int .i64 0)).run Try.prog w = .ok (.int .u8 (c : Int)) w := fun w => by
    have := index_at (k := 0) (c := c) h8 rfl w
    simpa using this
  by_cases h2 : c = 2
  · have HG := hid (gd_bool (r := r) (.inl h2))
    subst h2
    go_enter Try.func17, Try.ntmps17
    go_wp2_with fail
    refine bodyPost_ret (v := .tuple #[vlv 1 false 0 ⟨#[]⟩, .int .i64 1]) (by simp [results, Try.results17, go_sem]) rfl (ge_ends (s := []) rfl rfl HG.out ?_)
    (repeat (first | exact Below.refl _ _ | assumption | refine Below.drew ?_ | refine Below.al ?_ _ | refine Below.setCell ?_ (by first | exact Nat.le_refl _ | (simp; omega) | (simp; done)) _ | refine Below.on ?_ (by assumption)))
  by_cases h3 : c = 3
  · have HG := hid (gd_bool (r := r) (.inr h3))
    subst h3
    go_enter Try.func17, Try.ntmps17
    go_wp2_with fail
    refine bodyPost_ret (v := .tuple #[vlv 1 true 0 ⟨#[]⟩, .int .i64 1]) (by simp [results, Try.results17, go_sem]) rfl (ge_ends (s := []) rfl rfl HG.out ?_)
    (repeat (first | exact Below.refl _ _ | assumption | refine Below.drew ?_ | refine Below.al ?_ _ | refine Below.setCell ?_ (by first | exact Nat.le_refl _ | (simp; omega) | (simp; done)) _ | refine Below.on ?_ (by assumption)))
  by_cases h4 : c = 48
  · have HG := hid (gd_text (r := r) (by rw [h4] at h8; exact h8))
    have HT := fun w => hid (guessText_is h8 (by simp) hl w)
    subst h4
    have e1 : (48 :: r).drop 1 = r := rfl
    rw [e1] at HT
    obtain ⟨s, hs⟩ : ∃ s, s = ofNats (gtx r).1 := ⟨_, rfl⟩
    obtain ⟨k, hk⟩ : ∃ k, k = (gtx r).2 + 1 := ⟨_, rfl⟩
    have HS := hid hs
    have HK := hid hk
    rw [← hs, ← hk] at HT
    clear hs hk h8
    go_enter Try.func17, Try.ntmps17
    go_wp2_with (go_at_call 27; refine (HT _).out.mono ?_; rintro e w1 ⟨rfl, hb1⟩; obtain ⟨hc1, hf1⟩ := bcell hb1; have HB1 := hid hb1; have k0 := hc1 w.heap.size 0 (by simp); have k1 := hc1 w.heap.size 1 (by simp); have k2 := hc1 w.heap.size 2 (by simp); have k3 := hc1 w.heap.size 3 (by simp); simp [go_sem] at k0 k1 k2 k3)
    refine bodyPost_ret (v := .tuple #[vlv 3 false 0 s, .int .i64 (k : Int)]) (by simp [results, Try.results17, go_sem, k0, k1, k2, k3]) rfl (ge_ends (s := (gtx r).1) (n := k) (by rw [HS.out]) rfl (by rw [HK.out]; exact HG.out) ?_)
    have hb2 := Below.on (Below.al (Below.refl _ _) _) HB1.out
    (repeat (first | exact Below.refl _ _ | assumption | refine Below.drew ?_ | refine Below.al ?_ _ | refine Below.setCell ?_ (by first | exact Nat.le_refl _ | (simp; omega) | (simp; done)) _ | refine Below.on ?_ (by assumption)))
  · have HG := hid (gd_null (r := r) h2 h3 h4 hc)
    have d2 : ((c : Int) == 2) = false := by simp; omega
    have d3 : ((c : Int) == 3) = false := by simp; omega
    have d4 : ((c : Int) == 48) = false := by simp; omega
    have hc8 : (c : Int) ≤ 255 := by have := h8 c (by simp); omega
    clear h2 h3 h4 h8
    rcases hc with hc | hc
    · go_enter Try.func17, Try.ntmps17
      go_wp2_with fail
      refine bodyPost_ret (v := .tuple #[vlv 0 false 0 ⟨#[]⟩, .int .i64 1]) (by simp [results, Try.results17, go_sem]) rfl (ge_ends (s := []) rfl rfl HG.out ?_)
      (repeat (first | exact Below.refl _ _ | assumption | refine Below.drew ?_ | refine Below.al ?_ _ | refine Below.setCell ?_ (by first | exact Nat.le_refl _ | (simp; omega) | (simp; done)) _ | refine Below.on ?_ (by assumption)))
    · have hc' : ¬ c < 16 := by omega
      go_enter Try.func17, Try.ntmps17
      go_wp2_with fail
      refine bodyPost_ret (v := .tuple #[vlv 0 false 0 ⟨#[]⟩, .int .i64 1]) (by simp [results, Try.results17, go_sem]) rfl (ge_ends (s := []) rfl rfl HG.out ?_)
      (repeat (first | exact Below.refl _ _ | assumption | refine Below.drew ?_ | refine Below.al ?_ _ | refine Below.setCell ?_ (by first | exact Nat.le_refl _ | (simp; omega) | (simp; done)) _ | refine Below.on ?_ (by assumption)))

set_option maxHeartbeats 4000000 in
theorem guess_pos {c : Nat} {r : List Nat} (h8 : B8 (c :: r)) (hl : (c :: r).length ≤ 4611686018427387904) (h1 : 24 ≤ c) (h2 : c ≤ 32) (w : World) :
    Calls Try.prog 17 #[.string (ofNats (c :: r))] w (Ge (c :: r) w) := by
  have hix : ∀ w, (Instr.index 9 (.string (ofNats (c :: r))) (.int .i64 0)).run Try.prog w = .ok (.int .u8 (c : Int)) w := fun w => by
    have := index_at (k := 0) (c := c) h8 rfl w
    simpa using this
  have hc8 : (c : Int) ≤ 255 := by have := h8 c (by simp); omega
  have hsz : (ofNats (c :: r)).size = (c :: r).length := ofNats_size _
  obtain ⟨k, hk⟩ : ∃ k, k = c - 24 := ⟨_, rfl⟩
  have hkI : Hid ((k : Int) = (c : Int) - 24) := by show _ = _; omega
  have hk8 : k ≤ 8 := by omega
  have hdg : dgs c = k := by unfold dgs; rw [if_pos h1, hk]
  have hdL : ∀ z, dgL c z = z := fun z => by unfold dgL; rw [if_neg (by omega)]
  have hdI : ∀ m, dgI c m = (m : Int) := fun m => by unfold dgI; rw [if_neg (by omega)]
  have HG : Hid (∀ x, In64 x → (In64 (((vb (r.take k)) : Int)) → x = ((vb (r.take k)) : Int)) → Gd (c :: r) (vInt x) (min k r.length + 1)) := by
    intro x hx hxx
    have := gd_int (c := c) (r := r) (x := x) (by omega) (by omega) hx (by rw [hdg, hdL, hdI]; exact hxx)
    rwa [hdg] at this
  obtain ⟨n, hn⟩ : ∃ n, n = (c :: r).length := ⟨_, rfl⟩
  have HN : Hid (n = r.length + 1) := by show _ = _; rw [hn]; rfl
  have H8 := hid h8
  have hn1 : 1 ≤ n := by rw [HN.out]; omega
  rw [← hn] at hl hsz
  have e24 : ¬ (c : Int) - 24 < 0 := by omega
  have e2 : ((c : Int) == 2) = false := by simp; omega
  have e3 : ((c : Int) == 3) = false := by simp; omega
  have e48 : ((c : Int) == 48) = false := by simp; omega
  have e16 : ¬ (c : Int) < 16 := by omega
  have e32 : ¬ 32 < (c : Int) := by omega
  have eS : ¬ (c : Int) < 24 := by omega
  clear h8 hn hdg hdL hdI
  go_enter Try.func17, Try.ntmps17
  go_wp2_with fail
  go_loopg [6, 7, 8] (n - 1) (fun g s6 s7 s8 wr => ∃ (i m : Nat), 1 ≤ i ∧ i ≤ k + 1 ∧ i ≤ n ∧ g = n - i ∧ s7 = .int .i64 i ∧ s6 = .int .u64 m ∧ (m : Int) ≤ 18446744073709551615 ∧ Hid (m = (vb (r.take (i - 1)))) ∧ wr = w.alloc (.cells #[.int .i64 0, .bool false, .int .i64 0, .string ⟨#[]⟩] 29))
  case atStart => exact ⟨1, 0, by omega, by omega, by omega, by omega, rfl, rfl, by omega, rfl, rfl⟩
  case round =>
    obtain ⟨i, m, hi1, hik, hin, rfl, rfl, rfl, hm64, HM, rfl⟩ := hrel
    have hkI' := hkI.out
    by_cases hlt : i ≤ k ∧ i < n
    · obtain ⟨hlk, hln⟩ := hlt
      have hlt' : i < (c :: r).length := by have := HN.out; simp; omega
      have hc : (c :: r)[i]? = some (c :: r)[i] := List.getElem?_eq_getElem hlt'
      obtain ⟨d, hd⟩ : ∃ d, d = (c :: r)[i] := ⟨_, rfl⟩
      rw [← hd] at hc
      have hd8 : d < 256 := H8.out d (by rw [hd]; exact List.getElem_mem hlt')
      have hix2 : ∀ w, (Instr.index 9 (.string (ofNats (c :: r))) (.int .i64 (i : Int))).run Try.prog w = .ok (.int .u8 (d : Int)) w := fun w => index_at H8.out hc w
      have hr : r[i - 1]? = some d := by
        have e : i = (i - 1) + 1 := by omega
        rw [e] at hc
        simpa using hc
      have hnx := vb_takeR hr
      rw [show i - 1 + 1 = i by omega, ← HM.out] at hnx
      have hlt2 : (vb (r.take i)) < 18446744073709551616 := by
        have h1 := vb_lt _ (B8.take (show B8 r from fun x hx => H8.out x (by simp [hx])) i)
        have h3 : (r.take i).length ≤ 8 := by have := List.length_take_le i r; omega
        have := pow_le8 h3
        omega
      have HNX : Hid (m * 256 + d = (vb (r.take i))) := hid hnx.symm
      have hm2 : (m : Int) * 256 + (d : Int) ≤ 18446744073709551615 := by rw [hnx] at hlt2; omega
      have hleI : (i : Int) ≤ (c : Int) - 24 ∨ True := .inr trivial
      have hki : (i : Int) ≤ (c : Int) - 24 := by omega
      clear hlt' hc hd hr hnx hlt2 hkI' hleI
      go_wp2_with fail
      go_roundg (n - (i + 1))
      case measure => omega
      case rel => exact ⟨i + 1, m * 256 + d, by omega, by omega, by omega, rfl, by go_num, by go_num, by omega, by show _ = _; rw [HNX.out]; rfl, rfl⟩
    · have HV : Hid (m = (vb (r.take k))) := by
        show _ = _
        rw [HM.out]
        by_cases e : i - 1 = k
        · rw [e]
        · have e2 := HN.out
          rw [List.take_of_length_le (show r.length ≤ i - 1 by omega), List.take_of_length_le (show r.length ≤ k by omega)]
      by_cases hend : i ≤ k
      · have hin2 : i = n := by omega
        have HC : Hid (min k r.length + 1 = n) := by show _ = _; have := HN.out; omega
        have hki : (i : Int) ≤ (c : Int) - 24 := by omega
        have hgt : (n : Int) < (c : Int) - 24 + 1 := by omega
        have HX := HG.out
        subst hin2
        clear hkI' hlt hend
        by_cases hbig : (m : Int) ≤ 9223372036854775807
        · go_wp2_with fail
          refine bodyPost_ret (v := .tuple #[vlv 2 false (m : Int) ⟨#[]⟩, .int .i64 ((i : Int) - 1 + 1)]) (by simp [results, Try.results17, go_sem]) rfl (ge_ends (s := []) (n := i) rfl (by omega) (by rw [← HC.out]; exact HX _ (by constructor <;> omega) (fun _ => by rw [← HV.out])) ?_)
          (repeat (first | exact Below.refl _ _ | assumption | refine Below.drew ?_ | refine Below.al ?_ _ | refine Below.setCell ?_ (by first | exact Nat.le_refl _ | (simp; omega) | (simp; done)) _ | refine Below.on ?_ (by assumption)))
        · go_wp2_with fail
          refine bodyPost_ret (v := .tuple #[vlv 2 false (wrap64 (m : Int)) ⟨#[]⟩, .int .i64 ((i : Int) - 1 + 1)]) (by simp [results, Try.results17, go_sem]) rfl (ge_ends (s := []) (n := i) rfl (by omega) (by rw [← HC.out]; exact HX _ (wrap_in _) (fun h => by rw [← HV.out] at h ⊢; exact wrap_big (by omega) hm64 h)) ?_)
          (repeat (first | exact Below.refl _ _ | assumption | refine Below.drew ?_ | refine Below.al ?_ _ | refine Below.setCell ?_ (by first | exact Nat.le_refl _ | (simp; omega) | (simp; done)) _ | refine Below.on ?_ (by assumption)))
      · have hik2 : i = k + 1 := by omega
        have HC : Hid (min k r.length + 1 = i) := by show _ = _; have := HN.out; omega
        have hki : ¬ (i : Int) ≤ (c : Int) - 24 := by omega
        have hgt : ¬ (n : Int) < (c : Int) - 24 + 1 := by omega
        have hiI : Hid ((c : Int) - 24 + 1 = (i : Int)) := by show _ = _; omega
        have HX := HG.out
        clear hkI' hlt hend hik2
        by_cases hbig : (m : Int) ≤ 9223372036854775807
        · go_wp2_with fail
          refine bodyPost_ret (v := .tuple #[vlv 2 false (m : Int) ⟨#[]⟩, .int .i64 ((c : Int) - 24 + 1)]) (by simp [results, Try.results17, go_sem]) rfl (ge_ends (s := []) (n := i) rfl (hiI.out) (by rw [← HC.out]; exact HX _ (by constructor <;> omega) (fun _ => by rw [← HV.out])) ?_)
          (repeat (first | exact Below.refl _ _ | assumption | refine Below.drew ?_ | refine Below.al ?_ _ | refine Below.setCell ?_ (by first | exact Nat.le_refl _ | (simp; omega) | (simp; done)) _ | refine Below.on ?_ (by assumption)))
        · go_wp2_with fail
          refine bodyPost_ret (v := .tuple #[vlv 2 false (wrap64 (m : Int)) ⟨#[]⟩, .int .i64 ((c : Int) - 24 + 1)]) (by simp [results, Try.results17, go_sem]) rfl (ge_ends (s := []) (n := i) rfl (hiI.out) (by rw [← HC.out]; exact HX _ (wrap_in _) (fun h => by rw [← HV.out] at h ⊢; exact wrap_big (by omega) hm64 h)) ?_)
          (repeat (first | exact Below.refl _ _ | assumption | refine Below.drew ?_ | refine Below.al ?_ _ | refine Below.setCell ?_ (by first | exact Nat.le_refl _ | (simp; omega) | (simp; done)) _ | refine Below.on ?_ (by assumption)))

set_option maxHeartbeats 4000000 in
theorem guess_neg {c : Nat} {r : List Nat} (h8 : B8 (c :: r)) (hl : (c :: r).length ≤ 4611686018427387904) (h1 : 16 ≤ c) (h2 : c < 24) (w : World) :
    Calls Try.prog 17 #[.string (ofNats (c :: r))] w (Ge (c :: r) w) := by
  have hix : ∀ w, (Instr.index 9 (.string (ofNats (c :: r))) (.int .i64 0)).run Try.prog w = .ok (.int .u8 (c : Int)) w := fun w => by
    have := index_at (k := 0) (c := c) h8 rfl w
    simpa using this
  have hc8 : (c : Int) ≤ 255 := by have := h8 c (by simp); omega
  have hsz : (ofNats (c :: r)).size = (c :: r).length := ofNats_size _
  obtain ⟨k, hk⟩ : ∃ k, k = 24 - c := ⟨_, rfl⟩
  have hkI : Hid ((k : Int) = 24 - (c : Int)) := by show _ = _; omega
  have hk8 : k ≤ 8 := by omega
  have hdg : dgs c = k := by unfold dgs; rw [if_neg (by omega), hk]
  have hdL : ∀ z, dgL c z = cps z := fun z => by unfold dgL; rw [if_pos h2]
  have hdI : ∀ m, dgI c m = -(m : Int) := fun m => by unfold dgI; rw [if_pos h2]
  have HG : Hid (∀ x, In64 x → (In64 (-((vb (cps (r.take k))) : Int)) → x = -((vb (cps (r.take k))) : Int)) → Gd (c :: r) (vInt x) (min k r.length + 1)) := by
    intro x hx hxx
    have := gd_int (c := c) (r := r) (x := x) (by omega) (by omega) hx (by rw [hdg, hdL, hdI]; exact hxx)
    rwa [hdg] at this
  obtain ⟨n, hn⟩ : ∃ n, n = (c :: r).length := ⟨_, rfl⟩
  have HN : Hid (n = r.length + 1) := by show _ = _; rw [hn]; rfl
  have H8 := hid h8
  have hn1 : 1 ≤ n := by rw [HN.out]; omega
  rw [← hn] at hl hsz
  have e24 : (c : Int) - 24 < 0 := by omega
  have e2 : ((c : Int) == 2) = false := by simp; omega
  have e3 : ((c : Int) == 3) = false := by simp; omega
  have e48 : ((c : Int) == 48) = false := by simp; omega
  have e16 : ¬ (c : Int) < 16 := by omega
  have e32 : ¬ 32 < (c : Int) := by omega
  have eS : (c : Int) < 24 := by omega
  clear h8 hn hdg hdL hdI
  go_enter Try.func17, Try.ntmps17
  go_wp2_with fail
  go_loopg [6, 7, 8] (n - 1) (fun g s6 s7 s8 wr => ∃ (i m : Nat), 1 ≤ i ∧ i ≤ k + 1 ∧ i ≤ n ∧ g = n - i ∧ s7 = .int .i64 i ∧ s6 = .int .u64 m ∧ (m : Int) ≤ 18446744073709551615 ∧ Hid (m = (vb (cps (r.take (i - 1))))) ∧ wr = w.alloc (.cells #[.int .i64 0, .bool false, .int .i64 0, .string ⟨#[]⟩] 29))
  case atStart => exact ⟨1, 0, by omega, by omega, by omega, by omega, rfl, rfl, by omega, rfl, rfl⟩
  case round =>
    obtain ⟨i, m, hi1, hik, hin, rfl, rfl, rfl, hm64, HM, rfl⟩ := hrel
    have hkI' := hkI.out
    by_cases hlt : i ≤ k ∧ i < n
    · obtain ⟨hlk, hln⟩ := hlt
      have hlt' : i < (c :: r).length := by have := HN.out; simp; omega
      have hc : (c :: r)[i]? = some (c :: r)[i] := List.getElem?_eq_getElem hlt'
      obtain ⟨d, hd⟩ : ∃ d, d = (c :: r)[i] := ⟨_, rfl⟩
      rw [← hd] at hc
      have hd8 : d < 256 := H8.out d (by rw [hd]; exact List.getElem_mem hlt')
      have hix2 : ∀ w, (Instr.index 9 (.string (ofNats (c :: r))) (.int .i64 (i : Int))).run Try.prog w = .ok (.int .u8 (d : Int)) w := fun w => index_at H8.out hc w
      have hr : r[i - 1]? = some d := by
        have e : i = (i - 1) + 1 := by omega
        rw [e] at hc
        simpa using hc
      have hnx := vbc_take hr
      rw [show i - 1 + 1 = i by omega, ← HM.out] at hnx
      have hlt2 : (vb (cps (r.take i))) < 18446744073709551616 := by
        have h1 := vb_lt _ (cps_b8 (r.take i))
        have h3 : (cps (r.take i)).length ≤ 8 := by have := List.length_take_le i r; rw [cps_len]; omega
        have := pow_le8 h3
        omega
      have HNX : Hid (m * 256 + cpl d = (vb (cps (r.take i)))) := hid hnx.symm
      have hm2 : (m : Int) * 256 + (255 - (d : Int)) ≤ 18446744073709551615 := by rw [hnx] at hlt2; unfold cpl at hlt2; omega
      have hleI : (i : Int) ≤ (c : Int) - 24 ∨ True := .inr trivial
      have hki : (i : Int) ≤ -((c : Int) - 24) := by omega
      clear hlt' hc hd hr hnx hlt2 hkI' hleI
      go_wp2_with fail
      go_roundg (n - (i + 1))
      case measure => omega
      case rel => exact ⟨i + 1, m * 256 + cpl d, by omega, by omega, by omega, rfl, by go_num, by unfold cpl; go_num, by unfold cpl; omega, by show _ = _; rw [HNX.out]; rfl, rfl⟩
    · have HV : Hid (m = (vb (cps (r.take k)))) := by
        show _ = _
        rw [HM.out]
        by_cases e : i - 1 = k
        · rw [e]
        · have e2 := HN.out
          rw [List.take_of_length_le (show r.length ≤ i - 1 by omega), List.take_of_length_le (show r.length ≤ k by omega)]
      by_cases hend : i ≤ k
      · have hin2 : i = n := by omega
        have HC : Hid (min k r.length + 1 = n) := by show _ = _; have := HN.out; omega
        have hki : (i : Int) ≤ -((c : Int) - 24) := by omega
        have hgt : (n : Int) < -((c : Int) - 24) + 1 := by omega
        have HX := HG.out
        subst hin2
        clear hkI' hlt hend
        by_cases hbig : (m : Int) ≤ 9223372036854775807
        · go_wp2_with fail
          refine bodyPost_ret (v := .tuple #[vlv 2 false (-(m : Int)) ⟨#[]⟩, .int .i64 ((i : Int) - 1 + 1)]) (by simp [results, Try.results17, go_sem]) rfl (ge_ends (s := []) (n := i) rfl (by omega) (by rw [← HC.out]; exact HX _ (by constructor <;> omega) (fun _ => by rw [← HV.out])) ?_)
          (repeat (first | exact Below.refl _ _ | assumption | refine Below.drew ?_ | refine Below.al ?_ _ | refine Below.setCell ?_ (by first | exact Nat.le_refl _ | (simp; omega) | (simp; done)) _ | refine Below.on ?_ (by assumption)))
        · go_wp2_with fail
          refine bodyPost_ret (v := .tuple #[vlv 2 false (wrap64 (-wrap64 (m : Int))) ⟨#[]⟩, .int .i64 ((i : Int) - 1 + 1)]) (by simp [results, Try.results17, go_sem]) rfl (ge_ends (s := []) (n := i) rfl (by omega) (by rw [← HC.out]; exact HX _ (wrap_in _) (fun h => by rw [← HV.out] at h ⊢; exact wrap_neg (by omega) hm64 h)) ?_)
          (repeat (first | exact Below.refl _ _ | assumption | refine Below.drew ?_ | refine Below.al ?_ _ | refine Below.setCell ?_ (by first | exact Nat.le_refl _ | (simp; omega) | (simp; done)) _ | refine Below.on ?_ (by assumption)))
      · have hik2 : i = k + 1 := by omega
        have HC : Hid (min k r.length + 1 = i) := by show _ = _; have := HN.out; omega
        have hki : ¬ (i : Int) ≤ -((c : Int) - 24) := by omega
        have hgt : ¬ (n : Int) < -((c : Int) - 24) + 1 := by omega
        have hiI : Hid (-((c : Int) - 24) + 1 = (i : Int)) := by show _ = _; omega
        have HX := HG.out
        clear hkI' hlt hend hik2
        by_cases hbig : (m : Int) ≤ 9223372036854775807
        · go_wp2_with fail
          refine bodyPost_ret (v := .tuple #[vlv 2 false (-(m : Int)) ⟨#[]⟩, .int .i64 (-((c : Int) - 24) + 1)]) (by simp [results, Try.results17, go_sem]) rfl (ge_ends (s := []) (n := i) rfl (hiI.out) (by rw [← HC.out]; exact HX _ (by constructor <;> omega) (fun _ => by rw [← HV.out])) ?_)
          (repeat (first | exact Below.refl _ _ | assumption | refine Below.drew ?_ | refine Below.al ?_ _ | refine Below.setCell ?_ (by first | exact Nat.le_refl _ | (simp; omega) | (simp; done)) _ | refine Below.on ?_ (by assumption)))
        · go_wp2_with fail
          refine bodyPost_ret (v := .tuple #[vlv 2 false (wrap64 (-wrap64 (m : Int))) ⟨#[]⟩, .int .i64 (-((c : Int) - 24) + 1)]) (by simp [results, Try.results17, go_sem]) rfl (ge_ends (s := []) (n := i) rfl (hiI.out) (by rw [← HC.out]; exact HX _ (wrap_in _) (fun h => by rw [← HV.out] at h ⊢; exact wrap_neg (by omega) hm64 h)) ?_)
          (repeat (first | exact Below.refl _ _ | assumption | refine Below.drew ?_ | refine Below.al ?_ _ | refine Below.setCell ?_ (by first | exact Nat.le_refl _ | (simp; omega) | (simp; done)) _ | refine Below.on ?_ (by assumption)))
end Go.Proofs.Ytfafkohghgliaaa.Tu
