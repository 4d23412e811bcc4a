import Derived.Test.YtfafkohghgliaabDoorTuRefX
/- The document's lenient reading of a word. -/
namespace Go.Proofs.YtfafkohghgliaabDoor.Tu
open Go.RowKit Go.Sort Go.Proofs.YtfafkohghgliaabDoor Go.Proofs.YtfafkohghgliaabDoor.Rt Go.Proofs.YtfafkohghgliaabDoor.Gt
set_option linter.unusedVariables false
set_option linter.unusedSectionVars false
variable [DecidableEq Vl]

theorem wrap_inH (x : Int) : In64 (wrap64 x) := by unfold wrap64 In64; omega
/-- what heard answers -/
def Ghe (l : List Nat) (w : World) (e : Ending) (w' : World) : Prop := ∃ v : Vl, e = .returned v.val ∧ Gh l v ∧ Below w.heap.size w w'
theorem ghe_ends {l : List Nat} {w w' : World} {e : Ending} {k : Int} {f : Bool} {x : Int} {s : List Nat} (he : e = .returned (vlv k f x (ofNats s))) (hg : Gh l ⟨k, f, x, s⟩) (hb : Below w.heap.size w w') : Ghe l w e w' := ⟨⟨k, f, x, s⟩, he, hg, hb⟩
theorem lit_is {l q : List Nat} (h8 : B8 l) (hq : B8 q) {z : List UInt8} (hz : (ofNats q).toList = z) : ((ofNats l).toList == z) = decide (l = q) := by
  rw [← hz]; exact beq_nats h8 hq
theorem empty_is (l : List Nat) : (ofNats l).toList.isEmpty = decide (l = []) := by
  cases l <;> simp [ofNats, ByteArray.toList_eq]
/-- the three words that are said whole, and the empty one -/
theorem heard_lits {l : List Nat} (h8 : B8 l) : ((ofNats l).toList == [110, 117, 108, 108]) = decide (l = nNull) ∧ ((ofNats l).toList == [116, 114, 117, 101]) = decide (l = nTrue) ∧ ((ofNats l).toList == [102, 97, 108, 115, 101]) = decide (l = nFalse) :=
  ⟨lit_is h8 (fun x hx => by simp [nNull] at hx; omega) (by simp [ofNats, ByteArray.toList_eq]), lit_is h8 (fun x hx => by simp [nTrue] at hx; omega) (by simp [ofNats, ByteArray.toList_eq]), lit_is h8 (fun x hx => by simp [nFalse] at hx; omega) (by simp [ofNats, ByteArray.toList_eq])⟩
set_option maxHeartbeats 2000000 in
theorem heard_lit {l : List Nat} (h : l = nNull ∨ l = [] ∨ l = nTrue ∨ l = nFalse) (w : World) : Calls Tryd.prog 37 #[.string (ofNats l)] w (Ghe l w) := by
  have h8 : B8 l := by
    rcases h with rfl | rfl | rfl | rfl
    · intro x hx; simp [nNull] at hx; omega
    · exact B8.nil
    · intro x hx; simp [nTrue] at hx; omega
    · intro x hx; simp [nFalse] at hx; omega
  obtain ⟨l1, l2, l3⟩ := heard_lits h8
  have l4 := empty_is l
  rcases h with rfl | rfl | rfl | rfl
  · rw [decide_eq_true rfl] at l1
    go_enter Tryd.func37, Tryd.ntmps37
    go_wp2_with fail
    refine bodyPost_ret (v := vlv 0 false 0 ⟨#[]⟩) (by simp [results, Tryd.results37, go_sem]) rfl (ghe_ends (s := []) rfl gh_null ?_)
    (repeat (first | exact Below.refl _ _ | assumption | refine Below.drew ?_ | refine Below.al ?_ _ | refine Below.setCell ?_ (by first | exact Nat.le_refl _ | (simp; omega) | (simp; done)) _ | refine Below.on ?_ (by assumption)))
  · rw [decide_eq_false (by decide)] at l1 l2 l3
    rw [decide_eq_true rfl] at l4
    go_enter Tryd.func37, Tryd.ntmps37
    go_wp2_with fail
    refine bodyPost_ret (v := vlv 0 false 0 ⟨#[]⟩) (by simp [results, Tryd.results37, go_sem]) rfl (ghe_ends (s := []) rfl gh_nil ?_)
    (repeat (first | exact Below.refl _ _ | assumption | refine Below.drew ?_ | refine Below.al ?_ _ | refine Below.setCell ?_ (by first | exact Nat.le_refl _ | (simp; omega) | (simp; done)) _ | refine Below.on ?_ (by assumption)))
  · rw [decide_eq_false (by decide)] at l1 l3 l4
    rw [decide_eq_true rfl] at l2
    go_enter Tryd.func37, Tryd.ntmps37
    go_wp2_with fail
    refine bodyPost_ret (v := vlv 1 true 0 ⟨#[]⟩) (by simp [results, Tryd.results37, go_sem]) rfl (ghe_ends (s := []) rfl gh_true ?_)
    (repeat (first | exact Below.refl _ _ | assumption | refine Below.drew ?_ | refine Below.al ?_ _ | refine Below.setCell ?_ (by first | exact Nat.le_refl _ | (simp; omega) | (simp; done)) _ | refine Below.on ?_ (by assumption)))
  · rw [decide_eq_false (by decide)] at l1 l2 l4
    rw [decide_eq_true rfl] at l3
    go_enter Tryd.func37, Tryd.ntmps37
    go_wp2_with fail
    refine bodyPost_ret (v := vlv 1 false 0 ⟨#[]⟩) (by simp [results, Tryd.results37, go_sem]) rfl (ghe_ends (s := []) rfl gh_false ?_)
    (repeat (first | exact Below.refl _ _ | assumption | refine Below.drew ?_ | refine Below.al ?_ _ | refine Below.setCell ?_ (by first | exact Nat.le_refl _ | (simp; omega) | (simp; done)) _ | refine Below.on ?_ (by assumption)))
set_option maxHeartbeats 2000000 in
theorem heard_text {r : List Nat} (h8 : B8 (39 :: r)) (hl : 3 * (39 :: r).length + 1 ≤ 140737488355328) (w : World) : Calls Tryd.prog 37 #[.string (ofNats (39 :: r))] w (Ghe (39 :: r) w) := by
  obtain ⟨l1, l2, l3⟩ := heard_lits h8
  have l4 := empty_is (39 :: r)
  rw [decide_eq_false (by simp)] at l1 l2 l3 l4
  have h8r : B8 r := fun x hx => h8 x (by simp [hx])
  have hix : ∀ w, (Instr.index 9 (.string (ofNats (39 :: r))) (.int .i64 0)).run Tryd.prog w = .ok (.int .u8 (39 : Int)) w := fun w => by
    have := index_at (k := 0) (c := 39) h8 rfl w
    simpa using this
  have hsz : (ofNats (39 :: r)).size = r.length + 1 := ofNats_size _
  have hx : (ofNats (39 :: r)).extract 1 (r.length + 1) = ofNats r := by
    have := ofNats_extract h8 (i := 1) (j := r.length + 1)
    rw [this]; simp
  have HU := fun w => hid (runword_is h8r (by simp at hl; omega) w)
  rw [← hx] at HU
  have HG := hid (gh_text h8r (s := (unA r).1) (by unfold unA; cases unword r <;> rfl))
  obtain ⟨s, hs⟩ : ∃ s, s = ofNats (unA r).1 := ⟨_, rfl⟩
  obtain ⟨q, hq⟩ : ∃ q, q = (unA r).2 := ⟨_, rfl⟩
  rw [← hs, ← hq] at HU
  have HS := hid hs
  obtain ⟨n, hn⟩ : ∃ n, n = r.length := ⟨_, rfl⟩
  rw [← hn] at hsz HU
  have hln : n ≤ 140737488355328 := by simp at hl; omega
  clear hs hq h8 h8r hx hl hn
  generalize ofNats (39 :: r) = b at *
  go_enter Tryd.func37, Tryd.ntmps37
  go_wp2_with (go_at_call 64; refine (HU _).out.mono ?_; rintro e w1 ⟨rfl, hb1⟩; obtain ⟨hc1, hf1⟩ := bcell hb1; have HB1 := hid hb1; have k0 := hc1 w.heap.size 0 (by simp); have k1 := hc1 w.heap.size 1 (by simp); have k2 := hc1 w.heap.size 2 (by simp); have k3 := hc1 w.heap.size 3 (by simp); simp [go_sem] at k0 k1 k2 k3)
  refine bodyPost_ret (v := vlv 3 false 0 s) (by simp [results, Tryd.results37, go_sem, *]) rfl (ghe_ends (s := (unA r).1) (by rw [HS.out]) HG.out ?_)
  have hb2 := Below.on (Below.al (Below.refl _ _) _) HB1.out
  (repeat (first | exact Below.refl _ _ | assumption | refine Below.drew ?_ | refine Below.al ?_ _ | refine Below.setCell ?_ (by first | exact Nat.le_refl _ | (simp; omega) | (simp; done)) _ | refine Below.on ?_ (by assumption)))
theorem hm_take {l : List Nat} {k d : Nat} (h : l[k]? = some d) : hm (l.take (k + 1)) = hmS (hm (l.take k)) d := by
  have hk : k < l.length := (List.getElem?_eq_some_iff.1 h).1
  rw [List.getElem?_eq_getElem hk] at h
  injection h with h
  rw [List.take_succ_eq_append_getElem hk, h, hm_snoc]
set_option maxHeartbeats 4000000 in
theorem heard_num {c : Nat} {r : List Nat} (h8 : B8 (c :: r)) (hl : (c :: r).length ≤ 4611686018427387904) (h1 : c :: r ≠ nNull) (h2 : c :: r ≠ nTrue) (h3 : c :: r ≠ nFalse) (h4 : c ≠ 39) (w : World) : Calls Tryd.prog 37 #[.string (ofNats (c :: r))] w (Ghe (c :: r) w) := by
  obtain ⟨l1, l2, l3⟩ := heard_lits h8
  have l4 := empty_is (c :: r)
  rw [decide_eq_false h1] at l1
  rw [decide_eq_false h2] at l2
  rw [decide_eq_false h3] at l3
  rw [decide_eq_false (by simp)] at l4
  have HG : Hid (∀ {v : Int}, In64 v → (∀ n, In64 n → n < 0 → hm (c :: r) = n.natAbs → c = 45 → v = n) → (∀ n, In64 n → 0 ≤ n → hm (c :: r) = n.natAbs → c ≠ 45 → v = n) → Gh (c :: r) (vInt v)) :=
    fun {v} hv hs hp => gh_num (by simp) h1 h2 h3 (by simpa using h4) hv (fun n a b d e => hs n a b d (by simpa using e)) (fun n a b d e => hp n a b d (by simpa using e))
  have hix : ∀ w, (Instr.index 9 (.string (ofNats (c :: r))) (.int .i64 0)).run Tryd.prog w = .ok (.int .u8 (c : Int)) w := fun w => by
    have := index_at (k := 0) (c := c) h8 rfl w
    simpa using this
  have hc8 : (c : Int) ≤ 255 := by have := h8 c (by simp); omega
  have e39 : ((c : Int) == 39) = false := by simp; omega
  have hsz : (ofNats (c :: r)).size = (c :: r).length := ofNats_size _
  obtain ⟨n, hn⟩ : ∃ n, n = (c :: r).length := ⟨_, rfl⟩
  have HN := hid hn
  have H8 := hid h8
  have hn1 : 1 ≤ n := by rw [hn]; simp
  rw [← hn] at hl hsz
  clear h8 hn h1 h2 h3 h4
  go_enter Tryd.func37, Tryd.ntmps37
  go_wp2_with fail
  go_loopg [5, 6] n (fun g s5 s6 wr => ∃ (i m : Nat), i ≤ n ∧ g = n - i ∧ s6 = .int .i64 i ∧ s5 = .int .u64 m ∧ (m : Int) ≤ 18446744073709551615 ∧ Hid (m = hm ((c :: r).take i)) ∧ wr = w.alloc (.cells #[.int .i64 0, .bool false, .int .i64 0, .string ⟨#[]⟩] 32))
  case atStart => exact ⟨0, 0, by omega, by omega, rfl, rfl, by omega, rfl, rfl⟩
  case round =>
    obtain ⟨i, m, hi, rfl, rfl, rfl, hm64, HM, rfl⟩ := hrel
    by_cases hlt : i < n
    · have hlt' : i < (c :: r).length := by rw [← HN.out]; exact hlt
      have hc : (c :: r)[i]? = some (c :: r)[i] := List.getElem?_eq_getElem hlt'
      obtain ⟨d, hd⟩ : ∃ d, d = (c :: r)[i] := ⟨_, rfl⟩
      rw [← hd] at hc
      have hd8 : d < 256 := H8.out d (by rw [hd]; exact List.getElem_mem hlt')
      have hix2 : ∀ w, (Instr.index 9 (.string (ofNats (c :: r))) (.int .i64 (i : Int))).run Tryd.prog w = .ok (.int .u8 (d : Int)) w := fun w => index_at H8.out hc w
      have hnx := hm_take hc
      rw [← HM.out] at hnx
      by_cases h45 : d = 45
      · have d0 : ((d : Int) != 45) = false := by simp; omega
        have HNX : Hid (m = hm ((c :: r).take (i + 1))) := by show _ = _; rw [hnx]; unfold hmS; rw [if_pos h45]
        clear hlt' hc hd hnx h45
        go_wp2_with fail
        go_roundg (n - (i + 1))
        case measure => omega
        case rel => exact ⟨i + 1, m, by omega, rfl, by go_num, rfl, by omega, HNX, rfl⟩
      · have d0 : ((d : Int) != 45) = true := by simp; omega
        obtain ⟨m1, hm1⟩ : ∃ m1, m1 = m * 10 % 18446744073709551616 := ⟨_, rfl⟩
        obtain ⟨m2, hm2⟩ : ∃ m2, m2 = (m1 + d) % 18446744073709551616 := ⟨_, rfl⟩
        obtain ⟨m3, hm3⟩ : ∃ m3, m3 = (m2 + 18446744073709551568) % 18446744073709551616 := ⟨_, rfl⟩
        have HNX : Hid (m3 = hm ((c :: r).take (i + 1))) := by show _ = _; rw [hnx]; unfold hmS; rw [if_neg h45]; omega
        have e1 : IntKind.u64.wrap ((m : Int) * 10) = (m1 : Int) := by rw [IntKind.wrap_u64]; omega
        have e2 : IntKind.u64.wrap ((m1 : Int) + (d : Int)) = (m2 : Int) := by rw [IntKind.wrap_u64]; omega
        have e3 : IntKind.u64.wrap ((m2 : Int) - 48) = (m3 : Int) := by rw [IntKind.wrap_u64]; omega
        have hm3b : (m3 : Int) ≤ 18446744073709551615 := by omega
        have hm1b : (m1 : Int) ≤ 18446744073709551615 := by omega
        have hm2b : (m2 : Int) ≤ 18446744073709551615 := by omega
        clear hlt' hc hd hnx h45 hm1 hm2 hm3
        go_wp2_with fail
        go_roundg (n - (i + 1))
        case measure => omega
        case rel => exact ⟨i + 1, m3, by omega, rfl, by go_num, rfl, by omega, HNX, rfl⟩
    · obtain rfl : i = n := by omega
      have HF : Hid (m = hm (c :: r)) := by
        show _ = _
        rw [HM.out, HN.out, List.take_length]
      by_cases h45 : c = 45
      · have d0 : ((c : Int) == 45) = true := by simp; omega
        have HGv : Hid (Gh (c :: r) (vInt (wrap64 (-wrap64 (m : Int))))) := HG.out (wrap_inH _) (fun x hx hx0 he _ => by
          rw [← HF.out] at he
          obtain ⟨x1, x2⟩ := hx
          unfold wrap64; omega) (fun x _ _ _ h => absurd h45 h)
        clear h45
        go_wp2_with fail
        refine bodyPost_ret (v := vlv 2 false (wrap64 (-wrap64 (m : Int))) ⟨#[]⟩) (by simp [results, Tryd.results37, go_sem]) rfl (ghe_ends (s := []) rfl HGv.out ?_)
        (repeat (first | exact Below.refl _ _ | assumption | refine Below.drew ?_ | refine Below.al ?_ _ | refine Below.setCell ?_ (by first | exact Nat.le_refl _ | (simp; omega) | (simp; done)) _ | refine Below.on ?_ (by assumption)))
      · have d0 : ((c : Int) == 45) = false := by simp; omega
        have HGv : Hid (Gh (c :: r) (vInt (wrap64 (m : Int)))) := HG.out (wrap_inH _) (fun x _ _ _ h => absurd h h45) (fun x hx hx0 he _ => by
          rw [← HF.out] at he
          obtain ⟨x1, x2⟩ := hx
          unfold wrap64; omega)
        clear h45
        go_wp2_with fail
        refine bodyPost_ret (v := vlv 2 false (wrap64 (m : Int)) ⟨#[]⟩) (by simp [results, Tryd.results37, go_sem]) rfl (ghe_ends (s := []) rfl HGv.out ?_)
        (repeat (first | exact Below.refl _ _ | assumption | refine Below.drew ?_ | refine Below.al ?_ _ | refine Below.setCell ?_ (by first | exact Nat.le_refl _ | (simp; omega) | (simp; done)) _ | refine Below.on ?_ (by assumption)))
theorem heard_is {l : List Nat} (h8 : B8 l) (hl : 3 * l.length + 1 ≤ 140737488355328) (w : World) : Calls Tryd.prog 37 #[.string (ofNats l)] w (Ghe l w) := by
  by_cases h : l = nNull ∨ l = [] ∨ l = nTrue ∨ l = nFalse
  · exact heard_lit h w
  · have h1 : l ≠ nNull := fun e => h (.inl e)
    have h2 : l ≠ nTrue := fun e => h (.inr (.inr (.inl e)))
    have h3 : l ≠ nFalse := fun e => h (.inr (.inr (.inr e)))
    cases l with
    | nil => exact absurd (.inr (.inl rfl)) h
    | cons c r =>
      by_cases h4 : c = 39
      · subst h4; exact heard_text h8 hl w
      · exact heard_num h8 (by omega) h1 h2 h3 h4 w
end Go.Proofs.YtfafkohghgliaabDoor.Tu
