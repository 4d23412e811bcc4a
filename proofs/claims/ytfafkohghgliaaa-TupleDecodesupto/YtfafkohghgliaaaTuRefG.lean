import Derived.Test.YtfafkohghgliaaaTuRefEn
import Derived.Test.YtfafkohghgliaaaTuG
/- The document's lenient reading. -/
namespace Go.Proofs.Ytfafkohghgliaaa.Tu
open Go.RowKit Go.Sort Go.Proofs.Ytfafkohghgliaaa
set_option linter.unusedVariables false
set_option linter.unusedSectionVars false
variable [DecidableEq Vl]

theorem drop_at {l : List Nat} {k : Nat} (h : k < l.length) : l.drop k = l[k] :: l.drop (k + 1) := List.drop_eq_getElem_cons h
/-- what the loop has read -/
def GtI (l : List Nat) (p : Nat) (acc : List Nat) : Prop := (gtx (l.drop 1)).1 = acc ++ (gtx (l.drop p)).1 ∧ (gtx (l.drop 1)).2 + 1 = p + (gtx (l.drop p)).2 ∧ acc.length ≤ p
theorem gtx_cons {b : Nat} (h : b ≠ 0) (q : List Nat) : gtx (b :: q) = (b :: (gtx q).1, (gtx q).2 + 1) := by
  cases q with
  | nil => simp [gtx, h]
  | cons c r => rw [gtx, if_neg h]
theorem gtx_two (q : List Nat) : gtx (0 :: 255 :: q) = (0 :: (gtx q).1, (gtx q).2 + 2) := by rw [gtx, if_pos rfl, if_pos rfl]
theorem gtx_end {q : List Nat} (h : q.head? ≠ some 255) : gtx (0 :: q) = ([], 1) := by
  cases q with
  | nil => rfl
  | cons c r =>
    have : c ≠ 255 := fun e => h (by subst e; rfl)
    rw [gtx, if_pos rfl, if_neg this]
theorem GtI.one {l acc : List Nat} {p b : Nat} (h : GtI l p acc) (hd : l.drop p = b :: l.drop (p + 1)) (h0 : b ≠ 0) : GtI l (p + 1) (acc ++ [b]) := by
  obtain ⟨h1, h2, h3⟩ := h
  rw [hd, gtx_cons h0] at h1 h2
  exact ⟨by rw [h1]; simp, by simp only at h2; omega, by simp; omega⟩
theorem GtI.two {l acc : List Nat} {p : Nat} (h : GtI l p acc) (hd : l.drop p = 0 :: 255 :: l.drop (p + 1 + 1)) : GtI l (p + 1 + 1) (acc ++ [0]) := by
  obtain ⟨h1, h2, h3⟩ := h
  rw [hd, gtx_two] at h1 h2
  exact ⟨by rw [h1]; simp, by simp only at h2; omega, by simp; omega⟩
theorem GtI.stop {l acc : List Nat} {p : Nat} (h : GtI l p acc) (hd : l.drop p = 0 :: l.drop (p + 1)) (hn : (l.drop (p + 1)).head? ≠ some 255) : (gtx (l.drop 1)).1 = acc ∧ (gtx (l.drop 1)).2 + 1 = p + 1 := by
  obtain ⟨h1, h2, h3⟩ := h
  rw [hd, gtx_end hn] at h1 h2
  exact ⟨by rw [h1]; simp, by simpa using h2⟩
theorem GtI.fin {l acc : List Nat} (h : GtI l l.length acc) : (gtx (l.drop 1)).1 = acc ∧ (gtx (l.drop 1)).2 + 1 = l.length := by
  obtain ⟨h1, h2, h3⟩ := h
  rw [List.drop_length] at h1 h2
  exact ⟨by rw [h1]; simp [gtx], by simpa [gtx] using h2⟩
theorem ret_vi {a b : ByteArray} {m n : Int} (h : a = b) (k : m = n) : Ending.returned (.tuple #[vlv 3 false 0 a, .int .i64 m]) = Ending.returned (.tuple #[vlv 3 false 0 b, .int .i64 n]) := by rw [h, k]
set_option maxHeartbeats 4000000 in
theorem guessText_is {l : List Nat} (h8 : B8 l) (h1 : 1 ≤ l.length) (hl : l.length ≤ 4611686018427387904) (w : World) :
    Calls Try.prog 27 #[.string (ofNats l)] w fun e w' => e = .returned (.tuple #[vlv 3 false 0 (ofNats (gtx (l.drop 1)).1), .int .i64 (((gtx (l.drop 1)).2 + 1 : Nat) : Int)]) ∧ Below w.heap.size w w' := by
  have hsz : (ofNats l).size = l.length := ofNats_size l
  obtain ⟨n, hn⟩ : ∃ n, n = l.length := ⟨_, rfl⟩
  have HN := hid hn
  have H8 := hid h8
  rw [← hn] at h1 hl hsz
  clear h8 hn
  go_enter Try.func27, Try.ntmps27
  go_wp2_with fail
  go_loopg [4, 5] (n - 1) (fun g s4 s5 wr => ∃ (p : Nat) (acc : List Nat), 1 ≤ p ∧ p ≤ n ∧ g = n - p ∧ s5 = .int .i64 p ∧ s4 = .string (ofNats acc) ∧ Hid (GtI l p acc) ∧ wr = w.alloc (.cells #[.int .i64 0, .bool false, .int .i64 0, .string ⟨#[]⟩] 29))
  case atStart => exact ⟨1, [], by omega, by omega, by omega, rfl, rfl, hid ⟨by simp, by omega, by simp⟩, rfl⟩
  case round =>
    obtain ⟨p, acc, hp1, hp, rfl, rfl, rfl, HI, rfl⟩ := hrel
    by_cases hlt : p < n
    · have hlt' : p < l.length := by rw [← HN.out]; exact hlt
      have hc : l[p]? = some l[p] := List.getElem?_eq_getElem hlt'
      have hd := drop_at hlt'
      obtain ⟨ch, hc'⟩ : ∃ ch, ch = l[p] := ⟨_, rfl⟩
      rw [← hc'] at hc hd
      have hix : ∀ w, (Instr.index 9 (.string (ofNats l)) (.int .i64 (p : Int))).run Try.prog w = .ok (.int .u8 (ch : Int)) w := fun w => index_at H8.out hc w
      obtain ⟨s, hs⟩ : ∃ s, s = ofNats acc := ⟨_, rfl⟩
      obtain ⟨s1, hs1⟩ : ∃ s1, s1 = (ofNats l).extract p (p + 1) := ⟨_, rfl⟩
      have e1 : s1 = ofNats [ch] := by rw [hs1, sub1 H8.out hc]
      have hz1 : s1.size = 1 := by rw [e1, ofNats_size]; rfl
      have HS : Hid (s ++ s1 = ofNats (acc ++ [ch])) := by show _ = _; rw [hs, e1, ofNats_append]
      have HSE : Hid (s = ofNats acc) := hs
      have hsz2 : s.size ≤ p := by rw [hs, ofNats_size]; exact HI.out.2.2
      have hr1 : ¬ 9223372036854775807 < s.size + 1 := by omega
      have HD := hid hd
      rw [← hs]
      clear hs hc hc' e1 hd hlt'
      by_cases h0 : ch = 0
      · have d0 : ((ch : Int) == 0) = true := by simp; omega
        by_cases hend : p + 1 = n
        · have d1 : ((p : Int) + 1 == (n : Int)) = true := by simp; omega
          have HF : Hid ((gtx (l.drop 1)).1 = acc ∧ (gtx (l.drop 1)).2 + 1 = p + 1) := HI.out.stop (by rw [HD.out, h0]) (by rw [List.drop_eq_nil_of_le (by rw [← HN.out]; omega)]; simp)
          clear h0 hend
          go_wp2_with fail
          refine bodyPost_ret (v := .tuple #[vlv 3 false 0 s, .int .i64 ((p : Int) + 1)]) (by simp [results, Try.results27, go_sem]) rfl ⟨ret_vi (by rw [HF.out.1, HSE.out]) (by rw [HF.out.2]; simp), ?_⟩
          (repeat (first | exact Below.refl _ _ | assumption | refine Below.drew ?_ | refine Below.al ?_ _ | refine Below.setCell ?_ (by first | exact Nat.le_refl _ | (simp; omega) | (simp; done)) _ | refine Below.on ?_ (by assumption)))
        · have d1 : ((p : Int) + 1 == (n : Int)) = false := by simp; omega
          have hlt2 : p + 1 < l.length := by rw [← HN.out]; omega
          have hc2 : l[p + 1]? = some l[p + 1] := List.getElem?_eq_getElem hlt2
          have hd2 := drop_at hlt2
          obtain ⟨c2, hc2'⟩ : ∃ c2, c2 = l[p + 1] := ⟨_, rfl⟩
          rw [← hc2'] at hc2 hd2
          have hix2 : ∀ w, (Instr.index 9 (.string (ofNats l)) (.int .i64 ((p : Int) + 1))).run Try.prog w = .ok (.int .u8 (c2 : Int)) w := fun w => index_at H8.out hc2 w
          by_cases h255 : c2 = 255
          · have d2 : ((c2 : Int) != 255) = false := by simp; omega
            have HF : Hid (GtI l (p + 1 + 1) (acc ++ [ch])) := by
              have := HI.out.two (by rw [HD.out, hd2, h0, h255])
              rw [h0]; exact this
            have hlt3 : p + 1 < n := by rw [HN.out]; exact hlt2
            clear h0 h255 hd2 hc2 hc2' hlt2 hend
            go_wp2_with fail
            go_roundg (n - (p + 1 + 1))
            case measure => omega
            case rel => exact ⟨p + 1 + 1, acc ++ [ch], by omega, by omega, rfl, by go_num, by rw [← hs1, HS.out], HF, rfl⟩
          · have d2 : ((c2 : Int) != 255) = true := by simp; omega
            have HF : Hid ((gtx (l.drop 1)).1 = acc ∧ (gtx (l.drop 1)).2 + 1 = p + 1) := HI.out.stop (by rw [HD.out, h0]) (by rw [hd2]; simpa using h255)
            have hlt3 : p + 1 < n := by rw [HN.out]; exact hlt2
            clear h0 h255 hd2 hc2 hc2' hlt2 hend
            go_wp2_with fail
            refine bodyPost_ret (v := .tuple #[vlv 3 false 0 s, .int .i64 ((p : Int) + 1)]) (by simp [results, Try.results27, go_sem]) rfl ⟨ret_vi (by rw [HF.out.1, HSE.out]) (by rw [HF.out.2]; simp), ?_⟩
            (repeat (first | exact Below.refl _ _ | assumption | refine Below.drew ?_ | refine Below.al ?_ _ | refine Below.setCell ?_ (by first | exact Nat.le_refl _ | (simp; omega) | (simp; done)) _ | refine Below.on ?_ (by assumption)))
      · have d0 : ((ch : Int) == 0) = false := by simp; omega
        have HF : Hid (GtI l (p + 1) (acc ++ [ch])) := HI.out.one HD.out h0
        clear h0
        go_wp2_with fail
        go_roundg (n - (p + 1))
        case measure => omega
        case rel => exact ⟨p + 1, acc ++ [ch], by omega, by omega, rfl, by go_num, by rw [← hs1, HS.out], HF, rfl⟩
    · obtain rfl : p = n := by omega
      have HF : Hid ((gtx (l.drop 1)).1 = acc ∧ (gtx (l.drop 1)).2 + 1 = p) := by
        have := HI.out
        rw [HN.out] at this ⊢
        exact this.fin
      go_wp2_with fail
      refine bodyPost_ret (v := .tuple #[vlv 3 false 0 (ofNats acc), .int .i64 (p : Int)]) (by simp [results, Try.results27, go_sem]) rfl ⟨ret_vi (by rw [HF.out.1]) (by rw [HF.out.2]), ?_⟩
      (repeat (first | exact Below.refl _ _ | assumption | refine Below.drew ?_ | refine Below.al ?_ _ | refine Below.setCell ?_ (by first | exact Nat.le_refl _ | (simp; omega) | (simp; done)) _ | refine Below.on ?_ (by assumption)))
end Go.Proofs.Ytfafkohghgliaaa.Tu
