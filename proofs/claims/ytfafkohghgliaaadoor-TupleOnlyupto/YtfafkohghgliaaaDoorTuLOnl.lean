import Derived.Test.YtfafkohghgliaaaDoorTuPE
import Derived.Test.YtfafkohghgliaaaDoorTuPD
import Derived.Test.YtfafkohghgliaaaDoorTuRoom
import Derived.Test.YtfafkohghgliaaaDoorTuTpD
/- The law: TupleOnly. -/
namespace Go.Proofs.YtfafkohghgliaaaDoor.Tu
open Go.RowKit Go.Sort Go.Proofs.YtfafkohghgliaaaDoor
set_option linter.unusedVariables false
set_option linter.unusedSectionVars false
variable [DecidableEq Vl]

/-- what is decoded first -/
def knownL (l : List Nat) : List Vl := [vNull, vInt 5, vText l]
theorem known_ok {l : List Nat} (h8 : B8 l) : okT (knownL l) = true ∧ OkT (knownL l) := by
  refine ⟨rfl, fun v hv => ?_⟩
  simp only [knownL, List.mem_cons, List.not_mem_nil, or_false] at hv
  rcases hv with rfl | rfl | rfl
  · exact ⟨by simp [vNull, In64], B8.nil⟩
  · exact ⟨by simp [vInt, In64], B8.nil⟩
  · exact ⟨by simp [vText, In64], h8⟩
theorem known_len (l : List Nat) : (encL (knownL l)).length ≤ 2 * l.length + 27 := by
  have h1 := (codeV_len (v := vNull) (by simp [vNull, In64])).2
  have h2 := (codeV_len (v := vInt 5) (by simp [vInt, In64])).2
  have h3 := (codeV_len (v := vText l) (by simp [vText, In64])).2
  simp only [knownL, encL_cons, encL_nil, List.length_append, List.length_nil]
  simp only [vNull, vInt, vText, List.length_nil] at h1 h2 h3 ⊢
  omega
theorem known_tp {l : List Nat} (h8 : B8 l) (hl : l.length ≤ 1048576) : Tp (knownL l) :=
  ⟨(known_ok h8).2, by simp [knownL], fun v hv => by simp only [knownL, List.mem_cons, List.not_mem_nil, or_false] at hv; rcases hv with rfl | rfl | rfl <;> simp [vNull, vInt, vText] <;> omega, by have := known_len l; omega⟩
theorem known_row (w : World) (l : List Nat) : RowV (w.alloc (.cells #[.int .i64 0, .bool false, .int .i64 0, .string ⟨#[]⟩, .int .i64 2, .bool false, .int .i64 5, .string ⟨#[]⟩, .int .i64 3, .bool false, .int .i64 0, .string (ofNats l)] 32)) (some ⟨w.heap.size, 0, none⟩) (knownL l) := by
  intro i hi
  have hn := World.alloc_heap_new w (.cells #[.int .i64 0, .bool false, .int .i64 0, .string ⟨#[]⟩, .int .i64 2, .bool false, .int .i64 5, .string ⟨#[]⟩, .int .i64 3, .bool false, .int .i64 0, .string (ofNats l)] 32)
  refine ⟨w.heap.size, 0, rfl, ?_⟩
  match i, hi with
  | 0, _ => exact ⟨by simp only [World.cell?, hn]; rfl, by simp only [World.cell?, hn]; rfl, by simp only [World.cell?, hn]; rfl, by simp only [World.cell?, hn]; rfl⟩
  | 1, _ => exact ⟨by simp only [World.cell?, hn]; rfl, by simp only [World.cell?, hn]; rfl, by simp only [World.cell?, hn]; rfl, by simp only [World.cell?, hn]; rfl⟩
  | 2, _ => exact ⟨by simp only [World.cell?, hn]; rfl, by simp only [World.cell?, hn]; rfl, by simp only [World.cell?, hn]; rfl, by simp only [World.cell?, hn]; rfl⟩
  | i + 3, h => exact absurd h (by simp [knownL])
set_option maxHeartbeats 4000000 in
theorem law_only {l : List Nat} (h8 : B8 l) (hl : l.length ≤ 1048576) (w : World) :
    Calls Tryd.prog 4 #[.string (ofNats l)] w fun e w' => e = .returned (.bool true) ∧ Below w.heap.size w w' := by
  have hk := known_tp h8 hl
  obtain ⟨K, hK⟩ : ∃ K, K = knownL l := ⟨_, rfl⟩
  have hKl : K.length = 3 := by rw [hK]; rfl
  have hKo : okT K = true ∧ OkT K := by rw [hK]; exact known_ok h8
  have HROW : ∀ w : World, Hid (RowV (w.alloc (.cells #[.int .i64 0, .bool false, .int .i64 0, .string ⟨#[]⟩, .int .i64 2, .bool false, .int .i64 5, .string ⟨#[]⟩, .int .i64 3, .bool false, .int .i64 0, .string (ofNats l)] 32)) (some ⟨w.heap.size, 0, none⟩) K) := fun w => by rw [hK]; exact hid (known_row w l)
  rw [← hK] at hk
  have hse : encS K = ofNats (encL K) := by unfold encS; rw [hKo.1]; rfl
  have hKe : (encL K).length ≤ 67108864 := hk.enc
  have HE : ∀ w' g, RowV w' (some ⟨g, 0, none⟩) K → Hid (Calls Tryd.prog 7 #[.slice (some ⟨g, 0, none⟩) 3 3] w' fun e w'' => e = .returned (.tuple #[.string (encS K), .int .i64 0]) ∧ RowV w'' (some ⟨g, 0, none⟩) K ∧ Below w'.heap.size w' w'') := fun w' g hr => by
    refine hid (Calls.mono (by rw [← hKl]; exact encode_is hr hk) ?_)
    rintro e w'' ⟨rfl, hb⟩
    rw [hKo.1]
    exact ⟨rfl, hr.later hb, hb⟩
  have HD : ∀ w' g, RowV w' (some ⟨g, 0, none⟩) K → Hid (Calls Tryd.prog 10 #[.string (encS K)] w' fun e w'' => ∃ b d, e = .returned (.tuple #[.slice b 3 d, .int .i64 0]) ∧ (RowV w'' b K ∧ RowV w'' (some ⟨g, 0, none⟩) K) ∧ Below w'.heap.size w' w'') := fun w' g hr => by
    rw [hse]
    refine hid ((decode_is (encL_b8 hKo.2) hKe w').mono ?_)
    rintro e w'' ⟨v, rfl, ho, hb⟩
    rw [dec_enc hKo.1 hKo.2] at ho ⊢
    obtain ⟨b, d, rfl⟩ := ho.slice
    exact ⟨b, d, by rw [show ((some K).getD []).length = 3 from hKl]; rfl, ⟨ho.row, hr.later hb⟩, hb⟩
  have HSM : ∀ w' b d g, RowV w' b K ∧ RowV w' (some ⟨g, 0, none⟩) K → Hid (Calls Tryd.prog 11 #[.slice b 3 d, .slice (some ⟨g, 0, none⟩) 3 3] w' fun e w'' => e = .returned (.bool true) ∧ Below w'.heap.size w' w'') := fun w' b d g hr => by
    rw [← hKl]; exact hid (refsame_is (u := true) (by simp) hr.1 hr.2 hKo.2 hKo.2 (by rw [hKl]; decide) (by rw [hKl]; decide))
  have HDL := fun w' => hid (decode_is h8 (by omega) w')
  obtain ⟨s, hs⟩ : ∃ s, s = encS K := ⟨_, rfl⟩
  rw [← hs] at HE HD
  clear hs hse hKe hK hKl
  cases hd : decT l with
  | none =>
    have HDN : ∀ w', Hid (Calls Tryd.prog 10 #[.string (ofNats l)] w' fun e w'' => ∃ b d, e = .returned (.tuple #[.slice b 0 d, .int .i64 250]) ∧ Below w'.heap.size w' w'') := fun w' => by
      refine hid ((HDL w').out.mono ?_)
      rintro e w'' ⟨v, rfl, ho, hb⟩
      rw [hd] at ho ⊢
      obtain ⟨b, d, rfl⟩ := ho.slice
      exact ⟨b, d, rfl, hb⟩
    clear HDL hd
    go_enter Tryd.func4, Tryd.ntmps4
    go_wp2_with (first
      | (go_at_call 7; refine (HE _ _ (by first | assumption | exact (HROW _).out)).out.mono ?_; rintro e w2 ⟨rfl, hr2, hb2⟩)
      | (go_at_call_of 10 (Value.string s); refine (HD _ _ (by assumption)).out.mono ?_; rintro e w4 ⟨b, d, rfl, hr4, hb4⟩)
      | (go_at_call 10; refine (HDN _).out.mono ?_; rintro e w6 ⟨b6, d6, rfl, hb6⟩)
      | (go_at_call 11; refine (HSM _ _ _ _ (by assumption)).out.mono ?_; rintro e w5 ⟨rfl, hb5⟩))
    go_ret
    exact ⟨rfl, Below.on (Below.on (Below.on (Below.on (Below.al (Below.refl _ _) _) hb2) hb4) hb5) hb6⟩
  | some t =>
    have htp := tp_dec h8 (by omega) hd
    have hto := dec_only h8 hd
    have hes : encS t = ofNats l := by unfold encS; rw [hto.1, if_pos rfl, hto.2.2]
    obtain ⟨m, hm⟩ : ∃ m, m = t.length := ⟨_, rfl⟩
    have HDS : ∀ w', Hid (Calls Tryd.prog 10 #[.string (ofNats l)] w' fun e w'' => ∃ b d, e = .returned (.tuple #[.slice b m d, .int .i64 0]) ∧ RowV w'' b t ∧ Below w'.heap.size w' w'') := fun w' => by
      refine hid ((HDL w').out.mono ?_)
      rintro e w'' ⟨v, rfl, ho, hb⟩
      rw [hd] at ho ⊢
      obtain ⟨b, d, rfl⟩ := ho.slice
      exact ⟨b, d, by rw [hm]; rfl, ho.row, hb⟩
    have HE2 : ∀ w' b d, RowV w' b t → Hid (Calls Tryd.prog 7 #[.slice b m d] w' fun e w'' => e = .returned (.tuple #[.string (ofNats l), .int .i64 0]) ∧ Below w'.heap.size w' w'') := fun w' b d hr => by
      rw [hm]
      refine hid ((encode_is hr htp).mono ?_)
      rintro e w'' ⟨rfl, hb⟩
      rw [hto.1, hes]
      exact ⟨rfl, hb⟩
    have hq : ((ofNats l).toList == (ofNats l).toList) = true := by simp
    clear HDL hd htp hto hes hm
    go_enter Tryd.func4, Tryd.ntmps4
    go_wp2_with (first
      | (go_at_call_of 7 (Value.slice (some ⟨w.heap.size, 0, none⟩) 3 3); refine (HE _ _ (by first | assumption | exact (HROW _).out)).out.mono ?_; rintro e w2 ⟨rfl, hr2, hb2⟩)
      | (go_at_call 7; refine (HE2 _ _ _ (by assumption)).out.mono ?_; rintro e w7 ⟨rfl, hb7⟩)
      | (go_at_call_of 10 (Value.string s); refine (HD _ _ (by assumption)).out.mono ?_; rintro e w4 ⟨b, d, rfl, hr4, hb4⟩)
      | (go_at_call 10; refine (HDS _).out.mono ?_; rintro e w6 ⟨b6, d6, rfl, hr6, hb6⟩)
      | (go_at_call 11; refine (HSM _ _ _ _ (by assumption)).out.mono ?_; rintro e w5 ⟨rfl, hb5⟩))
    go_ret
    exact ⟨rfl, Below.on (Below.on (Below.on (Below.on (Below.on (Below.al (Below.refl _ _) _) hb2) hb4) hb5) hb6) hb7⟩
end Go.Proofs.YtfafkohghgliaaaDoor.Tu
