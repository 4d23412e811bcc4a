import Derived.Test.YtfafkohghgliaabDoorTuEsc
import Derived.Test.YtfafkohghgliaabDoorTuRow
import Derived.Test.YtfafkohghgliaabDoorShelf
import Derived.BigQuiet
import Derived.Lib.QuietBelow
/- strings.Cut at one byte 0. -/
namespace Go.Proofs.YtfafkohghgliaabDoor.Tu
open Go.RowKit Go.Sort Go.Proofs.YtfafkohghgliaabDoor
set_option linter.unusedVariables false
set_option linter.unusedSectionVars false
variable [DecidableEq Vl]

/-- what a cut answers -/
def Ce (q : List Nat) (w : World) (e : Ending) (w' : World) : Prop := Below w.heap.size w w' ∧ ((0 ∉ q ∧ e = .returned (.tuple #[.string (ofNats q), .string ⟨#[]⟩, .bool false])) ∨ ∃ p t, q = p ++ 0 :: t ∧ 0 ∉ p ∧ e = .returned (.tuple #[.string (ofNats p), .string (ofNats t), .bool true]))
set_option maxHeartbeats 1000000 in
theorem lcut_is {q : List Nat} (h8 : B8 q) (hl : q.length ≤ 4611686018427387904) (w : World) : Calls Tryd.prog 89 #[.string (ofNats q), .string ⟨#[0]⟩] w (Ce q w) := by
  have HI := fun w => hid (Tryd.stringslite_Index_one (ofNats q) 0 w)
  by_cases hm : 0 ∈ q
  · obtain ⟨p, t, rfl, hp⟩ := cut0 hm
    have p8 : B8 p := fun x hx => h8 x (List.mem_append_left _ hx)
    rw [ix0_at p8 hp] at HI
    have hsz : (ofNats (p ++ 0 :: t)).size = p.length + (t.length + 1) := by rw [ofNats_size, List.length_append]; rfl
    have hs1 : (ofNats (p ++ 0 :: t)).extract 0 p.length = ofNats p := by rw [ofNats_extract h8, List.take_left, List.drop_zero]
    have hs2 : (ofNats (p ++ 0 :: t)).extract (p.length + 1) (p.length + (t.length + 1)) = ofNats t := by
      rw [ofNats_extract h8, List.take_of_length_le (by rw [List.length_append]; simp)]
      rw [show p ++ 0 :: t = (p ++ [0]) ++ t by simp, List.drop_left' (by simp)]
    have hll : p.length + (t.length + 1) ≤ 4611686018427387904 := by rw [List.length_append] at hl; simpa using hl
    have HP := hid hp
    obtain ⟨b, hb⟩ : ∃ b, b = ofNats (p ++ 0 :: t) := ⟨_, rfl⟩
    have hHI : ∀ w, Hid (Calls Tryd.prog 97 #[.string b, .string ⟨#[0]⟩] w fun e w' => e = .returned (.int .i64 (p.length : Int)) ∧ w' = w) := by rw [hb]; exact HI
    obtain ⟨n, hn⟩ : ∃ n, n = p.length := ⟨_, rfl⟩
    obtain ⟨s1, hs1'⟩ : ∃ s1, s1 = ofNats p := ⟨_, rfl⟩
    obtain ⟨s2, hs2'⟩ : ∃ s2, s2 = ofNats t := ⟨_, rfl⟩
    have HS := hid (show _ ∧ _ from ⟨hs1', hs2'⟩)
    rw [← hb, ← hs1', ← hn] at hs1
    rw [← hb, ← hs2', ← hn] at hs2
    rw [← hb, ← hn] at hsz
    rw [← hn] at hHI hll
    rw [← hb]
    clear hb hs1' hs2' HI hm h8 hl p8 hn hp
    go_enter Tryd.func89, Tryd.ntmps89
    go_wp2_with (go_at_call 97; refine (hHI _).out.mono ?_; rintro e w2 ⟨rfl, hw⟩; replace hw := hw.symm; subst hw)
    go_quiet (fail)
    go_wp2_with fail
    refine bodyPost_ret (v := .tuple #[.string s1, .string s2, .bool true]) (by simp [results, Tryd.results89, go_sem]) rfl ⟨bdn (Below.refl _ _) _, .inr ⟨p, t, rfl, HP.out, by rw [HS.out.1, HS.out.2]⟩⟩
  · rw [ix0_none h8 hm] at HI
    have HP := hid hm
    clear h8 hl hm
    obtain ⟨b, hb⟩ : ∃ b, b = ofNats q := ⟨_, rfl⟩
    have HBE := hid hb
    rw [← hb] at HI ⊢
    clear hb
    go_enter Tryd.func89, Tryd.ntmps89
    go_wp2_with (go_at_call 97; refine (HI _).out.mono ?_; rintro e w2 ⟨rfl, hw⟩; replace hw := hw.symm; subst hw)
    refine bodyPost_ret (v := .tuple #[.string b, .string ⟨#[]⟩, .bool false]) (by simp [results, Tryd.results89, go_sem]) rfl ⟨Below.refl _ _, .inl ⟨HP.out, by rw [HBE.out]⟩⟩
set_option maxHeartbeats 1000000 in
theorem cut_is {q : List Nat} (h8 : B8 q) (hl : q.length ≤ 4611686018427387904) (w : World) : Calls Tryd.prog 70 #[.string (ofNats q), .string ⟨#[0]⟩] w (Ce q w) := by
  have HI := fun w => hid (lcut_is h8 hl w)
  clear h8 hl
  go_enter Tryd.func70, Tryd.ntmps70
  go_wp2_with (go_at_call 89; refine (HI _).out.mono ?_; rintro e w2 ⟨hb2, ⟨h0, rfl⟩ | ⟨p, t, rfl, hp, rfl⟩⟩)
  · exact bodyPost_ret (v := .tuple #[.string (ofNats q), .string ⟨#[]⟩, .bool false]) (by simp [results, Tryd.results70, go_sem]) rfl ⟨hb2, .inl ⟨h0, rfl⟩⟩
  · exact bodyPost_ret (v := .tuple #[.string (ofNats p), .string (ofNats t), .bool true]) (by simp [results, Tryd.results70, go_sem]) rfl ⟨hb2, .inr ⟨p, t, rfl, hp, rfl⟩⟩
theorem cut_same : ∀ {p p' t t' : List Nat}, 0 ∉ p → 0 ∉ p' → p ++ 0 :: t = p' ++ 0 :: t' → p = p' ∧ t = t'
  | [], [], t, t', _, _, h => ⟨rfl, by simpa using h⟩
  | [], b :: p', t, t', _, h', h => by
    have e : b = 0 := by simpa using (congrArg List.head? h).symm
    exact absurd (by rw [e]; simp) h'
  | b :: p, [], t, t', h0, _, h => by
    have e : b = 0 := by simpa using (congrArg List.head? h)
    exact absurd (by rw [e]; simp) h0
  | b :: p, c :: p', t, t', h0, h', h => by
    have e : b = c ∧ p ++ 0 :: t = p' ++ 0 :: t' := by simpa using h
    obtain ⟨e1, e2⟩ := e
    obtain ⟨e3, e4⟩ := cut_same (fun x => h0 (List.mem_cons_of_mem _ x)) (fun x => h' (List.mem_cons_of_mem _ x)) e2
    exact ⟨by rw [e1, e3], e4⟩
theorem cut_no {q : List Nat} (h8 : B8 q) (hl : q.length ≤ 4611686018427387904) (h0 : 0 ∉ q) (w : World) : Calls Tryd.prog 70 #[.string (ofNats q), .string ⟨#[0]⟩] w fun e w' => e = .returned (.tuple #[.string (ofNats q), .string ⟨#[]⟩, .bool false]) ∧ Below w.heap.size w w' := by
  refine (cut_is h8 hl w).mono ?_
  rintro e w' ⟨hb, ⟨_, he⟩ | ⟨p, t, hp, _, _⟩⟩
  · exact ⟨he, hb⟩
  · exact absurd (by rw [hp]; simp) h0
theorem cut_at {p t : List Nat} (h8 : B8 (p ++ 0 :: t)) (hl : (p ++ 0 :: t).length ≤ 4611686018427387904) (h0 : 0 ∉ p) (w : World) : Calls Tryd.prog 70 #[.string (ofNats (p ++ 0 :: t)), .string ⟨#[0]⟩] w fun e w' => e = .returned (.tuple #[.string (ofNats p), .string (ofNats t), .bool true]) ∧ Below w.heap.size w w' := by
  refine (cut_is h8 hl w).mono ?_
  rintro e w' ⟨hb, ⟨h, _⟩ | ⟨p', t', hp, h1, he⟩⟩
  · exact absurd (by simp) h
  · obtain ⟨rfl, rfl⟩ := cut_same h0 h1 hp
    exact ⟨he, hb⟩
end Go.Proofs.YtfafkohghgliaabDoor.Tu
