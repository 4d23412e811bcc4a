import Derived.Test.YtfafkohghgliaabDoorTuRefEn
/- The document's Span. -/
namespace Go.Proofs.YtfafkohghgliaabDoor.Tu
open Go.RowKit Go.Sort Go.Proofs.YtfafkohghgliaabDoor
set_option linter.unusedVariables false
set_option linter.unusedSectionVars false
variable [DecidableEq Vl]

/-- the span's end -/
def endS (t : List Vl) : ByteArray := if okT t then ofNats (encL t ++ [255]) else ⟨#[]⟩
abbrev spv (a b : ByteArray) : Value := .agg #[.string a, .string b]
theorem ret_sp {a b c d : ByteArray} {m n : Int} (h1 : a = c) (h2 : b = d) (k : m = n) : Ending.returned (.tuple #[spv a b, .int .i64 m]) = Ending.returned (.tuple #[spv c d, .int .i64 n]) := by rw [h1, h2, k]
set_option maxHeartbeats 4000000 in
theorem refspan_is {a : Option Addr} {c : Nat} {t : List Vl} {w : World} (h : RowV w a t) (ho : OkT t) (hs : Sh t) (hb : (encL t).length ≤ 4611686018427387904) (hl : t.length ≤ 4611686018427387904) :
    Calls Tryd.prog 18 #[.slice a t.length c] w fun e w' => e = .returned (.tuple #[spv (encS t) (endS t), .int .i64 (vE (okT t))]) ∧ Below w.heap.size w w' := by
  have HV := fun w (h : RowV w a t) => hid (refencode_is (c := c) h ho hs hb hl)
  obtain ⟨n, hn⟩ : ∃ n, n = t.length := ⟨_, rfl⟩
  have HR := hid h
  rw [← hn] at hl HV ⊢
  clear h ho hn hs
  obtain ⟨u, hu⟩ : ∃ u, okT t = u := ⟨_, rfl⟩
  have HU : Hid (okT t = u) := hu
  rw [hu] at HV
  obtain ⟨s, hse⟩ : ∃ s, s = encS t := ⟨_, rfl⟩
  rw [← hse] at HV
  cases u with
  | false =>
    have HE : Hid (encS t = ⟨#[]⟩ ∧ endS t = ⟨#[]⟩) := by show _ ∧ _; unfold encS endS; rw [hu]; exact ⟨rfl, rfl⟩
    clear hu hse
    go_enter Tryd.func18, Tryd.ntmps18
    go_wp2_with (go_at_call 31; refine (HV _ (HR.out.later (Below.al (Below.refl _ _) _))).out.mono ?_; rintro e w1 ⟨rfl, hb1⟩; simp only [vE]; obtain ⟨hc1, hf1⟩ := bcell hb1; have HB1 := hid hb1; have k0 := hc1 w.heap.size 0 (by simp); have k1 := hc1 w.heap.size 1 (by simp); simp [go_sem] at k0 k1; clear hb1)
    refine bodyPost_ret (v := .tuple #[spv ⟨#[]⟩ ⟨#[]⟩, .int .i64 1]) (by simp [results, Tryd.results18, go_sem, k0, k1]) rfl ⟨ret_sp HE.out.1.symm HE.out.2.symm (by rw [HU.out]; rfl), ?_⟩
    have hb2 := Below.on (Below.al (Below.refl _ _) _) HB1.out
    (repeat (first | exact Below.refl _ _ | assumption | refine Below.drew ?_ | refine Below.al ?_ _ | refine Below.setCell ?_ (by first | exact Nat.le_refl _ | (simp; omega) | (simp; done)) _ | refine Below.on ?_ (by assumption)))
  | true =>
    have HE : Hid (s = encS t ∧ s ++ ⟨#[255]⟩ = endS t) := by
      show _ ∧ _
      refine ⟨hse, ?_⟩
      rw [hse]
      unfold encS endS
      rw [hu, if_pos rfl, if_pos rfl, show (⟨#[255]⟩ : ByteArray) = ofNats [255] from rfl, ofNats_append]
    have hz : ¬ 9223372036854775807 < s.size + 1 := by
      rw [hse]; unfold encS; rw [hu, if_pos rfl, ofNats_size]; omega
    clear hu hse
    go_enter Tryd.func18, Tryd.ntmps18
    go_wp2_with (go_at_call 31; refine (HV _ (HR.out.later (Below.al (Below.refl _ _) _))).out.mono ?_; rintro e w1 ⟨rfl, hb1⟩; simp only [vE]; obtain ⟨hc1, hf1⟩ := bcell hb1; have HB1 := hid hb1; have k0 := hc1 w.heap.size 0 (by simp); have k1 := hc1 w.heap.size 1 (by simp); simp [go_sem] at k0 k1; clear hb1)
    refine bodyPost_ret (v := .tuple #[spv s (s ++ ⟨#[255]⟩), .int .i64 0]) (by simp [results, Tryd.results18, go_sem, k0, k1]) rfl ⟨ret_sp HE.out.1 HE.out.2 (by rw [HU.out]; rfl), ?_⟩
    have hb2 := Below.on (Below.al (Below.refl _ _) _) HB1.out
    (repeat (first | exact Below.refl _ _ | assumption | refine Below.drew ?_ | refine Below.al ?_ _ | refine Below.setCell ?_ (by first | exact Nat.le_refl _ | (simp; omega) | (simp; done)) _ | refine Below.on ?_ (by assumption)))
end Go.Proofs.YtfafkohghgliaabDoor.Tu
