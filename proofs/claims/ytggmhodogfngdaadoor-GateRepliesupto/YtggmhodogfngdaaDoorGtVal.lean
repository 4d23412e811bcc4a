import Derived.Test.YtggmhodogfngdaaDoorGtSmall
/- The reply to a get. -/
namespace Go.Proofs.YtggmhodogfngdaaDoor.Gt
open Go.Proofs.YtggmhodogfngdaaDoor Go.Proofs.YtggmhodogfngdaaDoor.Rt Go.RowKit Go.Sort
set_option linter.unusedVariables false

def noneL : List Nat := [110, 111, 110, 101]
def valHd : List Nat := [118, 97, 108, 117, 101]
/-- the reply's text -/
def valL : List (List Nat × List Nat) → List Nat
  | [] => noneL
  | x :: _ => valHd ++ 32 :: wordL x.2

set_option maxHeartbeats 1000000 in
theorem value_is {xs : List (List Nat × List Nat)} {a : Option Addr} {cap : Nat} (hx : OkP xs) (w : World) (hr : PrRow w a xs) :
    Calls Tryd.prog 15 #[.slice a xs.length cap] w fun r w' => r = .returned (.string (ofNats (valL xs))) ∧ Below w.heap.size w w' := by
  cases xs with
  | nil =>
    go_enter Tryd.func15, Tryd.ntmps15
    go_wp2_with fail
    go_ret
    exact ⟨rfl, Below.refl _ _⟩
  | cons x xs =>
    obtain ⟨b, o, rfl, h1, h2⟩ := hr 0 (by simp)
    obtain ⟨k, v⟩ := x
    have h8 := hx.1 (k, v) (by simp)
    have hz0 := szP_mem (xs := (k, v) :: xs) (x := (k, v)) (by simp)
    have hz1 := hx.2
    simp only [] at h8 hz0
    have C := hid (word_is h8.2 (by omega) w)
    have hz : (ofNats (wordL v)).size ≤ 3 * v.length + 1 := by rw [ofNats_size]; exact (wordL_len v).2
    have HR : Hid ((⟨#[118, 97, 108, 117, 101, 32]⟩ : ByteArray) ++ ofNats (wordL v) = ofNats (valL ((k, v) :: xs))) := hid (by
      rw [show (⟨#[118, 97, 108, 117, 101, 32]⟩ : ByteArray) = ofNats (valHd ++ [32]) from rfl, ofNats_append]
      simp [valL])
    have h2' : w.cell? ⟨b, o + 1, none⟩ = some (.string (ofNats v)) := by simpa using h2
    obtain ⟨vh, hvh⟩ : ∃ vh : ByteArray, vh = ⟨#[118, 97, 108, 117, 101, 32]⟩ := ⟨_, rfl⟩
    have zd : vh.size = 6 := by rw [hvh]; rfl
    rw [← hvh] at HR
    have hvh' : (⟨#[118, 97, 108, 117, 101, 32]⟩ : ByteArray) = vh := hvh.symm
    clear hvh h2 h1
    generalize ofNats (wordL v) = s1 at *
    have n1 : ¬ 9223372036854775807 < 6 + s1.size := by omega
    clear hr hx h8
    go_enter Tryd.func15, Tryd.ntmps15
    go_wp2_with fail
    refine C.out.mono ?_
    rintro e w1 ⟨rfl, hb⟩
    have HB := hid hb
    clear hb
    go_wp2_with fail
    rw [HR.out]
    go_ret
    exact ⟨rfl, HB.out⟩

end Go.Proofs.YtggmhodogfngdaaDoor.Gt
