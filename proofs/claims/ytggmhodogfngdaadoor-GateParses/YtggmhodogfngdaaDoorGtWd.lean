import Derived.Test.YtggmhodogfngdaaDoorGtItoa
import Derived.Test.YtggmhodogfngdaaDoorGtRefW
/- A blank and a word: the document's. -/
namespace Go.Proofs.YtggmhodogfngdaaDoor.Gt
open Go.Proofs.YtggmhodogfngdaaDoor Go.Proofs.YtggmhodogfngdaaDoor.Rt Go.RowKit Go.Sort
set_option linter.unusedVariables false

def sp : ByteArray := ⟨#[32]⟩
theorem sp_nats (l : List Nat) : sp ++ ofNats l = ofNats (32 :: l) := by
  rw [show sp = ofNats [32] from rfl, ofNats_append]; rfl
set_option maxHeartbeats 1000000 in
theorem rw_is {l : List Nat} (h8 : B8 l) (hl : 3 * l.length + 1 ≤ 140737488355328) (w : World) :
    Calls Tryd.prog 21 #[.string (ofNats l)] w fun r w' => r = .returned (.string (ofNats (32 :: wordL l))) ∧ Below w.heap.size w w' := by
  have C := hid (rword_is h8 hl w)
  have hz : (ofNats (wordL l)).size ≤ 3 * l.length + 1 := by rw [ofNats_size]; exact (wordL_len l).2
  have HR : Hid (sp ++ ofNats (wordL l) = ofNats (32 :: wordL l)) := hid (sp_nats _)
  generalize ofNats (wordL l) = s1 at *
  have zd : sp.size = 1 := rfl
  have hsp : (⟨#[32]⟩ : ByteArray) = sp := rfl
  have n1 : ¬ 9223372036854775807 < 1 + s1.size := by omega
  go_enter Tryd.func21, Tryd.ntmps21
  go_wp2_with fail
  refine C.out.mono ?_
  rintro e w1 ⟨rfl, hb⟩
  have HB := hid hb
  clear hb
  go_wp2_with fail
  rw [HR.out]
  go_ret
  exact ⟨rfl, HB.out⟩

end Go.Proofs.YtggmhodogfngdaaDoor.Gt
