import Derived.Test.YtfafkohghgliaabDoorTuT
import Derived.Test.YtfafkohghgliaabDoorTuRefE
import Derived.Lib.ItoaMem
import Derived.Laws.BytesArg
import Derived.Laws.Bits64
/- The document's Decimal. -/
namespace Go.Proofs.YtfafkohghgliaabDoor.Tu
open Go.RowKit Go.Sort Go.Proofs.YtfafkohghgliaabDoor Go.Proofs.YtfafkohghgliaabDoor.Gt

def dec (u : Nat) : ByteArray := ⟨(Lib.decDigits u).toArray⟩
theorem map_back : ∀ l : List UInt8, l.map (UInt8.ofNat ∘ fun x => x.toNat) = l
  | [] => rfl
  | a :: l => by simp [map_back l]
theorem dec_nats (u : Nat) : dec u = ofNats (decN u) := by
  simp [dec, ofNats, decN, map_back]

theorem dec_small {u : Nat} (h : u < 10) : dec u = strOfNums [48 + (u : Int)] := by
  unfold dec; rw [Lib.decDigits_one h]
  simp [strOfNums]
  rw [show (48 + (u : Int)).toNat = 48 + u by omega, UInt8.ofNat_add]
  rfl

/-- digits ahead of a text -/
def decs (u : Nat) (s : ByteArray) : ByteArray := dec u ++ s
theorem decs_step {u : Nat} (h : ¬ u < 10) (s : ByteArray) : dec u ++ s = dec (u / 10) ++ (strOfNums [48 + ((u % 10 : Nat) : Int)] ++ s) := by
  have e : dec u = dec (u / 10) ++ strOfNums [48 + ((u % 10 : Nat) : Int)] := by
    unfold dec
    rw [Lib.decDigits, dif_neg h]
    apply ByteArray.ext
    rw [ByteArray.data_append]
    simp [strOfNums]
    rw [show (48 + ((u : Int) % 10)).toNat = 48 + u % 10 by omega, UInt8.ofNat_add]
    rfl
  rw [e, ByteArray.append_assoc]

theorem dec_size (u : Nat) : (dec u).size = Lib.nDigits u := by
  show (Lib.decDigits u).toArray.size = _
  rw [List.size_toArray, Lib.decDigits_length]

set_option maxHeartbeats 1000000 in
theorem refdecimal_any (u : Nat) (hu64 : u < 18446744073709551616) (w : World) :
    Calls Tryd.prog 55 #[.int .u64 u] w fun e w' => e = .returned (.string (dec u)) ∧ Below w.heap.size w w' := by
  have hcv := fun (W : World) (x : Int) => run_convert_bytes_arg (P := Tryd.prog) (W.alloc (.cells #[.int .u8 x] 5)) 50 5 Tryd.underlying50 Tryd.underlying5 W.heap.size 0 1 1 [x] rfl (fun i hi => by
        obtain rfl : i = 0 := by omega
        simp [go_sem]) 9 Tryd.underlying9
  have hm : (u : Int) % 10 < 10 := by omega
  have hm0 : 0 ≤ (u : Int) % 10 := by omega
  go_enter Tryd.func55, Tryd.ntmps55
  go_wp2_with fail
  go_loopg [0, 3] u (fun g s0 s3 wr => ∃ (t : Nat) (s : ByteArray), t < 18446744073709551616 ∧ t = g ∧ s0 = .int .u64 t ∧ s3 = .string s ∧ (t < 10 → dec u = s) ∧ (¬ t < 10 → dec u = dec (t / 10) ++ s) ∧ Below w.heap.size w wr)
  case atStart =>
    refine ⟨u, _, hu64, rfl, rfl, rfl, fun h => ?_, fun h => ?_, Below.al (Below.refl _ _) _⟩
    · rw [dec_small h, show (u : Int) % 10 = u by omega]
    · have := decs_step h ByteArray.empty
      rw [ByteArray.append_empty, ByteArray.append_empty] at this
      rw [this]; rfl
  case round =>
    clear hm hm0
    obtain ⟨t, s, ht, rfl, rfl, rfl, h1, h2, hb⟩ := hrel
    by_cases hlt : t < 10
    · have hge : ¬ (10 : Int) ≤ (t : Int) := by omega
      have HE := hid (h1 hlt)
      clear h1 h2
      go_wp2_with fail
      go_ret
      rw [HE.out]
      exact ⟨rfl, hb⟩
    · have e := h2 hlt
      have hsz : s.size ≤ 20 := by
        have hz := congrArg ByteArray.size e
        rw [ByteArray.size_append, dec_size, dec_size] at hz
        have hd : Lib.nDigits u ≤ 20 := by
          by_cases hu0 : 1 ≤ u
          · have := Lib.numDigits_eq u hu0 hu64; split at this <;> omega
          · rw [Lib.nDigits_small (by omega)]; omega
        omega
      have hroom : ¬ 9223372036854775807 < 1 + s.size := by omega
      have hge : (10 : Int) ≤ (t : Int) := by omega
      have hm1 : (t : Int) / 10 % 10 < 10 := by omega
      have hm2 : 0 ≤ (t : Int) / 10 % 10 := by omega
      have HE := hid e
      clear h1 h2 e hsz
      go_wp2_with fail
      go_roundg (t / 10)
      case measure => omega
      case rel =>
        refine ⟨t / 10, _, by omega, rfl, by go_num, rfl, fun h => ?_, fun h => ?_, Below.al hb _⟩
        · rw [HE.out, dec_small h, show ((t / 10 : Nat) : Int) = (t : Int) / 10 % 10 by omega]
        · rw [HE.out, decs_step h, show (((t / 10) % 10 : Nat) : Int) = (t : Int) / 10 % 10 by omega]

end Go.Proofs.YtfafkohghgliaabDoor.Tu
