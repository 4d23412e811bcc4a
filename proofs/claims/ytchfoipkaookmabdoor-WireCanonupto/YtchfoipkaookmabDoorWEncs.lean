import Derived.Test.YtchfoipkaookmabDoorWVar
import Derived.Test.YtchfoipkaookmabDoorWStamp
namespace Go.Proofs.YtchfoipkaookmabDoor
open Go.RowKit Go.Sort
set_option linter.unusedVariables false

set_option maxHeartbeats 400000 in
theorem byte_any {w : World} {A : Nat → Prop} {b o : Nat} {bs : List Nat} {v : Nat} (h : EncAt w A b o bs) (hv : v < 256) (hA : ∀ k, A k → k < w.heap.size) (hl : bs.length + 1 ≤ 9223372036854775807) :
    Calls Tryd.prog 16 #[.pointer (some ⟨b, o, none⟩), .int .u8 (v : Int)] w fun e w' => e = .returned (.tuple #[]) ∧ Cel b o 2 w w' ∧ EncAt w' A b o (bs ++ [v]) := by
  obtain ⟨wa, hwa⟩ : ∃ wa, wa = w.alloc (.cells #[.int .u8 (v : Int)] 5) := ⟨_, rfl⟩
  have hba : Below w.heap.size w wa := by rw [hwa]; exact Below.al (Below.refl _ _) _
  have hcv := run_convert_bytes_arg (P := Tryd.prog) wa 63 5 Tryd.underlying63 Tryd.underlying5 w.heap.size 0 1 1 ([v].map Int.ofNat) rfl (fun i hi => by
    match i, hi with
    | 0, _ => rw [hwa]; simp [go_sem]) 9 Tryd.underlying9
  rw [strOfNums_nats] at hcv
  rw [hwa] at hcv
  have HE := hid (h.later hba)
  have HA : Hid (∀ k, A k → k < wa.heap.size) := fun k hk => Nat.lt_of_lt_of_le (hA k hk) hba.size
  have HB := hid hba
  have HWA := hid hwa
  clear h hA hba hwa
  go_enter Tryd.func16, Tryd.ntmps16
  go_wp2_with (go_at_call 25; rw [← HWA.out]; refine (raw_any HE.out (B8.one hv) HA.out hl).mono ?_; rintro e w1 ⟨rfl, hc, he⟩)
  go_end0
  exact ⟨rfl, (Cel.of_below HB.out).trans hc, he⟩

theorem flag_any {w : World} {A : Nat → Prop} {b o : Nat} {bs : List Nat} {v : Bool} (h : EncAt w A b o bs) (hA : ∀ k, A k → k < w.heap.size) (hl : bs.length + 1 ≤ 9223372036854775807) :
    Calls Tryd.prog 17 #[.pointer (some ⟨b, o, none⟩), .bool v] w fun e w' => e = .returned (.tuple #[]) ∧ Cel b o 2 w w' ∧ EncAt w' A b o (bs ++ [if v then 1 else 0]) := by
  have H := hid h
  have HA := hid hA
  clear h hA
  cases v
  · go_enter Tryd.func17, Tryd.ntmps17
    go_wp2_with (go_at_call 16; refine (byte_any (v := 0) H.out (by decide) HA.out hl).mono ?_; rintro e w1 ⟨rfl, hc, he⟩)
    go_end0
    exact ⟨rfl, hc, he⟩
  · go_enter Tryd.func17, Tryd.ntmps17
    go_wp2_with (go_at_call 16; refine (byte_any (v := 1) H.out (by decide) HA.out hl).mono ?_; rintro e w1 ⟨rfl, hc, he⟩)
    go_end0
    exact ⟨rfl, hc, he⟩

set_option maxHeartbeats 400000 in
theorem text_any {w : World} {A : Nat → Prop} {b o : Nat} {bs t : List Nat} (h : EncAt w A b o bs) (ht : B8 t) (hA : ∀ k, A k → k < w.heap.size) (hl : bs.length + t.length + 10 ≤ 9223372036854775807) :
    Calls Tryd.prog 21 #[.pointer (some ⟨b, o, none⟩), .string (ofNats t)] w fun e w' => e = .returned (.tuple #[]) ∧ Cel b o 2 w w' ∧ EncAt w' A b o (bs ++ eText t) := by
  have H := hid h
  have HA := hid hA
  have HT := hid ht
  have hsz : ((ofNats t).size : Int) = (t.length : Int) := by rw [ofNats_size]
  have hw : IntKind.u64.wrap (t.length : Int) = (t.length : Int) := by rw [IntKind.wrap_u64]; omega
  have hv := vb_len t.length 0 (by decide) (by unfold lim; omega)
  have HL : Hid (bs.length + 10 ≤ 9223372036854775807 ∧ t.length < 18446744073709551616 ∧ (bs ++ vb t.length).length + t.length ≤ 9223372036854775807) := ⟨by omega, by omega, by rw [List.length_append]; omega⟩
  clear h hA ht hv
  go_enter Tryd.func21, Tryd.ntmps21
  go_wp2_with fail
  refine (var_any H.out HL.out.2.1 HA.out HL.out.1).mono ?_
  rintro e w1 ⟨rfl, hc1, he1⟩
  have HC := hid hc1
  have HE := hid he1
  clear hc1 he1
  go_wp2_with fail
  refine (raw_any HE.out HT.out (fun k hk => Nat.lt_of_lt_of_le (HA.out k hk) HC.out.size) HL.out.2.2).mono ?_
  rintro e w2 ⟨rfl, hc2, he2⟩
  go_wp2_with fail
  go_end0
  refine ⟨rfl, HC.out.trans hc2, ?_⟩
  rw [eText, ← List.append_assoc]
  exact he2

/-- a row of texts -/
def TRow (w : World) (a : Option Addr) (ts : List (List Nat)) : Prop := ∀ i t, ts[i]? = some t → B8 t ∧ ∃ b off, a = some ⟨b, off, none⟩ ∧ w.cell? ⟨b, off + i, none⟩ = some (.string (ofNats t))
theorem TRow.later {w w' : World} {a : Option Addr} {ts : List (List Nat)} (h : TRow w a ts) (hb : Below w.heap.size w w') : TRow w' a ts := fun i t e => by
  obtain ⟨h1, b, off, h2, h3⟩ := h i t e
  exact ⟨h1, b, off, h2, cell_later hb h3⟩
theorem TRow.keep {w w' : World} {a : Option Addr} {ts : List (List Nat)} (h : TRow w a ts) {c p n : Nat} (k : Cel c p n w w') (ha : ∀ b off, a = some ⟨b, off, none⟩ → b ≠ c) : TRow w' a ts := fun i t e => by
  obtain ⟨h1, b, off, h2, h3⟩ := h i t e
  exact ⟨h1, b, off, h2, k.cell (.inl (ha b off h2)) h3⟩
theorem take_flat (ts : List (List Nat)) (k : Nat) (t : List Nat) (h : ts[k]? = some t) : (ts.take (k + 1)).flatMap eText = (ts.take k).flatMap eText ++ eText t := by
  have hk : k < ts.length := by
    rcases Nat.lt_or_ge k ts.length with h1 | h1
    · exact h1
    · rw [List.getElem?_eq_none h1] at h; cases h
  rw [List.take_succ_eq_append_getElem hk, List.flatMap_append]
  rw [List.getElem?_eq_getElem hk] at h
  injection h with h
  simp [h]
theorem eText_length_le (t : List Nat) (h : t.length < 18446744073709551616) : (eText t).length ≤ t.length + 10 := by
  have := vb_len t.length 0 (by decide) (by unfold lim; omega)
  rw [eText, List.length_append]; omega

set_option maxHeartbeats 1000000 in
theorem texts_any {w : World} {A : Nat → Prop} {b o cap : Nat} {bs : List Nat} {a : Option Addr} {ts : List (List Nat)} (h : EncAt w A b o bs) (hr : TRow w a ts) (ha : ∀ c off, a = some ⟨c, off, none⟩ → c ≠ b) (hA : ∀ k, A k → k < w.heap.size)
    (hl : bs.length + 10 + ts.length + (ts.flatMap eText).length ≤ 4611686018427387904) :
    Calls Tryd.prog 23 #[.pointer (some ⟨b, o, none⟩), .slice a ts.length cap] w fun e w' => e = .returned (.tuple #[]) ∧ Cel b o 2 w w' ∧ EncAt w' A b o (bs ++ eTexts ts) := by
  have H := hid h
  have HA := hid hA
  have HR := hid hr
  have HN := hid ha
  have hw : IntKind.u64.wrap (ts.length : Int) = (ts.length : Int) := by rw [IntKind.wrap_u64]; omega
  have hv := vb_len ts.length 0 (by decide) (by unfold lim; omega)
  have HV := hid hv
  clear h hA hr ha hv
  go_enter Tryd.func23, Tryd.ntmps23
  go_wp2_with fail
  refine (var_any H.out (by omega) HA.out (by omega)).mono ?_
  rintro e w1 ⟨rfl, hc1, he1⟩
  have HC := hid hc1
  have HE := hid he1
  clear hc1 he1
  go_wp2_with fail
  go_loopg [13] ts.length (fun g s13 wr => ∃ k : Nat, k ≤ ts.length ∧ g = ts.length - k ∧ s13 = .int .i64 (k : Int) ∧ Hid (Cel b o 2 w wr ∧ EncAt wr A b o (bs ++ vb ts.length ++ (ts.take k).flatMap eText)))
  case atStart => exact ⟨0, by omega, by omega, rfl, HC.out, by simpa using HE.out⟩
  case round =>
    obtain ⟨k, hk, rfl, rfl, HH⟩ := hrel
    clear HC HE
    by_cases hlt : k < ts.length
    · have e1 : decide ((k : Int) < (ts.length : Int)) = true := by simp; omega
      obtain ⟨t, ht⟩ : ∃ t, ts[k]? = some t := ⟨_, List.getElem?_eq_getElem hlt⟩
      obtain ⟨ht8, c, off, rfl, hcell⟩ := (HR.out.keep HH.out.1 HN.out) k t ht
      have hflat := take_flat ts k t ht
      have hpre : ((ts.take (k + 1)).flatMap eText).length ≤ (ts.flatMap eText).length := by
        conv => rhs; rw [← List.take_append_drop (k + 1) ts, List.flatMap_append, List.length_append]
        omega
      have htl : t.length ≤ ((ts.take (k + 1)).flatMap eText).length := by
        rw [hflat, List.length_append, eText, List.length_append]; omega
      have HL : Hid ((bs ++ vb ts.length ++ (ts.take k).flatMap eText).length + t.length + 10 ≤ 9223372036854775807) := (by
        show (bs ++ vb ts.length ++ (ts.take k).flatMap eText).length + t.length + 10 ≤ 9223372036854775807
        rw [hflat, List.length_append] at hpre
        have h1 := HV.out
        have h2 : t.length ≤ (eText t).length := by rw [eText, List.length_append]; omega
        simp only [List.length_append]
        omega)
      have HF := hid hflat
      have HT := hid ht8
      clear hflat hpre htl ht8 ht
      go_wp2_with fail
      refine (text_any HH.out.2 HT.out (fun k hk => Nat.lt_of_lt_of_le (HA.out k hk) HH.out.1.size) HL.out).mono ?_
      rintro e w2 ⟨rfl, hc2, he2⟩
      have HC2 := hid (HH.out.1.trans hc2)
      have HE2 := hid he2
      clear hc2 he2
      go_wp2_with fail
      go_roundg (ts.length - (k + 1))
      case measure => omega
      case rel =>
        refine ⟨k + 1, by omega, rfl, by go_num, HC2.out, ?_⟩
        have := HE2.out
        rw [List.append_assoc, ← HF.out] at this
        exact this
    · obtain rfl : k = ts.length := by omega
      clear hlt hk
      have HL := hid hl
      clear hl
      go_wp2_with fail
      go_end0
      refine ⟨rfl, HH.out.1, ?_⟩
      have := HH.out.2
      rw [List.take_of_length_le (Nat.le_refl _)] at this
      rw [eTexts, ← List.append_assoc]
      exact this

set_option maxHeartbeats 400000 in
theorem stampE_any {w : World} {A : Nat → Prop} {b o : Nat} {bs : List Nat} {x : Sm} (h : EncAt w A b o bs) (hx : x.ok) (hA : ∀ k, A k → k < w.heap.size) (hl : bs.length + 16 ≤ 9223372036854775807) :
    Calls Tryd.prog 27 #[.pointer (some ⟨b, o, none⟩), stv x.w x.l x.n] w fun e w' => e = .returned (.tuple #[]) ∧ Cel b o 2 w w' ∧ EncAt w' A b o (bs ++ pkN x) := by
  obtain ⟨wa, hwa⟩ : ∃ wa, wa = w.alloc (.cells #[.int .u64 x.w, .int .u32 x.l, .int .u32 x.n] 39) := ⟨_, rfl⟩
  have hba : Below w.heap.size w wa := by rw [hwa]; exact Below.al (Below.refl _ _) _
  have q0 : wa.cell? ⟨w.heap.size, 0, none⟩ = some (.int .u64 x.w) := by rw [hwa]; simp [go_sem]
  have q1 : wa.cell? ⟨w.heap.size, 1, none⟩ = some (.int .u32 x.l) := by rw [hwa]; simp [go_sem]
  have q2 : wa.cell? ⟨w.heap.size, 2, none⟩ = some (.int .u32 x.n) := by rw [hwa]; simp [go_sem]
  have H := hid h
  have HA := hid hA
  have HX := hid hx
  have HB := hid hba
  have HWA := hid hwa
  clear h hA hx hba hwa
  go_enter Tryd.func27, Tryd.ntmps27
  go_wp2_with fail
  rw [← HWA.out]
  refine (pack_any x.w x.l x.n wa HX.out.1 HX.out.2.1 HX.out.2.2).mono ?_
  rintro e w1 ⟨rfl, hb1⟩
  have hs := str_pkN x
  unfold pk at hs
  rw [hs]
  have HB1 := hid hb1
  clear hs hb1
  go_wp2_with fail
  refine (raw_any (H.out.later (Below.on HB.out HB1.out)) (pkN_b8 x) (fun k hk => Nat.lt_of_lt_of_le (HA.out k hk) (Below.on HB.out HB1.out).size) (by rw [pkN_length]; exact hl)).mono ?_
  rintro e w2 ⟨rfl, hc2, he2⟩
  go_wp2_with fail
  go_end0
  exact ⟨rfl, (Cel.of_below (Below.on HB.out HB1.out)).trans hc2, he2⟩

end Go.Proofs.YtchfoipkaookmabDoor
