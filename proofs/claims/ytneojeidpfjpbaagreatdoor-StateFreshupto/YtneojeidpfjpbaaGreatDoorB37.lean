import Derived.Test.YtneojeidpfjpbaaGreatDoorB32
set_option linter.unusedVariables false
set_option maxHeartbeats 1000000
namespace Go.Proofs.YtneojeidpfjpbaaGreatDoor.Ig
open Go.RowKit Go.Sort
structure EOk (w0 w : World) (A : Nat → Prop) (b o : Nat) (bs : List Nat) : Prop where
 cel : Cel b o 2 w0 w
 enc : EncAt w A b o bs
 hA : ∀ k, A k → k < w.heap.size
section
variable {w0 w w' : World} {A : Nat → Prop} {b o : Nat} {bs bs' : List Nat}
theorem EOk.refl (h : EOk w0 w A b o bs) : EOk w w A b o bs := ⟨Cel.refl _ _ _ _, h.enc, h.hA⟩
theorem EOk.step (h : EOk w0 w A b o bs) (k : EOk w w' A b o bs') : EOk w0 w' A b o bs' := ⟨h.cel.trans k.cel, k.enc, k.hA⟩
theorem EOk.later (h : EOk w0 w A b o bs) (hb : Below w.heap.size w w') : EOk w0 w' A b o bs := ⟨h.cel.on hb, h.enc.later hb, fun k hk => Nat.lt_of_lt_of_le (h.hA k hk) hb.size⟩
theorem EOk.al (h : EOk w0 w A b o bs) (x : Obj) : EOk w0 (w.alloc x) A b o bs := h.later (Below.al (Below.refl _ _) x)
theorem EOk.lt (h : EOk w0 w A b o bs) : b < w.heap.size := h.enc.lt
theorem eok_of (hA : ∀ k, A k → k < w.heap.size) {e : Ending} {v : Ending} (h : e = v ∧ Cel b o 2 w w' ∧ EncAt w' A b o bs) : e = v ∧ EOk w w' A b o bs := ⟨h.1, h.2.1, h.2.2, fun k hk => Nat.lt_of_lt_of_le (hA k hk) h.2.1.size⟩
theorem eX_len (s : ByteArray) : s.size + 1 ≤ (eX s).length := by
 unfold eX eText; have h1 : (vb (nums s).length).length ≠ 0 := fun h => vb_ne _ (List.eq_nil_of_length_eq_zero h)
 rw [List.length_append, nums_length] at *; omega
theorem eok_text {s : ByteArray} (h : EOk w0 w A b o bs) (hl : bs.length + (eX s).length ≤ 4611686018427387904) :
  Calls Tryz.prog 74 #[.pointer (some ⟨b, o, none⟩), .string s] w fun e w' => e = .returned (.tuple #[]) ∧ EOk w w' A b o (bs ++ eX s) := by
 have h1 := eX_len s; have h2 := text_any (t := nums s) h.enc (nums_b8 s) h.hA (by rw [nums_length]; omega); rw [ofNats_nums] at h2; exact h2.mono fun e w' k => eok_of h.hA k
theorem eok_var {v : Int} (h : EOk w0 w A b o bs) (hv : okU 18446744073709551615 v) (hl : bs.length ≤ 4611686018427387904) :
  Calls Tryz.prog 27 #[.pointer (some ⟨b, o, none⟩), .int .u64 v] w fun e w' => e = .returned (.tuple #[]) ∧ EOk w w' A b o (bs ++ eU v) := by
 have e : ((v.toNat : Nat) : Int) = v := by have := hv.1; omega
 have h2 := var_any (v := v.toNat) h.enc (by have := hv.2; omega) h.hA (by omega); rw [e] at h2; exact h2.mono fun e w' k => eok_of h.hA k
theorem eok_flag {v : Bool} (h : EOk w0 w A b o bs) (hl : bs.length ≤ 4611686018427387904) :
  Calls Tryz.prog 75 #[.pointer (some ⟨b, o, none⟩), .bool v] w fun e w' => e = .returned (.tuple #[]) ∧ EOk w w' A b o (bs ++ eFlag v) :=
 (flag_any h.enc h.hA (by omega)).mono fun e w' k => eok_of h.hA k
theorem eok_byte {v : Int} (h : EOk w0 w A b o bs) (hl : bs.length ≤ 4611686018427387904) :
  Calls Tryz.prog 72 #[.pointer (some ⟨b, o, none⟩), .int .u8 (v % 256)] w fun e w' => e = .returned (.tuple #[]) ∧ EOk w w' A b o (bs ++ eB v) := by
 have e : (((v % 256).toNat : Nat) : Int) = v % 256 := by omega
 have h2 := byte_any (v := (v % 256).toNat) h.enc (by omega) h.hA (by omega); rw [e] at h2; exact h2.mono fun e w' k => eok_of h.hA k
theorem eok_stamp {s : Vs.Sp} (h : EOk w0 w A b o bs) (hs : okS s) (hl : bs.length ≤ 4611686018427387904) :
  Calls Tryz.prog 28 #[.pointer (some ⟨b, o, none⟩), .agg #[.int .u64 s.a, .int .u32 s.b, .int .u32 s.c]] w fun e w' => e = .returned (.tuple #[]) ∧ EOk w w' A b o (bs ++ eS s) :=
 (stampE_any (x := smOf s) h.enc hs h.hA (by omega)).mono fun e w' k => eok_of h.hA k
theorem putNumber_is {v : Int} (h : EOk w0 w A b o bs) (hv : okU 4294967295 v) (hl : bs.length ≤ 4611686018427387904) :
  Calls Tryz.prog 26 #[.pointer (some ⟨b, o, none⟩), .int .u32 v] w fun e w' => e = .returned (.tuple #[]) ∧ EOk w w' A b o (bs ++ eU v) := by
 have hw : IntKind.u64.wrap v = v := by rw [IntKind.wrap_u64]; have := hv.1; have := hv.2; omega
 have C := hid (eok_var (v := v) h ⟨hv.1, by have := hv.2; omega⟩ hl); clear h hv hl; go_enter Tryz.func26, Tryz.ntmps26
 go_wp2_with fail
 refine C.out.mono ?_; rintro e w1 ⟨rfl, h1⟩; go_wp2_with fail
 go_end0
 exact ⟨rfl, h1⟩
end
theorem putTransaction_is {w0 w : World} {A : Nat → Prop} {b o : Nat} {bs : List Nat} {i : Lk.Ix} {m : Int} (h : EOk w0 w A b o bs) (ho : okTxn (i, m)) (hl : bs.length + (eTxn (i, m)).length ≤ 4611686018427387904) :
  Calls Tryz.prog 66 #[.pointer (some ⟨b, o, none⟩), .agg #[.int .u32 i.1, .int .u32 i.2], .int .u32 m] w fun e w' => e = .returned (.tuple #[]) ∧ EOk w w' A b o (bs ++ eTxn (i, m)) := by
 have hE : eTxn (i, m) = eU i.1 ++ (eU i.2 ++ (eU m)) := rfl; rw [hE] at hl; simp only [List.length_append] at hl; have HL : Hid (bs.length + (eU i.1).length ≤ 4611686018427387904 ∧ (bs ++ eU i.1).length + (eU i.2).length ≤ 4611686018427387904 ∧ ((bs ++ eU i.1) ++ eU i.2).length + (eU m).length ≤ 4611686018427387904) := by
  show _ ∧ _
  simp only [List.length_append]; refine ⟨?_, ?_, ?_⟩ <;> omega
 obtain ⟨wa, hwa⟩ : ∃ wa, wa = w.alloc (.cells #[.int .u32 i.1, .int .u32 i.2] 38) := ⟨_, rfl⟩; have hba : Below w.heap.size w wa := by rw [hwa]; exact Below.al (Below.refl _ _) _
 have kx : wa.heap[w.heap.size]? = some (.cells #[.int .u32 i.1, .int .u32 i.2] 38 (0, 0)) := by rw [hwa]; exact World.alloc_heap_new _ _
 have q0 : wa.cell? ⟨w.heap.size, 0, none⟩ = some (.int .u32 i.1) := Vs.cell_of_obj kx rfl; have q1 : wa.cell? ⟨w.heap.size, 1, none⟩ = some (.int .u32 i.2) := Vs.cell_of_obj kx rfl; have hne : w.heap.size ≠ b := by have := h.lt; omega
 have HQ : Hid (wa.cell? ⟨w.heap.size, 0, none⟩ = some (.int .u32 i.1) ∧ wa.cell? ⟨w.heap.size, 1, none⟩ = some (.int .u32 i.2)) := ⟨q0, q1⟩; have H0 : Hid (EOk wa wa A b o bs) := (h.later hba).refl; have HB := hid hba; have HH := hid h; clear h hba kx hE hl; go_enter Tryz.func66, Tryz.ntmps66
 go_wp2_with fail
 rw [← hwa]; clear hwa; refine (putNumber_is H0.out ho.1 (Nat.le_trans (Nat.le_add_right _ _) HL.out.1)).mono ?_; rintro e w1 ⟨rfl, h1⟩; clear q0 q1; have H1 : Hid (EOk wa w1 A b o (bs ++ eU i.1)) := H0.out.step h1; have q0 := H1.out.cel.cell (.inl hne) HQ.out.1; have q1 := H1.out.cel.cell (.inl hne) HQ.out.2; clear h1; go_wp2_with fail
 refine (putNumber_is H1.out ho.2.1 (Nat.le_trans (Nat.le_add_right _ _) HL.out.2.1)).mono ?_; rintro e w2 ⟨rfl, h2⟩; clear q0 q1; have H2 : Hid (EOk wa w2 A b o ((bs ++ eU i.1) ++ eU i.2)) := H1.out.step h2; have q0 := H2.out.cel.cell (.inl hne) HQ.out.1; have q1 := H2.out.cel.cell (.inl hne) HQ.out.2; clear h2; go_wp2_with fail
 refine (putNumber_is H2.out ho.2.2 (Nat.le_trans (Nat.le_add_right _ _) HL.out.2.2)).mono ?_; rintro e w3 ⟨rfl, h3⟩; clear q0 q1; have H3 : Hid (EOk wa w3 A b o (((bs ++ eU i.1) ++ eU i.2) ++ eU m)) := H2.out.step h3; have q0 := H3.out.cel.cell (.inl hne) HQ.out.1; have q1 := H3.out.cel.cell (.inl hne) HQ.out.2; clear h3; go_wp2_with fail
 go_end0
 refine ⟨rfl, ?_⟩; have h9 := (HH.out.refl.later HB.out).step H3.out; simp only [List.append_assoc] at h9; exact h9
theorem putSpan_is {w0 w : World} {A : Nat → Prop} {b o : Nat} {bs : List Nat} {x : T2} (h : EOk w0 w A b o bs)  (hl : bs.length + (eSpan x).length ≤ 4611686018427387904) :
  Calls Tryz.prog 68 #[.pointer (some ⟨b, o, none⟩), .agg #[.string x.1, .string x.2]] w fun e w' => e = .returned (.tuple #[]) ∧ EOk w w' A b o (bs ++ eSpan x) := by
 have hE : eSpan x = eX x.1 ++ (eX x.2) := rfl; rw [hE] at hl; simp only [List.length_append] at hl; have HL : Hid (bs.length + (eX x.1).length ≤ 4611686018427387904 ∧ (bs ++ eX x.1).length + (eX x.2).length ≤ 4611686018427387904) := by
  show _ ∧ _
  simp only [List.length_append]; refine ⟨?_, ?_⟩ <;> omega
 obtain ⟨wa, hwa⟩ : ∃ wa, wa = w.alloc (.cells #[.string x.1, .string x.2] 25) := ⟨_, rfl⟩; have hba : Below w.heap.size w wa := by rw [hwa]; exact Below.al (Below.refl _ _) _
 have kx : wa.heap[w.heap.size]? = some (.cells #[.string x.1, .string x.2] 25 (0, 0)) := by rw [hwa]; exact World.alloc_heap_new _ _
 have q0 : wa.cell? ⟨w.heap.size, 0, none⟩ = some (.string x.1) := Vs.cell_of_obj kx rfl; have q1 : wa.cell? ⟨w.heap.size, 1, none⟩ = some (.string x.2) := Vs.cell_of_obj kx rfl; have hne : w.heap.size ≠ b := by have := h.lt; omega
 have HQ : Hid (wa.cell? ⟨w.heap.size, 0, none⟩ = some (.string x.1) ∧ wa.cell? ⟨w.heap.size, 1, none⟩ = some (.string x.2)) := ⟨q0, q1⟩; have H0 : Hid (EOk wa wa A b o bs) := (h.later hba).refl; have HB := hid hba; have HH := hid h; clear h hba kx hE hl; go_enter Tryz.func68, Tryz.ntmps68
 go_wp2_with fail
 rw [← hwa]; clear hwa; refine (eok_text H0.out HL.out.1).mono ?_; rintro e w1 ⟨rfl, h1⟩; clear q0 q1; have H1 : Hid (EOk wa w1 A b o (bs ++ eX x.1)) := H0.out.step h1; have q0 := H1.out.cel.cell (.inl hne) HQ.out.1; have q1 := H1.out.cel.cell (.inl hne) HQ.out.2; clear h1; go_wp2_with fail
 refine (eok_text H1.out HL.out.2).mono ?_; rintro e w2 ⟨rfl, h2⟩; clear q0 q1; have H2 : Hid (EOk wa w2 A b o ((bs ++ eX x.1) ++ eX x.2)) := H1.out.step h2; have q0 := H2.out.cel.cell (.inl hne) HQ.out.1; have q1 := H2.out.cel.cell (.inl hne) HQ.out.2; clear h2; go_wp2_with fail
 go_end0
 refine ⟨rfl, ?_⟩; have h9 := (HH.out.refl.later HB.out).step H2.out; simp only [List.append_assoc] at h9; exact h9
theorem putWrite_is {w0 w : World} {A : Nat → Prop} {b o : Nat} {bs : List Nat} {x : Wr} (h : EOk w0 w A b o bs)  (hl : bs.length + (eWrite x).length ≤ 4611686018427387904) :
  Calls Tryz.prog 70 #[.pointer (some ⟨b, o, none⟩), .agg #[.string x.key, .bool x.del, .string x.val]] w fun e w' => e = .returned (.tuple #[]) ∧ EOk w w' A b o (bs ++ eWrite x) := by
 have hE : eWrite x = eX x.key ++ (eFlag x.del ++ (eX x.val)) := rfl; rw [hE] at hl; simp only [List.length_append] at hl; have HL : Hid (bs.length + (eX x.key).length ≤ 4611686018427387904 ∧ (bs ++ eX x.key).length + (eFlag x.del).length ≤ 4611686018427387904 ∧ ((bs ++ eX x.key) ++ eFlag x.del).length + (eX x.val).length ≤ 4611686018427387904) := by
  show _ ∧ _
  simp only [List.length_append]; refine ⟨?_, ?_, ?_⟩ <;> omega
 obtain ⟨wa, hwa⟩ : ∃ wa, wa = w.alloc (.cells #[.string x.key, .bool x.del, .string x.val] 103) := ⟨_, rfl⟩; have hba : Below w.heap.size w wa := by rw [hwa]; exact Below.al (Below.refl _ _) _
 have kx : wa.heap[w.heap.size]? = some (.cells #[.string x.key, .bool x.del, .string x.val] 103 (0, 0)) := by rw [hwa]; exact World.alloc_heap_new _ _
 have q0 : wa.cell? ⟨w.heap.size, 0, none⟩ = some (.string x.key) := Vs.cell_of_obj kx rfl; have q1 : wa.cell? ⟨w.heap.size, 1, none⟩ = some (.bool x.del) := Vs.cell_of_obj kx rfl; have q2 : wa.cell? ⟨w.heap.size, 2, none⟩ = some (.string x.val) := Vs.cell_of_obj kx rfl; have hne : w.heap.size ≠ b := by have := h.lt; omega
 have HQ : Hid (wa.cell? ⟨w.heap.size, 0, none⟩ = some (.string x.key) ∧ wa.cell? ⟨w.heap.size, 1, none⟩ = some (.bool x.del) ∧ wa.cell? ⟨w.heap.size, 2, none⟩ = some (.string x.val)) := ⟨q0, q1, q2⟩; have H0 : Hid (EOk wa wa A b o bs) := (h.later hba).refl; have HB := hid hba; have HH := hid h; clear h hba kx hE hl; go_enter Tryz.func70, Tryz.ntmps70
 go_wp2_with fail
 rw [← hwa]; clear hwa; refine (eok_text H0.out HL.out.1).mono ?_; rintro e w1 ⟨rfl, h1⟩; clear q0 q1 q2; have H1 : Hid (EOk wa w1 A b o (bs ++ eX x.key)) := H0.out.step h1; have q0 := H1.out.cel.cell (.inl hne) HQ.out.1; have q1 := H1.out.cel.cell (.inl hne) HQ.out.2.1; have q2 := H1.out.cel.cell (.inl hne) HQ.out.2.2; clear h1; go_wp2_with fail
 refine (eok_flag H1.out (Nat.le_trans (Nat.le_add_right _ _) HL.out.2.1)).mono ?_; rintro e w2 ⟨rfl, h2⟩; clear q0 q1 q2; have H2 : Hid (EOk wa w2 A b o ((bs ++ eX x.key) ++ eFlag x.del)) := H1.out.step h2; have q0 := H2.out.cel.cell (.inl hne) HQ.out.1; have q1 := H2.out.cel.cell (.inl hne) HQ.out.2.1; have q2 := H2.out.cel.cell (.inl hne) HQ.out.2.2; clear h2; go_wp2_with fail
 refine (eok_text H2.out HL.out.2.2).mono ?_; rintro e w3 ⟨rfl, h3⟩; clear q0 q1 q2; have H3 : Hid (EOk wa w3 A b o (((bs ++ eX x.key) ++ eFlag x.del) ++ eX x.val)) := H2.out.step h3; have q0 := H3.out.cel.cell (.inl hne) HQ.out.1; have q1 := H3.out.cel.cell (.inl hne) HQ.out.2.1; have q2 := H3.out.cel.cell (.inl hne) HQ.out.2.2; clear h3; go_wp2_with fail
 go_end0
 refine ⟨rfl, ?_⟩; have h9 := (HH.out.refl.later HB.out).step H3.out; simp only [List.append_assoc] at h9; exact h9
theorem putVersion_is {w0 w : World} {A : Nat → Prop} {b o : Nat} {bs : List Nat} {x : Vs.Kv} (h : EOk w0 w A b o bs) (ho : okS x.2.s) (hl : bs.length + (eVersion x).length ≤ 4611686018427387904) :
  Calls Tryz.prog 37 #[.pointer (some ⟨b, o, none⟩), .agg #[.string x.1, .int .u64 x.2.s.a, .int .u32 x.2.s.b, .int .u32 x.2.s.c, .bool x.2.del, .string x.2.val]] w fun e w' => e = .returned (.tuple #[]) ∧ EOk w w' A b o (bs ++ eVersion x) := by
 have hE : eVersion x = eX x.1 ++ (eS x.2.s ++ (eFlag x.2.del ++ (eX x.2.val))) := rfl; rw [hE] at hl; simp only [List.length_append] at hl; have HL : Hid (bs.length + (eX x.1).length ≤ 4611686018427387904 ∧ (bs ++ eX x.1).length + (eS x.2.s).length ≤ 4611686018427387904 ∧ ((bs ++ eX x.1) ++ eS x.2.s).length + (eFlag x.2.del).length ≤ 4611686018427387904 ∧ (((bs ++ eX x.1) ++ eS x.2.s) ++ eFlag x.2.del).length + (eX x.2.val).length ≤ 4611686018427387904) := by
  show _ ∧ _
  simp only [List.length_append]; refine ⟨?_, ?_, ?_, ?_⟩ <;> omega
 obtain ⟨wa, hwa⟩ : ∃ wa, wa = w.alloc (.cells #[.string x.1, .int .u64 x.2.s.a, .int .u32 x.2.s.b, .int .u32 x.2.s.c, .bool x.2.del, .string x.2.val] 97) := ⟨_, rfl⟩; have hba : Below w.heap.size w wa := by rw [hwa]; exact Below.al (Below.refl _ _) _
 have kx : wa.heap[w.heap.size]? = some (.cells #[.string x.1, .int .u64 x.2.s.a, .int .u32 x.2.s.b, .int .u32 x.2.s.c, .bool x.2.del, .string x.2.val] 97 (0, 0)) := by rw [hwa]; exact World.alloc_heap_new _ _
 have q0 : wa.cell? ⟨w.heap.size, 0, none⟩ = some (.string x.1) := Vs.cell_of_obj kx rfl; have q1 : wa.cell? ⟨w.heap.size, 1, none⟩ = some (.int .u64 x.2.s.a) := Vs.cell_of_obj kx rfl; have q2 : wa.cell? ⟨w.heap.size, 2, none⟩ = some (.int .u32 x.2.s.b) := Vs.cell_of_obj kx rfl; have q3 : wa.cell? ⟨w.heap.size, 3, none⟩ = some (.int .u32 x.2.s.c) := Vs.cell_of_obj kx rfl; have q4 : wa.cell? ⟨w.heap.size, 4, none⟩ = some (.bool x.2.del) := Vs.cell_of_obj kx rfl; have q5 : wa.cell? ⟨w.heap.size, 5, none⟩ = some (.string x.2.val) := Vs.cell_of_obj kx rfl; have hne : w.heap.size ≠ b := by have := h.lt; omega
 have HQ : Hid (wa.cell? ⟨w.heap.size, 0, none⟩ = some (.string x.1) ∧ wa.cell? ⟨w.heap.size, 1, none⟩ = some (.int .u64 x.2.s.a) ∧ wa.cell? ⟨w.heap.size, 2, none⟩ = some (.int .u32 x.2.s.b) ∧ wa.cell? ⟨w.heap.size, 3, none⟩ = some (.int .u32 x.2.s.c) ∧ wa.cell? ⟨w.heap.size, 4, none⟩ = some (.bool x.2.del) ∧ wa.cell? ⟨w.heap.size, 5, none⟩ = some (.string x.2.val)) := ⟨q0, q1, q2, q3, q4, q5⟩; have H0 : Hid (EOk wa wa A b o bs) := (h.later hba).refl; have HB := hid hba; have HH := hid h; clear h hba kx hE hl; go_enter Tryz.func37, Tryz.ntmps37
 go_wp2_with fail
 rw [← hwa]; clear hwa; refine (eok_text H0.out HL.out.1).mono ?_; rintro e w1 ⟨rfl, h1⟩; clear q0 q1 q2 q3 q4 q5; have H1 : Hid (EOk wa w1 A b o (bs ++ eX x.1)) := H0.out.step h1; have q0 := H1.out.cel.cell (.inl hne) HQ.out.1; have q1 := H1.out.cel.cell (.inl hne) HQ.out.2.1; have q2 := H1.out.cel.cell (.inl hne) HQ.out.2.2.1; have q3 := H1.out.cel.cell (.inl hne) HQ.out.2.2.2.1; have q4 := H1.out.cel.cell (.inl hne) HQ.out.2.2.2.2.1; have q5 := H1.out.cel.cell (.inl hne) HQ.out.2.2.2.2.2; clear h1; go_wp2_with fail
 refine (eok_stamp H1.out ho (Nat.le_trans (Nat.le_add_right _ _) HL.out.2.1)).mono ?_; rintro e w2 ⟨rfl, h2⟩; clear q0 q1 q2 q3 q4 q5; have H2 : Hid (EOk wa w2 A b o ((bs ++ eX x.1) ++ eS x.2.s)) := H1.out.step h2; have q0 := H2.out.cel.cell (.inl hne) HQ.out.1; have q1 := H2.out.cel.cell (.inl hne) HQ.out.2.1; have q2 := H2.out.cel.cell (.inl hne) HQ.out.2.2.1; have q3 := H2.out.cel.cell (.inl hne) HQ.out.2.2.2.1; have q4 := H2.out.cel.cell (.inl hne) HQ.out.2.2.2.2.1; have q5 := H2.out.cel.cell (.inl hne) HQ.out.2.2.2.2.2; clear h2; go_wp2_with fail
 refine (eok_flag H2.out (Nat.le_trans (Nat.le_add_right _ _) HL.out.2.2.1)).mono ?_; rintro e w3 ⟨rfl, h3⟩; clear q0 q1 q2 q3 q4 q5; have H3 : Hid (EOk wa w3 A b o (((bs ++ eX x.1) ++ eS x.2.s) ++ eFlag x.2.del)) := H2.out.step h3; have q0 := H3.out.cel.cell (.inl hne) HQ.out.1; have q1 := H3.out.cel.cell (.inl hne) HQ.out.2.1; have q2 := H3.out.cel.cell (.inl hne) HQ.out.2.2.1; have q3 := H3.out.cel.cell (.inl hne) HQ.out.2.2.2.1; have q4 := H3.out.cel.cell (.inl hne) HQ.out.2.2.2.2.1; have q5 := H3.out.cel.cell (.inl hne) HQ.out.2.2.2.2.2; clear h3; go_wp2_with fail
 refine (eok_text H3.out HL.out.2.2.2).mono ?_; rintro e w4 ⟨rfl, h4⟩; clear q0 q1 q2 q3 q4 q5; have H4 : Hid (EOk wa w4 A b o ((((bs ++ eX x.1) ++ eS x.2.s) ++ eFlag x.2.del) ++ eX x.2.val)) := H3.out.step h4; have q0 := H4.out.cel.cell (.inl hne) HQ.out.1; have q1 := H4.out.cel.cell (.inl hne) HQ.out.2.1; have q2 := H4.out.cel.cell (.inl hne) HQ.out.2.2.1; have q3 := H4.out.cel.cell (.inl hne) HQ.out.2.2.2.1; have q4 := H4.out.cel.cell (.inl hne) HQ.out.2.2.2.2.1; have q5 := H4.out.cel.cell (.inl hne) HQ.out.2.2.2.2.2; clear h4; go_wp2_with fail
 go_end0
 refine ⟨rfl, ?_⟩; have h9 := (HH.out.refl.later HB.out).step H4.out; simp only [List.append_assoc] at h9; exact h9
theorem putEntry_is {w0 w : World} {A : Nat → Prop} {b o : Nat} {bs : List Nat} {x : Lg.En} (h : EOk w0 w A b o bs) (ho : okTxn (x.id, x.home) ∧ okS (atEn x)) (hl : bs.length + (eEntry x).length ≤ 4611686018427387904) :
  Calls Tryz.prog 34 #[.pointer (some ⟨b, o, none⟩), .agg #[.int .u32 x.id.1, .int .u32 x.id.2, .int .u32 x.home, .int .i64 x.oc, .int .u64 x.w, .int .u32 x.l, .int .u32 x.n]] w fun e w' => e = .returned (.tuple #[]) ∧ EOk w w' A b o (bs ++ eEntry x) := by
 have hE : eEntry x = eTxn (x.id, x.home) ++ (eB x.oc ++ (eS (atEn x))) := rfl; rw [hE] at hl; simp only [List.length_append] at hl; have HL : Hid (bs.length + (eTxn (x.id, x.home)).length ≤ 4611686018427387904 ∧ (bs ++ eTxn (x.id, x.home)).length + (eB x.oc).length ≤ 4611686018427387904 ∧ ((bs ++ eTxn (x.id, x.home)) ++ eB x.oc).length + (eS (atEn x)).length ≤ 4611686018427387904) := by
  show _ ∧ _
  simp only [List.length_append]; refine ⟨?_, ?_, ?_⟩ <;> omega
 obtain ⟨wa, hwa⟩ : ∃ wa, wa = w.alloc (.cells #[.int .u32 x.id.1, .int .u32 x.id.2, .int .u32 x.home, .int .i64 x.oc, .int .u64 x.w, .int .u32 x.l, .int .u32 x.n] 91) := ⟨_, rfl⟩; have hba : Below w.heap.size w wa := by rw [hwa]; exact Below.al (Below.refl _ _) _
 have kx : wa.heap[w.heap.size]? = some (.cells #[.int .u32 x.id.1, .int .u32 x.id.2, .int .u32 x.home, .int .i64 x.oc, .int .u64 x.w, .int .u32 x.l, .int .u32 x.n] 91 (0, 0)) := by rw [hwa]; exact World.alloc_heap_new _ _
 have q0 : wa.cell? ⟨w.heap.size, 0, none⟩ = some (.int .u32 x.id.1) := Vs.cell_of_obj kx rfl; have q1 : wa.cell? ⟨w.heap.size, 1, none⟩ = some (.int .u32 x.id.2) := Vs.cell_of_obj kx rfl; have q2 : wa.cell? ⟨w.heap.size, 2, none⟩ = some (.int .u32 x.home) := Vs.cell_of_obj kx rfl; have q3 : wa.cell? ⟨w.heap.size, 3, none⟩ = some (.int .i64 x.oc) := Vs.cell_of_obj kx rfl; have q4 : wa.cell? ⟨w.heap.size, 4, none⟩ = some (.int .u64 x.w) := Vs.cell_of_obj kx rfl; have q5 : wa.cell? ⟨w.heap.size, 5, none⟩ = some (.int .u32 x.l) := Vs.cell_of_obj kx rfl; have q6 : wa.cell? ⟨w.heap.size, 6, none⟩ = some (.int .u32 x.n) := Vs.cell_of_obj kx rfl; have hne : w.heap.size ≠ b := by have := h.lt; omega
 have HQ : Hid (wa.cell? ⟨w.heap.size, 0, none⟩ = some (.int .u32 x.id.1) ∧ wa.cell? ⟨w.heap.size, 1, none⟩ = some (.int .u32 x.id.2) ∧ wa.cell? ⟨w.heap.size, 2, none⟩ = some (.int .u32 x.home) ∧ wa.cell? ⟨w.heap.size, 3, none⟩ = some (.int .i64 x.oc) ∧ wa.cell? ⟨w.heap.size, 4, none⟩ = some (.int .u64 x.w) ∧ wa.cell? ⟨w.heap.size, 5, none⟩ = some (.int .u32 x.l) ∧ wa.cell? ⟨w.heap.size, 6, none⟩ = some (.int .u32 x.n)) := ⟨q0, q1, q2, q3, q4, q5, q6⟩; have H0 : Hid (EOk wa wa A b o bs) := (h.later hba).refl; have HB := hid hba; have HH := hid h; clear h hba kx hE hl; go_enter Tryz.func34, Tryz.ntmps34
 go_wp2_with fail
 rw [← hwa]; clear hwa; refine (putTransaction_is (i := x.id) (m := x.home) H0.out ho.1 HL.out.1).mono ?_; rintro e w1 ⟨rfl, h1⟩; clear q0 q1 q2 q3 q4 q5 q6; have H1 : Hid (EOk wa w1 A b o (bs ++ eTxn (x.id, x.home))) := H0.out.step h1; have q0 := H1.out.cel.cell (.inl hne) HQ.out.1; have q1 := H1.out.cel.cell (.inl hne) HQ.out.2.1; have q2 := H1.out.cel.cell (.inl hne) HQ.out.2.2.1; have q3 := H1.out.cel.cell (.inl hne) HQ.out.2.2.2.1; have q4 := H1.out.cel.cell (.inl hne) HQ.out.2.2.2.2.1; have q5 := H1.out.cel.cell (.inl hne) HQ.out.2.2.2.2.2.1; have q6 := H1.out.cel.cell (.inl hne) HQ.out.2.2.2.2.2.2; clear h1; go_wp2_with fail
 refine (eok_byte (v := x.oc) H1.out (Nat.le_trans (Nat.le_add_right _ _) HL.out.2.1)).mono ?_; rintro e w2 ⟨rfl, h2⟩; clear q0 q1 q2 q3 q4 q5 q6; have H2 : Hid (EOk wa w2 A b o ((bs ++ eTxn (x.id, x.home)) ++ eB x.oc)) := H1.out.step h2; have q0 := H2.out.cel.cell (.inl hne) HQ.out.1; have q1 := H2.out.cel.cell (.inl hne) HQ.out.2.1; have q2 := H2.out.cel.cell (.inl hne) HQ.out.2.2.1; have q3 := H2.out.cel.cell (.inl hne) HQ.out.2.2.2.1; have q4 := H2.out.cel.cell (.inl hne) HQ.out.2.2.2.2.1; have q5 := H2.out.cel.cell (.inl hne) HQ.out.2.2.2.2.2.1; have q6 := H2.out.cel.cell (.inl hne) HQ.out.2.2.2.2.2.2; clear h2; go_wp2_with fail
 refine (eok_stamp (s := atEn x) H2.out ho.2 (Nat.le_trans (Nat.le_add_right _ _) HL.out.2.2)).mono ?_; rintro e w3 ⟨rfl, h3⟩; clear q0 q1 q2 q3 q4 q5 q6; have H3 : Hid (EOk wa w3 A b o (((bs ++ eTxn (x.id, x.home)) ++ eB x.oc) ++ eS (atEn x))) := H2.out.step h3; have q0 := H3.out.cel.cell (.inl hne) HQ.out.1; have q1 := H3.out.cel.cell (.inl hne) HQ.out.2.1; have q2 := H3.out.cel.cell (.inl hne) HQ.out.2.2.1; have q3 := H3.out.cel.cell (.inl hne) HQ.out.2.2.2.1; have q4 := H3.out.cel.cell (.inl hne) HQ.out.2.2.2.2.1; have q5 := H3.out.cel.cell (.inl hne) HQ.out.2.2.2.2.2.1; have q6 := H3.out.cel.cell (.inl hne) HQ.out.2.2.2.2.2.2; clear h3; go_wp2_with fail
 go_end0
 refine ⟨rfl, ?_⟩; have h9 := (HH.out.refl.later HB.out).step H3.out; simp only [List.append_assoc] at h9; exact h9
theorem putSpans_is_take {xs : List T2} {k : Nat} {x : T2} (h : xs[k]? = some x) : (xs.take (k + 1)).flatMap eSpan = (xs.take k).flatMap eSpan ++ eSpan x := by
 obtain ⟨hk, e⟩ := List.getElem?_eq_some_iff.1 h; rw [List.take_succ_eq_append_getElem hk, List.flatMap_append, e]; simp
theorem putSpans_is {w0 w : World} {A : Nat → Prop} {b o : Nat} {bs : List Nat} {a : Option Addr} {c : Nat} {xs : List T2} (h : EOk w0 w A b o bs) (hr : RowG c2 2 w a xs) (ha : ∀ q off, a = some ⟨q, off, none⟩ → q ≠ b)  (hl : bs.length + (eL eSpan xs).length ≤ 4611686018427387904) (hn : xs.length ≤ 4611686018427387904) :
  Calls Tryz.prog 67 #[.pointer (some ⟨b, o, none⟩), .slice a xs.length c, .func (.func 68) #[] #[]] w fun e w' => e = .returned (.tuple #[]) ∧ EOk w w' A b o (bs ++ eL eSpan xs) := by
 have hw : IntKind.u64.wrap (xs.length : Int) = (xs.length : Int) := by rw [IntKind.wrap_u64]; omega
 have hE : eL eSpan xs = vb xs.length ++ xs.flatMap eSpan := rfl; rw [hE, List.length_append] at hl; have V : Hid (Calls Tryz.prog 27 #[.pointer (some ⟨b, o, none⟩), .int .u64 (xs.length : Int)] w fun e w' => e = .returned (.tuple #[]) ∧ EOk w w' A b o (bs ++ vb xs.length)) := eok_var (v := (xs.length : Int)) h ⟨by omega, by omega⟩ (by omega); have HR := hid hr; have HN := hid ha; have HX : Hid (True) := trivial; have HL := hid hl; clear h hr ha hE hl ; go_enter Tryz.func67, Tryz.ntmps67
 go_wp2_with fail
 refine V.out.mono ?_; rintro e w1 ⟨rfl, h1⟩; have H1 := hid h1; clear h1; go_wp2_with fail
 go_loopg [15] xs.length (fun g s wr => ∃ k : Nat, k ≤ xs.length ∧ g = xs.length - k ∧ s = .int .i64 (k : Int) ∧ Hid (EOk w wr A b o (bs ++ vb xs.length ++ (xs.take k).flatMap eSpan)))
 case atStart => exact ⟨0, by omega, by omega, rfl, hid (by simpa using H1.out)⟩
 case round =>
  obtain ⟨k, hk, rfl, rfl, HH⟩ := hrel; clear H1 V; by_cases hlt : k < xs.length
  ·have e1 : decide ((k : Int) < (xs.length : Int)) = true := by simp; omega
   obtain ⟨x, hx⟩ : ∃ x, xs[k]? = some x := ⟨_, List.getElem?_eq_getElem hlt⟩; obtain ⟨q, off, rfl, hc⟩ := (HR.out.keep HH.out.cel HN.out) k x hx; have c0 := hc 0 _ rfl; have c1 := hc 1 _ rfl; simp only [Nat.add_zero] at c0; have hflat := putSpans_is_take hx; have hpre : ((xs.take (k + 1)).flatMap eSpan).length ≤ (xs.flatMap eSpan).length := by
    conv => rhs; rw [← List.take_append_drop (k + 1) xs, List.flatMap_append, List.length_append]
    omega
   have HLL : Hid ((bs ++ vb xs.length ++ (xs.take k).flatMap eSpan).length + (eSpan x).length ≤ 4611686018427387904) := (by
    show (bs ++ vb xs.length ++ (xs.take k).flatMap eSpan).length + (eSpan x).length ≤ 4611686018427387904
    have := HL.out; rw [hflat, List.length_append] at hpre; simp only [List.length_append]; omega)
   have HF := hid hflat; have hxm : x ∈ xs := List.mem_of_getElem? hx; have PC : Hid (∀ W, EOk w W A b o (bs ++ vb xs.length ++ (xs.take k).flatMap eSpan) → Calls Tryz.prog 68 #[.pointer (some ⟨b, o, none⟩), .agg #[.string x.1, .string x.2]] W fun e w' => e = .returned (.tuple #[]) ∧ EOk W w' A b o (bs ++ vb xs.length ++ (xs.take k).flatMap eSpan ++ eSpan x)) := fun W HW  => putSpan_is HW HLL.out
   clear hflat hpre hc hx hxm; go_wp2_with fail
   refine (PC.out _ (HH.out.al _) ).mono ?_; rintro e w2 ⟨rfl, h2⟩; have H2 := hid ((HH.out.al _).step h2); clear h2 PC; go_wp2_with fail
   go_roundg (xs.length - (k + 1))
   case measure => omega
   case rel =>
    refine ⟨k + 1, by omega, rfl, by go_num, ?_⟩; have := H2.out; rw [List.append_assoc, ← HF.out] at this; exact this
  ·obtain rfl : k = xs.length := by omega
   clear hlt hk; go_wp2_with fail
   go_end0
   refine ⟨rfl, ?_⟩; have := HH.out; rw [List.take_of_length_le (Nat.le_refl _)] at this; show EOk w _ A b o (bs ++ (vb xs.length ++ xs.flatMap eSpan))
   rw [← List.append_assoc]; exact this
theorem putWrites_is_take {xs : List Wr} {k : Nat} {x : Wr} (h : xs[k]? = some x) : (xs.take (k + 1)).flatMap eWrite = (xs.take k).flatMap eWrite ++ eWrite x := by
 obtain ⟨hk, e⟩ := List.getElem?_eq_some_iff.1 h; rw [List.take_succ_eq_append_getElem hk, List.flatMap_append, e]; simp
theorem putWrites_is {w0 w : World} {A : Nat → Prop} {b o : Nat} {bs : List Nat} {a : Option Addr} {c : Nat} {xs : List Wr} (h : EOk w0 w A b o bs) (hr : RowG c3 3 w a xs) (ha : ∀ q off, a = some ⟨q, off, none⟩ → q ≠ b)  (hl : bs.length + (eL eWrite xs).length ≤ 4611686018427387904) (hn : xs.length ≤ 4611686018427387904) :
  Calls Tryz.prog 69 #[.pointer (some ⟨b, o, none⟩), .slice a xs.length c, .func (.func 70) #[] #[]] w fun e w' => e = .returned (.tuple #[]) ∧ EOk w w' A b o (bs ++ eL eWrite xs) := by
 have hw : IntKind.u64.wrap (xs.length : Int) = (xs.length : Int) := by rw [IntKind.wrap_u64]; omega
 have hE : eL eWrite xs = vb xs.length ++ xs.flatMap eWrite := rfl; rw [hE, List.length_append] at hl; have V : Hid (Calls Tryz.prog 27 #[.pointer (some ⟨b, o, none⟩), .int .u64 (xs.length : Int)] w fun e w' => e = .returned (.tuple #[]) ∧ EOk w w' A b o (bs ++ vb xs.length)) := eok_var (v := (xs.length : Int)) h ⟨by omega, by omega⟩ (by omega); have HR := hid hr; have HN := hid ha; have HX : Hid (True) := trivial; have HL := hid hl; clear h hr ha hE hl ; go_enter Tryz.func69, Tryz.ntmps69
 go_wp2_with fail
 refine V.out.mono ?_; rintro e w1 ⟨rfl, h1⟩; have H1 := hid h1; clear h1; go_wp2_with fail
 go_loopg [15] xs.length (fun g s wr => ∃ k : Nat, k ≤ xs.length ∧ g = xs.length - k ∧ s = .int .i64 (k : Int) ∧ Hid (EOk w wr A b o (bs ++ vb xs.length ++ (xs.take k).flatMap eWrite)))
 case atStart => exact ⟨0, by omega, by omega, rfl, hid (by simpa using H1.out)⟩
 case round =>
  obtain ⟨k, hk, rfl, rfl, HH⟩ := hrel; clear H1 V; by_cases hlt : k < xs.length
  ·have e1 : decide ((k : Int) < (xs.length : Int)) = true := by simp; omega
   obtain ⟨x, hx⟩ : ∃ x, xs[k]? = some x := ⟨_, List.getElem?_eq_getElem hlt⟩; obtain ⟨q, off, rfl, hc⟩ := (HR.out.keep HH.out.cel HN.out) k x hx; have c0 := hc 0 _ rfl; have c1 := hc 1 _ rfl; have c2 := hc 2 _ rfl; simp only [Nat.add_zero] at c0; have hflat := putWrites_is_take hx; have hpre : ((xs.take (k + 1)).flatMap eWrite).length ≤ (xs.flatMap eWrite).length := by
    conv => rhs; rw [← List.take_append_drop (k + 1) xs, List.flatMap_append, List.length_append]
    omega
   have HLL : Hid ((bs ++ vb xs.length ++ (xs.take k).flatMap eWrite).length + (eWrite x).length ≤ 4611686018427387904) := (by
    show (bs ++ vb xs.length ++ (xs.take k).flatMap eWrite).length + (eWrite x).length ≤ 4611686018427387904
    have := HL.out; rw [hflat, List.length_append] at hpre; simp only [List.length_append]; omega)
   have HF := hid hflat; have hxm : x ∈ xs := List.mem_of_getElem? hx; have PC : Hid (∀ W, EOk w W A b o (bs ++ vb xs.length ++ (xs.take k).flatMap eWrite) → Calls Tryz.prog 70 #[.pointer (some ⟨b, o, none⟩), .agg #[.string x.key, .bool x.del, .string x.val]] W fun e w' => e = .returned (.tuple #[]) ∧ EOk W w' A b o (bs ++ vb xs.length ++ (xs.take k).flatMap eWrite ++ eWrite x)) := fun W HW  => putWrite_is HW HLL.out
   clear hflat hpre hc hx hxm; go_wp2_with fail
   refine (PC.out _ (HH.out.al _) ).mono ?_; rintro e w2 ⟨rfl, h2⟩; have H2 := hid ((HH.out.al _).step h2); clear h2 PC; go_wp2_with fail
   go_roundg (xs.length - (k + 1))
   case measure => omega
   case rel =>
    refine ⟨k + 1, by omega, rfl, by go_num, ?_⟩; have := H2.out; rw [List.append_assoc, ← HF.out] at this; exact this
  ·obtain rfl : k = xs.length := by omega
   clear hlt hk; go_wp2_with fail
   go_end0
   refine ⟨rfl, ?_⟩; have := HH.out; rw [List.take_of_length_le (Nat.le_refl _)] at this; show EOk w _ A b o (bs ++ (vb xs.length ++ xs.flatMap eWrite))
   rw [← List.append_assoc]; exact this
theorem putVersions_is_take {xs : List Vs.Kv} {k : Nat} {x : Vs.Kv} (h : xs[k]? = some x) : (xs.take (k + 1)).flatMap eVersion = (xs.take k).flatMap eVersion ++ eVersion x := by
 obtain ⟨hk, e⟩ := List.getElem?_eq_some_iff.1 h; rw [List.take_succ_eq_append_getElem hk, List.flatMap_append, e]; simp
theorem putVersions_is {w0 w : World} {A : Nat → Prop} {b o : Nat} {bs : List Nat} {a : Option Addr} {c : Nat} {xs : List Vs.Kv} (h : EOk w0 w A b o bs) (hr : RowG c6 6 w a xs) (ha : ∀ q off, a = some ⟨q, off, none⟩ → q ≠ b) (hok : ∀ x ∈ xs, okS x.2.s) (hl : bs.length + (eL eVersion xs).length ≤ 4611686018427387904) (hn : xs.length ≤ 4611686018427387904) :
  Calls Tryz.prog 35 #[.pointer (some ⟨b, o, none⟩), .slice a xs.length c, .func (.func 37) #[] #[]] w fun e w' => e = .returned (.tuple #[]) ∧ EOk w w' A b o (bs ++ eL eVersion xs) := by
 have hw : IntKind.u64.wrap (xs.length : Int) = (xs.length : Int) := by rw [IntKind.wrap_u64]; omega
 have hE : eL eVersion xs = vb xs.length ++ xs.flatMap eVersion := rfl; rw [hE, List.length_append] at hl; have V : Hid (Calls Tryz.prog 27 #[.pointer (some ⟨b, o, none⟩), .int .u64 (xs.length : Int)] w fun e w' => e = .returned (.tuple #[]) ∧ EOk w w' A b o (bs ++ vb xs.length)) := eok_var (v := (xs.length : Int)) h ⟨by omega, by omega⟩ (by omega); have HR := hid hr; have HN := hid ha; have HX : Hid (∀ x ∈ xs, okS x.2.s) := hok; have HL := hid hl; clear h hr ha hE hl hok; go_enter Tryz.func35, Tryz.ntmps35
 go_wp2_with fail
 refine V.out.mono ?_; rintro e w1 ⟨rfl, h1⟩; have H1 := hid h1; clear h1; go_wp2_with fail
 go_loopg [15] xs.length (fun g s wr => ∃ k : Nat, k ≤ xs.length ∧ g = xs.length - k ∧ s = .int .i64 (k : Int) ∧ Hid (EOk w wr A b o (bs ++ vb xs.length ++ (xs.take k).flatMap eVersion)))
 case atStart => exact ⟨0, by omega, by omega, rfl, hid (by simpa using H1.out)⟩
 case round =>
  obtain ⟨k, hk, rfl, rfl, HH⟩ := hrel; clear H1 V; by_cases hlt : k < xs.length
  ·have e1 : decide ((k : Int) < (xs.length : Int)) = true := by simp; omega
   obtain ⟨x, hx⟩ : ∃ x, xs[k]? = some x := ⟨_, List.getElem?_eq_getElem hlt⟩; obtain ⟨q, off, rfl, hc⟩ := (HR.out.keep HH.out.cel HN.out) k x hx; have c0 := hc 0 _ rfl; have c1 := hc 1 _ rfl; have c2 := hc 2 _ rfl; have c3 := hc 3 _ rfl; have c4 := hc 4 _ rfl; have c5 := hc 5 _ rfl; simp only [Nat.add_zero] at c0; have hflat := putVersions_is_take hx; have hpre : ((xs.take (k + 1)).flatMap eVersion).length ≤ (xs.flatMap eVersion).length := by
    conv => rhs; rw [← List.take_append_drop (k + 1) xs, List.flatMap_append, List.length_append]
    omega
   have HLL : Hid ((bs ++ vb xs.length ++ (xs.take k).flatMap eVersion).length + (eVersion x).length ≤ 4611686018427387904) := (by
    show (bs ++ vb xs.length ++ (xs.take k).flatMap eVersion).length + (eVersion x).length ≤ 4611686018427387904
    have := HL.out; rw [hflat, List.length_append] at hpre; simp only [List.length_append]; omega)
   have HF := hid hflat; have hxm : x ∈ xs := List.mem_of_getElem? hx; have PC : Hid (∀ W, EOk w W A b o (bs ++ vb xs.length ++ (xs.take k).flatMap eVersion) → Calls Tryz.prog 37 #[.pointer (some ⟨b, o, none⟩), .agg #[.string x.1, .int .u64 x.2.s.a, .int .u32 x.2.s.b, .int .u32 x.2.s.c, .bool x.2.del, .string x.2.val]] W fun e w' => e = .returned (.tuple #[]) ∧ EOk W w' A b o (bs ++ vb xs.length ++ (xs.take k).flatMap eVersion ++ eVersion x)) := fun W HW  => putVersion_is HW (HX.out x hxm) HLL.out
   clear hflat hpre hc hx hxm; go_wp2_with fail
   refine (PC.out _ (HH.out.al _) ).mono ?_; rintro e w2 ⟨rfl, h2⟩; have H2 := hid ((HH.out.al _).step h2); clear h2 PC; go_wp2_with fail
   go_roundg (xs.length - (k + 1))
   case measure => omega
   case rel =>
    refine ⟨k + 1, by omega, rfl, by go_num, ?_⟩; have := H2.out; rw [List.append_assoc, ← HF.out] at this; exact this
  ·obtain rfl : k = xs.length := by omega
   clear hlt hk; go_wp2_with fail
   go_end0
   refine ⟨rfl, ?_⟩; have := HH.out; rw [List.take_of_length_le (Nat.le_refl _)] at this; show EOk w _ A b o (bs ++ (vb xs.length ++ xs.flatMap eVersion))
   rw [← List.append_assoc]; exact this
theorem putEntries_is_take {xs : List Lg.En} {k : Nat} {x : Lg.En} (h : xs[k]? = some x) : (xs.take (k + 1)).flatMap eEntry = (xs.take k).flatMap eEntry ++ eEntry x := by
 obtain ⟨hk, e⟩ := List.getElem?_eq_some_iff.1 h; rw [List.take_succ_eq_append_getElem hk, List.flatMap_append, e]; simp
theorem putEntries_is {w0 w : World} {A : Nat → Prop} {b o : Nat} {bs : List Nat} {a : Option Addr} {c : Nat} {xs : List Lg.En} (h : EOk w0 w A b o bs) (hr : RowG Lg.ecs 7 w a xs) (ha : ∀ q off, a = some ⟨q, off, none⟩ → q ≠ b) (hok : ∀ x ∈ xs, okTxn (x.id, x.home) ∧ okS (atEn x)) (hl : bs.length + (eL eEntry xs).length ≤ 4611686018427387904) (hn : xs.length ≤ 4611686018427387904) :
  Calls Tryz.prog 32 #[.pointer (some ⟨b, o, none⟩), .slice a xs.length c, .func (.func 34) #[] #[]] w fun e w' => e = .returned (.tuple #[]) ∧ EOk w w' A b o (bs ++ eL eEntry xs) := by
 have hw : IntKind.u64.wrap (xs.length : Int) = (xs.length : Int) := by rw [IntKind.wrap_u64]; omega
 have hE : eL eEntry xs = vb xs.length ++ xs.flatMap eEntry := rfl; rw [hE, List.length_append] at hl; have V : Hid (Calls Tryz.prog 27 #[.pointer (some ⟨b, o, none⟩), .int .u64 (xs.length : Int)] w fun e w' => e = .returned (.tuple #[]) ∧ EOk w w' A b o (bs ++ vb xs.length)) := eok_var (v := (xs.length : Int)) h ⟨by omega, by omega⟩ (by omega); have HR := hid hr; have HN := hid ha; have HX : Hid (∀ x ∈ xs, okTxn (x.id, x.home) ∧ okS (atEn x)) := hok; have HL := hid hl; clear h hr ha hE hl hok; go_enter Tryz.func32, Tryz.ntmps32
 go_wp2_with fail
 refine V.out.mono ?_; rintro e w1 ⟨rfl, h1⟩; have H1 := hid h1; clear h1; go_wp2_with fail
 go_loopg [15] xs.length (fun g s wr => ∃ k : Nat, k ≤ xs.length ∧ g = xs.length - k ∧ s = .int .i64 (k : Int) ∧ Hid (EOk w wr A b o (bs ++ vb xs.length ++ (xs.take k).flatMap eEntry)))
 case atStart => exact ⟨0, by omega, by omega, rfl, hid (by simpa using H1.out)⟩
 case round =>
  obtain ⟨k, hk, rfl, rfl, HH⟩ := hrel; clear H1 V; by_cases hlt : k < xs.length
  ·have e1 : decide ((k : Int) < (xs.length : Int)) = true := by simp; omega
   obtain ⟨x, hx⟩ : ∃ x, xs[k]? = some x := ⟨_, List.getElem?_eq_getElem hlt⟩; obtain ⟨q, off, rfl, hc⟩ := (HR.out.keep HH.out.cel HN.out) k x hx; have c0 := hc 0 _ rfl; have c1 := hc 1 _ rfl; have c2 := hc 2 _ rfl; have c3 := hc 3 _ rfl; have c4 := hc 4 _ rfl; have c5 := hc 5 _ rfl; have c6 := hc 6 _ rfl; simp only [Nat.add_zero] at c0; have hflat := putEntries_is_take hx; have hpre : ((xs.take (k + 1)).flatMap eEntry).length ≤ (xs.flatMap eEntry).length := by
    conv => rhs; rw [← List.take_append_drop (k + 1) xs, List.flatMap_append, List.length_append]
    omega
   have HLL : Hid ((bs ++ vb xs.length ++ (xs.take k).flatMap eEntry).length + (eEntry x).length ≤ 4611686018427387904) := (by
    show (bs ++ vb xs.length ++ (xs.take k).flatMap eEntry).length + (eEntry x).length ≤ 4611686018427387904
    have := HL.out; rw [hflat, List.length_append] at hpre; simp only [List.length_append]; omega)
   have HF := hid hflat; have hxm : x ∈ xs := List.mem_of_getElem? hx; have PC : Hid (∀ W, EOk w W A b o (bs ++ vb xs.length ++ (xs.take k).flatMap eEntry) → Calls Tryz.prog 34 #[.pointer (some ⟨b, o, none⟩), .agg #[.int .u32 x.id.1, .int .u32 x.id.2, .int .u32 x.home, .int .i64 x.oc, .int .u64 x.w, .int .u32 x.l, .int .u32 x.n]] W fun e w' => e = .returned (.tuple #[]) ∧ EOk W w' A b o (bs ++ vb xs.length ++ (xs.take k).flatMap eEntry ++ eEntry x)) := fun W HW  => putEntry_is HW (HX.out x hxm) HLL.out
   clear hflat hpre hc hx hxm; go_wp2_with fail
   refine (PC.out _ (HH.out.al _) ).mono ?_; rintro e w2 ⟨rfl, h2⟩; have H2 := hid ((HH.out.al _).step h2); clear h2 PC; go_wp2_with fail
   go_roundg (xs.length - (k + 1))
   case measure => omega
   case rel =>
    refine ⟨k + 1, by omega, rfl, by go_num, ?_⟩; have := H2.out; rw [List.append_assoc, ← HF.out] at this; exact this
  ·obtain rfl : k = xs.length := by omega
   clear hlt hk; go_wp2_with fail
   go_end0
   refine ⟨rfl, ?_⟩; have := HH.out; rw [List.take_of_length_le (Nat.le_refl _)] at this; show EOk w _ A b o (bs ++ (vb xs.length ++ xs.flatMap eEntry))
   rw [← List.append_assoc]; exact this
structure HvRd (b : Nat) (w : World) (v : Lk.Hv) : Prop where
 r : RowG c2 2 w v.ra v.h.rs
 w : RowG c3 3 w v.wa v.h.ws
 rn : ∀ q off, v.ra = some ⟨q, off, none⟩ → q ≠ b
 wn : ∀ q off, v.wa = some ⟨q, off, none⟩ → q ≠ b
 ok : okTxn (v.h.id, v.h.home) ∧ okS (atHd v.h)
 ln : v.h.rs.length ≤ 4611686018427387904 ∧ v.h.ws.length ≤ 4611686018427387904
theorem HvRd.keep {b o : Nat} {w w' : World} {v : Lk.Hv} (h : HvRd b w v) (k : Cel b o 2 w w') : HvRd b w' v := ⟨h.r.keep k h.rn, h.w.keep k h.wn, h.rn, h.wn, h.ok, h.ln⟩
theorem HvRd.later {b : Nat} {w w' : World} {v : Lk.Hv} (h : HvRd b w v) (k : Below w.heap.size w w') : HvRd b w' v := ⟨h.r.later k, h.w.later k, h.rn, h.wn, h.ok, h.ln⟩
def eHv (v : Lk.Hv) : List Nat := eHeld v.h
theorem putHeld_is {w0 w : World} {A : Nat → Prop} {b o : Nat} {bs : List Nat} {v : Lk.Hv} (h : EOk w0 w A b o bs) (hv : HvRd b w v) (hl : bs.length + (eHv v).length ≤ 4611686018427387904) :
  Calls Tryz.prog 31 #[.pointer (some ⟨b, o, none⟩), .agg #[.int .u32 v.h.id.1, .int .u32 v.h.id.2, .int .u32 v.h.home, .int .u64 v.h.w, .int .u32 v.h.l, .int .u32 v.h.n, .slice v.ra v.h.rs.length v.rc, .slice v.wa v.h.ws.length v.wc]] w fun e w' => e = .returned (.tuple #[]) ∧ EOk w w' A b o (bs ++ eHv v) := by
 have hE : eHv v = eTxn (v.h.id, v.h.home) ++ (eS (atHd v.h) ++ (eL eSpan v.h.rs ++ (eL eWrite v.h.ws))) := rfl; rw [hE] at hl; simp only [List.length_append] at hl; have HL : Hid (bs.length + (eTxn (v.h.id, v.h.home)).length ≤ 4611686018427387904 ∧ (bs ++ eTxn (v.h.id, v.h.home)).length + (eS (atHd v.h)).length ≤ 4611686018427387904 ∧ ((bs ++ eTxn (v.h.id, v.h.home)) ++ eS (atHd v.h)).length + (eL eSpan v.h.rs).length ≤ 4611686018427387904 ∧ (((bs ++ eTxn (v.h.id, v.h.home)) ++ eS (atHd v.h)) ++ eL eSpan v.h.rs).length + (eL eWrite v.h.ws).length ≤ 4611686018427387904) := by
  show _ ∧ _
  simp only [List.length_append]; refine ⟨?_, ?_, ?_, ?_⟩ <;> omega
 obtain ⟨wa, hwa⟩ : ∃ wa, wa = w.alloc (.cells #[.int .u32 v.h.id.1, .int .u32 v.h.id.2, .int .u32 v.h.home, .int .u64 v.h.w, .int .u32 v.h.l, .int .u32 v.h.n, .slice v.ra v.h.rs.length v.rc, .slice v.wa v.h.ws.length v.wc] 52) := ⟨_, rfl⟩; have hba : Below w.heap.size w wa := by rw [hwa]; exact Below.al (Below.refl _ _) _
 have kx : wa.heap[w.heap.size]? = some (.cells #[.int .u32 v.h.id.1, .int .u32 v.h.id.2, .int .u32 v.h.home, .int .u64 v.h.w, .int .u32 v.h.l, .int .u32 v.h.n, .slice v.ra v.h.rs.length v.rc, .slice v.wa v.h.ws.length v.wc] 52 (0, 0)) := by rw [hwa]; exact World.alloc_heap_new _ _
 have q0 : wa.cell? ⟨w.heap.size, 0, none⟩ = some (.int .u32 v.h.id.1) := Vs.cell_of_obj kx rfl; have q1 : wa.cell? ⟨w.heap.size, 1, none⟩ = some (.int .u32 v.h.id.2) := Vs.cell_of_obj kx rfl; have q2 : wa.cell? ⟨w.heap.size, 2, none⟩ = some (.int .u32 v.h.home) := Vs.cell_of_obj kx rfl; have q3 : wa.cell? ⟨w.heap.size, 3, none⟩ = some (.int .u64 v.h.w) := Vs.cell_of_obj kx rfl; have q4 : wa.cell? ⟨w.heap.size, 4, none⟩ = some (.int .u32 v.h.l) := Vs.cell_of_obj kx rfl; have q5 : wa.cell? ⟨w.heap.size, 5, none⟩ = some (.int .u32 v.h.n) := Vs.cell_of_obj kx rfl; have q6 : wa.cell? ⟨w.heap.size, 6, none⟩ = some (.slice v.ra v.h.rs.length v.rc) := Vs.cell_of_obj kx rfl; have q7 : wa.cell? ⟨w.heap.size, 7, none⟩ = some (.slice v.wa v.h.ws.length v.wc) := Vs.cell_of_obj kx rfl; have hne : w.heap.size ≠ b := by have := h.lt; omega
 have HQ : Hid (wa.cell? ⟨w.heap.size, 0, none⟩ = some (.int .u32 v.h.id.1) ∧ wa.cell? ⟨w.heap.size, 1, none⟩ = some (.int .u32 v.h.id.2) ∧ wa.cell? ⟨w.heap.size, 2, none⟩ = some (.int .u32 v.h.home) ∧ wa.cell? ⟨w.heap.size, 3, none⟩ = some (.int .u64 v.h.w) ∧ wa.cell? ⟨w.heap.size, 4, none⟩ = some (.int .u32 v.h.l) ∧ wa.cell? ⟨w.heap.size, 5, none⟩ = some (.int .u32 v.h.n) ∧ wa.cell? ⟨w.heap.size, 6, none⟩ = some (.slice v.ra v.h.rs.length v.rc) ∧ wa.cell? ⟨w.heap.size, 7, none⟩ = some (.slice v.wa v.h.ws.length v.wc)) := ⟨q0, q1, q2, q3, q4, q5, q6, q7⟩; have H0 : Hid (EOk wa wa A b o bs) := (h.later hba).refl; have HB := hid hba; have HH := hid h; have HV : Hid (HvRd b wa v) := hv.later hba; clear hv; clear h hba kx hE hl; go_enter Tryz.func31, Tryz.ntmps31
 go_wp2_with fail
 rw [← hwa]; clear hwa; refine (putTransaction_is (i := v.h.id) (m := v.h.home) H0.out HV.out.ok.1 HL.out.1).mono ?_; rintro e w1 ⟨rfl, h1⟩; clear q0 q1 q2 q3 q4 q5 q6 q7; have H1 : Hid (EOk wa w1 A b o (bs ++ eTxn (v.h.id, v.h.home))) := H0.out.step h1; have q0 := H1.out.cel.cell (.inl hne) HQ.out.1; have q1 := H1.out.cel.cell (.inl hne) HQ.out.2.1; have q2 := H1.out.cel.cell (.inl hne) HQ.out.2.2.1; have q3 := H1.out.cel.cell (.inl hne) HQ.out.2.2.2.1; have q4 := H1.out.cel.cell (.inl hne) HQ.out.2.2.2.2.1; have q5 := H1.out.cel.cell (.inl hne) HQ.out.2.2.2.2.2.1; have q6 := H1.out.cel.cell (.inl hne) HQ.out.2.2.2.2.2.2.1; have q7 := H1.out.cel.cell (.inl hne) HQ.out.2.2.2.2.2.2.2; clear h1; go_wp2_with fail
 refine (eok_stamp (s := atHd v.h) H1.out HV.out.ok.2 (Nat.le_trans (Nat.le_add_right _ _) HL.out.2.1)).mono ?_; rintro e w2 ⟨rfl, h2⟩; clear q0 q1 q2 q3 q4 q5 q6 q7; have H2 : Hid (EOk wa w2 A b o ((bs ++ eTxn (v.h.id, v.h.home)) ++ eS (atHd v.h))) := H1.out.step h2; have q0 := H2.out.cel.cell (.inl hne) HQ.out.1; have q1 := H2.out.cel.cell (.inl hne) HQ.out.2.1; have q2 := H2.out.cel.cell (.inl hne) HQ.out.2.2.1; have q3 := H2.out.cel.cell (.inl hne) HQ.out.2.2.2.1; have q4 := H2.out.cel.cell (.inl hne) HQ.out.2.2.2.2.1; have q5 := H2.out.cel.cell (.inl hne) HQ.out.2.2.2.2.2.1; have q6 := H2.out.cel.cell (.inl hne) HQ.out.2.2.2.2.2.2.1; have q7 := H2.out.cel.cell (.inl hne) HQ.out.2.2.2.2.2.2.2; clear h2; go_wp2_with fail
 refine (putSpans_is (c := v.rc) H2.out (HV.out.keep H2.out.cel).r HV.out.rn HL.out.2.2.1 HV.out.ln.1).mono ?_; rintro e w3 ⟨rfl, h3⟩; clear q0 q1 q2 q3 q4 q5 q6 q7; have H3 : Hid (EOk wa w3 A b o (((bs ++ eTxn (v.h.id, v.h.home)) ++ eS (atHd v.h)) ++ eL eSpan v.h.rs)) := H2.out.step h3; have q0 := H3.out.cel.cell (.inl hne) HQ.out.1; have q1 := H3.out.cel.cell (.inl hne) HQ.out.2.1; have q2 := H3.out.cel.cell (.inl hne) HQ.out.2.2.1; have q3 := H3.out.cel.cell (.inl hne) HQ.out.2.2.2.1; have q4 := H3.out.cel.cell (.inl hne) HQ.out.2.2.2.2.1; have q5 := H3.out.cel.cell (.inl hne) HQ.out.2.2.2.2.2.1; have q6 := H3.out.cel.cell (.inl hne) HQ.out.2.2.2.2.2.2.1; have q7 := H3.out.cel.cell (.inl hne) HQ.out.2.2.2.2.2.2.2; clear h3; go_wp2_with fail
 refine (putWrites_is (c := v.wc) H3.out (HV.out.keep H3.out.cel).w HV.out.wn HL.out.2.2.2 HV.out.ln.2).mono ?_; rintro e w4 ⟨rfl, h4⟩; clear q0 q1 q2 q3 q4 q5 q6 q7; have H4 : Hid (EOk wa w4 A b o ((((bs ++ eTxn (v.h.id, v.h.home)) ++ eS (atHd v.h)) ++ eL eSpan v.h.rs) ++ eL eWrite v.h.ws)) := H3.out.step h4; have q0 := H4.out.cel.cell (.inl hne) HQ.out.1; have q1 := H4.out.cel.cell (.inl hne) HQ.out.2.1; have q2 := H4.out.cel.cell (.inl hne) HQ.out.2.2.1; have q3 := H4.out.cel.cell (.inl hne) HQ.out.2.2.2.1; have q4 := H4.out.cel.cell (.inl hne) HQ.out.2.2.2.2.1; have q5 := H4.out.cel.cell (.inl hne) HQ.out.2.2.2.2.2.1; have q6 := H4.out.cel.cell (.inl hne) HQ.out.2.2.2.2.2.2.1; have q7 := H4.out.cel.cell (.inl hne) HQ.out.2.2.2.2.2.2.2; clear h4; go_wp2_with fail
 go_end0
 refine ⟨rfl, ?_⟩; have h9 := (HH.out.refl.later HB.out).step H4.out; simp only [List.append_assoc] at h9; exact h9
theorem putHelds_is_take {xs : List Lk.Hv} {k : Nat} {x : Lk.Hv} (h : xs[k]? = some x) : (xs.take (k + 1)).flatMap eHv = (xs.take k).flatMap eHv ++ eHv x := by
 obtain ⟨hk, e⟩ := List.getElem?_eq_some_iff.1 h; rw [List.take_succ_eq_append_getElem hk, List.flatMap_append, e]; simp
theorem putHelds_is {w0 w : World} {A : Nat → Prop} {b o : Nat} {bs : List Nat} {a : Option Addr} {c : Nat} {xs : List Lk.Hv} (h : EOk w0 w A b o bs) (hr : RowG Lk.hcs 8 w a xs) (ha : ∀ q off, a = some ⟨q, off, none⟩ → q ≠ b) (hok : ∀ x ∈ xs, HvRd b w x) (hl : bs.length + (eL eHv xs).length ≤ 4611686018427387904) (hn : xs.length ≤ 4611686018427387904) :
  Calls Tryz.prog 30 #[.pointer (some ⟨b, o, none⟩), .slice a xs.length c, .func (.func 31) #[] #[]] w fun e w' => e = .returned (.tuple #[]) ∧ EOk w w' A b o (bs ++ eL eHv xs) := by
 have hw : IntKind.u64.wrap (xs.length : Int) = (xs.length : Int) := by rw [IntKind.wrap_u64]; omega
 have hE : eL eHv xs = vb xs.length ++ xs.flatMap eHv := rfl; rw [hE, List.length_append] at hl; have V : Hid (Calls Tryz.prog 27 #[.pointer (some ⟨b, o, none⟩), .int .u64 (xs.length : Int)] w fun e w' => e = .returned (.tuple #[]) ∧ EOk w w' A b o (bs ++ vb xs.length)) := eok_var (v := (xs.length : Int)) h ⟨by omega, by omega⟩ (by omega); have HR := hid hr; have HN := hid ha; have HX : Hid (∀ x ∈ xs, HvRd b w x) := hok; have HL := hid hl; clear h hr ha hE hl hok; go_enter Tryz.func30, Tryz.ntmps30
 go_wp2_with fail
 refine V.out.mono ?_; rintro e w1 ⟨rfl, h1⟩; have H1 := hid h1; clear h1; go_wp2_with fail
 go_loopg [15] xs.length (fun g s wr => ∃ k : Nat, k ≤ xs.length ∧ g = xs.length - k ∧ s = .int .i64 (k : Int) ∧ Hid (EOk w wr A b o (bs ++ vb xs.length ++ (xs.take k).flatMap eHv)))
 case atStart => exact ⟨0, by omega, by omega, rfl, hid (by simpa using H1.out)⟩
 case round =>
  obtain ⟨k, hk, rfl, rfl, HH⟩ := hrel; clear H1 V; by_cases hlt : k < xs.length
  ·have e1 : decide ((k : Int) < (xs.length : Int)) = true := by simp; omega
   obtain ⟨x, hx⟩ : ∃ x, xs[k]? = some x := ⟨_, List.getElem?_eq_getElem hlt⟩; obtain ⟨q, off, rfl, hc⟩ := (HR.out.keep HH.out.cel HN.out) k x hx; have c0 := hc 0 _ rfl; have c1 := hc 1 _ rfl; have c2 := hc 2 _ rfl; have c3 := hc 3 _ rfl; have c4 := hc 4 _ rfl; have c5 := hc 5 _ rfl; have c6 := hc 6 _ rfl; have c7 := hc 7 _ rfl; simp only [Nat.add_zero] at c0; have hflat := putHelds_is_take hx; have hpre : ((xs.take (k + 1)).flatMap eHv).length ≤ (xs.flatMap eHv).length := by
    conv => rhs; rw [← List.take_append_drop (k + 1) xs, List.flatMap_append, List.length_append]
    omega
   have HLL : Hid ((bs ++ vb xs.length ++ (xs.take k).flatMap eHv).length + (eHv x).length ≤ 4611686018427387904) := (by
    show (bs ++ vb xs.length ++ (xs.take k).flatMap eHv).length + (eHv x).length ≤ 4611686018427387904
    have := HL.out; rw [hflat, List.length_append] at hpre; simp only [List.length_append]; omega)
   have HF := hid hflat; have hxm : x ∈ xs := List.mem_of_getElem? hx; have PC : Hid (∀ W, EOk w W A b o (bs ++ vb xs.length ++ (xs.take k).flatMap eHv) → Calls Tryz.prog 31 #[.pointer (some ⟨b, o, none⟩), .agg #[.int .u32 x.h.id.1, .int .u32 x.h.id.2, .int .u32 x.h.home, .int .u64 x.h.w, .int .u32 x.h.l, .int .u32 x.h.n, .slice x.ra x.h.rs.length x.rc, .slice x.wa x.h.ws.length x.wc]] W fun e w' => e = .returned (.tuple #[]) ∧ EOk W w' A b o (bs ++ vb xs.length ++ (xs.take k).flatMap eHv ++ eHv x)) := fun W HW  => putHeld_is HW ((HX.out x hxm).keep HW.cel) HLL.out
   clear hflat hpre hc hx hxm; go_wp2_with fail
   refine (PC.out _ (HH.out.al _) ).mono ?_; rintro e w2 ⟨rfl, h2⟩; have H2 := hid ((HH.out.al _).step h2); clear h2 PC; go_wp2_with fail
   go_roundg (xs.length - (k + 1))
   case measure => omega
   case rel =>
    refine ⟨k + 1, by omega, rfl, by go_num, ?_⟩; have := H2.out; rw [List.append_assoc, ← HF.out] at this; exact this
  ·obtain rfl : k = xs.length := by omega
   clear hlt hk; go_wp2_with fail
   go_end0
   refine ⟨rfl, ?_⟩; have := HH.out; rw [List.take_of_length_le (Nat.le_refl _)] at this; show EOk w _ A b o (bs ++ (vb xs.length ++ xs.flatMap eHv))
   rw [← List.append_assoc]; exact this
end Go.Proofs.YtneojeidpfjpbaaGreatDoor.Ig
