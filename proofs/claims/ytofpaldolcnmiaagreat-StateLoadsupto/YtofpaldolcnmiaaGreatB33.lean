import Derived.Test.YtofpaldolcnmiaaGreatB32
set_option linter.unusedVariables false
set_option maxHeartbeats 2000000
namespace Go.Proofs.YtofpaldolcnmiaaGreat.Ig
open Go.RowKit Go.Sort
theorem DecR_drew {w : World} {b o : Nat} {s : List Nat} {r : Int} (h : DecR w b o s r) : DecR w.drew b o s r := ⟨h.c0, h.c1, h.b8, h.loose⟩
structure DOk (w0 w : World) (b o : Nat) (d : Ds) : Prop where
 cel : Cel b o 2 w0 w
 dec : DecAt w b o d
 ln : d.left.length ≤ 1099511627776
section
variable {w0 w w' : World} {b o : Nat} {d d' : Ds}
theorem DOk.refl (h : DOk w0 w b o d) : DOk w w b o d := ⟨Cel.refl _ _ _ _, h.dec, h.ln⟩
theorem DOk.step (h : DOk w0 w b o d) (k : DOk w w' b o d') : DOk w0 w' b o d' := ⟨h.cel.trans k.cel, k.dec, k.ln⟩
theorem DOk.later (h : DOk w0 w b o d) (hb : Below w.heap.size w w') : DOk w0 w' b o d := ⟨h.cel.on hb, h.dec.later hb, h.ln⟩
theorem DOk.drew (h : DOk w0 w b o d) : DOk w0 w.drew b o d := ⟨h.cel.drew, ⟨DecR_drew h.dec.raw, h.dec.ok⟩, h.ln⟩
theorem DOk.lt (h : DOk w0 w b o d) : b < w.heap.size := h.dec.raw.lt
theorem dok_of (hl : d.left.length ≤ 1099511627776) (hs : d'.left.length ≤ d.left.length) {e v : Ending} (h : e = v ∧ Cel b o 2 w w' ∧ DecAt w' b o d') : e = v ∧ DOk w w' b o d' := ⟨h.1, h.2.1, h.2.2, Nat.le_trans hs hl⟩
theorem dok_text {m : Int} {x : ByteArray} (h : DOk w0 w b o d) (hm : 0 ≤ m) (hm2 : m ≤ 1000) (hv : tX m.toNat d = (x, d')) :
  Calls Tryz.prog 158 #[.pointer (some ⟨b, o, none⟩), .int .i64 m] w fun e w' => e = .returned (.string x) ∧ DOk w w' b o d' := by
 have hs : d'.left.length ≤ d.left.length := by have := text_sh m.toNat d; have e2 := congrArg Prod.snd hv; rw [← show (tX m.toNat d).2 = d' from e2]; exact this
 have e1 := congrArg Prod.fst hv; have e2 := congrArg Prod.snd hv; have h1 := dtext_is (m := m) (t := (tText m.toNat d).1) (d' := (tText m.toNat d).2) h.dec (by omega) (by omega) (by have := h.ln; omega) rfl; refine h1.mono fun e w' k => dok_of h.ln hs ?_
 rw [show ofNats (tText m.toNat d).1 = x from e1, show (tText m.toNat d).2 = d' from e2] at k; exact k
theorem dok_var {m : Nat} {mi : Int} {x : Int} (h : DOk w0 w b o d) (hm : mi = (m : Int)) (hv : tU m d = (x, d')) :
  Calls Tryz.prog 74 #[.pointer (some ⟨b, o, none⟩), .int .u64 mi] w fun e w' => e = .returned (.int .u64 x) ∧ DOk w w' b o d' := by
 subst hm; have e1 := congrArg Prod.fst hv; have e2 := congrArg Prod.snd hv; have hs : d'.left.length ≤ d.left.length := by have := var_sh m d; rw [← show (tU m d).2 = d' from e2]; exact this
 have h1 := dvar_any (m := m) h.dec (by have := h.ln; omega); refine h1.mono fun e w' k => dok_of h.ln hs ?_
 rw [show (((tVar m d).1 : Nat) : Int) = x from e1, show (tVar m d).2 = d' from e2] at k; exact k
theorem dok_flag {x : Bool} (h : DOk w0 w b o d) (hv : tFlag d = (x, d')) :
  Calls Tryz.prog 159 #[.pointer (some ⟨b, o, none⟩)] w fun e w' => e = .returned (.bool x) ∧ DOk w w' b o d' := by
 have hs : d'.left.length ≤ d.left.length := by have := flag_sh d; rw [hv] at this; exact this
 exact (dflag_is h.dec (by have := h.ln; omega) hv).mono fun e w' k => dok_of h.ln hs k
theorem dok_byte {x : Int} (h : DOk w0 w b o d) (hv : tB d = (x, d')) :
  Calls Tryz.prog 157 #[.pointer (some ⟨b, o, none⟩)] w fun e w' => e = .returned (.int .u8 x) ∧ DOk w w' b o d' := by
 have e1 := congrArg Prod.fst hv; have e2 := congrArg Prod.snd hv; have hs : d'.left.length ≤ d.left.length := by have := byte_sh d; rw [← show (tB d).2 = d' from e2]; exact this
 have h1 := dbyte_is (x := (tByte d).1) (d' := (tByte d).2) h.dec (by have := h.ln; omega) rfl; refine h1.mono fun e w' k => dok_of h.ln hs ?_
 rw [show (((tByte d).1 : Nat) : Int) = x from e1, show (tByte d).2 = d' from e2] at k; exact k
theorem dok_stamp {s : Vs.Sp} (h : DOk w0 w b o d) (hv : tS d = (s, d')) :
  Calls Tryz.prog 75 #[.pointer (some ⟨b, o, none⟩)] w fun e w' => e = .returned (.agg #[.int .u64 s.a, .int .u32 s.b, .int .u32 s.c]) ∧ DOk w w' b o d' := by
 have e1 := congrArg Prod.fst hv; have e2 := congrArg Prod.snd hv; have hs : d'.left.length ≤ d.left.length := by have := stamp_sh d; rw [← show (tS d).2 = d' from e2]; exact this
 have h1 := dstamp_is (x := (tStamp d).1) (d' := (tStamp d).2) h.dec (by have := h.ln; omega) rfl; refine h1.mono fun e w' k => dok_of h.ln hs ?_
 rw [← show (⟨(tStamp d).1.w, (tStamp d).1.l, (tStamp d).1.n⟩ : Vs.Sp) = s from e1, ← show (tStamp d).2 = d' from e2]; exact k
theorem dok_leftL {L : Int} (h : DOk w0 w b o d) (hL : (d.left.length : Int) = L) : Calls Tryz.prog 151 #[.pointer (some ⟨b, o, none⟩)] w fun e w' => e = .returned (.int .i64 L) ∧ w' = w := by rw [← hL]; exact left_any h.dec
theorem takeNumber_is {x : Int} (h : DOk w0 w b o d) (hv : tU 4294967295 d = (x, d')) :
  Calls Tryz.prog 73 #[.pointer (some ⟨b, o, none⟩)] w fun e w' => e = .returned (.int .u32 x) ∧ DOk w w' b o d' := by
 have hx : 0 ≤ x ∧ x ≤ 4294967295 := by
  have e1 : (((tVar 4294967295 d).1 : Nat) : Int) = x := congrArg Prod.fst hv; have := var_le 4294967295 d; omega
 have hw : IntKind.u32.wrap x = x := by simp [IntKind.wrap, IntKind.bits, IntKind.signed]; omega
 have C := hid (dok_var (m := 4294967295) (mi := 4294967295) h rfl hv); clear h hv hx; go_enter Tryz.func73, Tryz.ntmps73
 go_wp2_with fail
 refine C.out.mono ?_; rintro e w1 ⟨rfl, h1⟩; go_wp2_with fail
 go_ret
 exact ⟨rfl, h1⟩
theorem DOk.setNew (h : DOk w0 w b o d) {q : Nat} (hq : w0.heap.size ≤ q) (hb : b < q) (i : Nat) (v : Value) : DOk w0 (w.setCell ⟨q, i, none⟩ v) b o d :=
 ⟨h.cel.setNew hq i v, ⟨⟨cell_setc (by intro e; injection e with e; omega) h.dec.raw.c0, cell_setc (by intro e; injection e with e; omega) h.dec.raw.c1, h.dec.raw.b8, h.dec.raw.loose.setc _ _⟩, h.dec.ok⟩, h.ln⟩
end
theorem takeSpan_is {w0 w : World} {b o : Nat} {d d' : Ds} {x : T2} (h : DOk w0 w b o d) (hv : tSpan d = (x, d')) :
  Calls Tryz.prog 154 #[.pointer (some ⟨b, o, none⟩)] w fun e w' => e = .returned (.agg #[.string x.1, .string x.2]) ∧ DOk w w' b o d' := by
 obtain ⟨x0, d0, e0⟩ : ∃ y dd, tX 33 d = (y, dd) := ⟨_, _, rfl⟩; obtain ⟨x1, d1, e1⟩ : ∃ y dd, tX 33 d0 = (y, dd) := ⟨_, _, rfl⟩; have hE : tSpan d = ((x0, x1), d1) := by
  simp only [tSpan, tP, e0, e1]
 rw [hv] at hE; injection hE with hx hd
 subst hx hd; obtain ⟨wa, hwa⟩ : ∃ wa, wa = w.alloc (.cells #[.string ⟨#[]⟩, .string ⟨#[]⟩] 126) := ⟨_, rfl⟩; have hba : Below w.heap.size w wa := by rw [hwa]; exact Below.al (Below.refl _ _) _
 have hbl := h.lt; have hsz : w.heap.size < wa.heap.size := by rw [hwa]; simp
 have kx : wa.heap[w.heap.size]? = some (.cells #[.string ⟨#[]⟩, .string ⟨#[]⟩] 126 (0, 0)) := by rw [hwa]; exact World.alloc_heap_new _ _
 have HK := hid kx; have H0 : Hid (DOk wa wa b o d) := (h.later hba).refl; have HB := hid hba; have HH := hid h; have E0 := hid e0; have E1 := hid e1; clear h hv hba kx e0 e1; go_enter Tryz.func154, Tryz.ntmps154
 go_wp2_with fail
 rw [← hwa]; clear hwa; refine (dok_text (m := 33) H0.out (by decide) (by decide) E0.out).mono ?_; rintro e w1 ⟨rfl, h1⟩; have H1 : Hid (DOk wa w1 b o d0) := H0.out.step h1; clear h1; go_wp2_with fail
 refine (dok_text (m := 33) H1.out (by decide) (by decide) E1.out).mono ?_; rintro e w2 ⟨rfl, h2⟩; have H2 : Hid (DOk wa w2 b o d') := H1.out.step h2; clear h2; have hne : w.heap.size ≠ b := by omega
 have kz : w2.heap[w.heap.size]? = some (.cells #[.string ⟨#[]⟩, .string ⟨#[]⟩] 126 (0, 0)) := (H2.out.cel.block _ hsz hne).trans HK.out; have z0 := Vs.cob (o := 0) kz rfl; have z1 := Vs.cob (o := 1) kz rfl; have zf : ∀ j, w2.frozen? ⟨w.heap.size, j, none⟩ = false := fun j => frozen_of_row w2 w.heap.size j _ _ kz
 go_wp2_with fail
 have H9 := hid ((HH.out.refl.later HB.out).step H2.out); refine bodyPost_ret (v := .agg #[.string x0, .string x1]) (by simp [results, Tryz.results154, go_sem, z0, z1]) rfl ⟨rfl, ?_⟩; exact ((H9.out.setNew (Nat.le_refl _) hbl 0 _).setNew (Nat.le_refl _) hbl 1 _)
theorem takeWrite_is {w0 w : World} {b o : Nat} {d d' : Ds} {x : Wr} (h : DOk w0 w b o d) (hv : tWrite d = (x, d')) :
  Calls Tryz.prog 156 #[.pointer (some ⟨b, o, none⟩)] w fun e w' => e = .returned (.agg #[.string x.key, .bool x.del, .string x.val]) ∧ DOk w w' b o d' := by
 obtain ⟨x0, d0, e0⟩ : ∃ y dd, tX 32 d = (y, dd) := ⟨_, _, rfl⟩; obtain ⟨x1, d1, e1⟩ : ∃ y dd, tFlag d0 = (y, dd) := ⟨_, _, rfl⟩; obtain ⟨x2, d2, e2⟩ : ∃ y dd, tX 64 d1 = (y, dd) := ⟨_, _, rfl⟩; have hE : tWrite d = (⟨x0, x1, x2⟩, d2) := by
  simp only [tWrite, tP, tM, e0, e1, e2]
 rw [hv] at hE; injection hE with hx hd
 subst hx hd; obtain ⟨wa, hwa⟩ : ∃ wa, wa = w.alloc (.cells #[.string ⟨#[]⟩, .bool false, .string ⟨#[]⟩] 117) := ⟨_, rfl⟩; have hba : Below w.heap.size w wa := by rw [hwa]; exact Below.al (Below.refl _ _) _
 have hbl := h.lt; have hsz : w.heap.size < wa.heap.size := by rw [hwa]; simp
 have kx : wa.heap[w.heap.size]? = some (.cells #[.string ⟨#[]⟩, .bool false, .string ⟨#[]⟩] 117 (0, 0)) := by rw [hwa]; exact World.alloc_heap_new _ _
 have HK := hid kx; have H0 : Hid (DOk wa wa b o d) := (h.later hba).refl; have HB := hid hba; have HH := hid h; have E0 := hid e0; have E1 := hid e1; have E2 := hid e2; clear h hv hba kx e0 e1 e2; go_enter Tryz.func156, Tryz.ntmps156
 go_wp2_with fail
 rw [← hwa]; clear hwa; refine (dok_text (m := 32) H0.out (by decide) (by decide) E0.out).mono ?_; rintro e w1 ⟨rfl, h1⟩; have H1 : Hid (DOk wa w1 b o d0) := H0.out.step h1; clear h1; go_wp2_with fail
 refine (dok_flag H1.out E1.out).mono ?_; rintro e w2 ⟨rfl, h2⟩; have H2 : Hid (DOk wa w2 b o d1) := H1.out.step h2; clear h2; go_wp2_with fail
 refine (dok_text (m := 64) H2.out (by decide) (by decide) E2.out).mono ?_; rintro e w3 ⟨rfl, h3⟩; have H3 : Hid (DOk wa w3 b o d') := H2.out.step h3; clear h3; have hne : w.heap.size ≠ b := by omega
 have kz : w3.heap[w.heap.size]? = some (.cells #[.string ⟨#[]⟩, .bool false, .string ⟨#[]⟩] 117 (0, 0)) := (H3.out.cel.block _ hsz hne).trans HK.out; have z0 := Vs.cob (o := 0) kz rfl; have z1 := Vs.cob (o := 1) kz rfl; have z2 := Vs.cob (o := 2) kz rfl; have zf : ∀ j, w3.frozen? ⟨w.heap.size, j, none⟩ = false := fun j => frozen_of_row w3 w.heap.size j _ _ kz
 go_wp2_with fail
 have H9 := hid ((HH.out.refl.later HB.out).step H3.out); refine bodyPost_ret (v := .agg #[.string x0, .bool x1, .string x2]) (by simp [results, Tryz.results156, go_sem, z0, z1, z2]) rfl ⟨rfl, ?_⟩; exact (((H9.out.setNew (Nat.le_refl _) hbl 0 _).setNew (Nat.le_refl _) hbl 1 _).setNew (Nat.le_refl _) hbl 2 _)
theorem takeVersion_is {w0 w : World} {b o : Nat} {d d' : Ds} {x : Vs.Kv} (h : DOk w0 w b o d) (hv : tVersion d = (x, d')) :
  Calls Tryz.prog 81 #[.pointer (some ⟨b, o, none⟩)] w fun e w' => e = .returned (.agg #[.string x.1, .int .u64 x.2.s.a, .int .u32 x.2.s.b, .int .u32 x.2.s.c, .bool x.2.del, .string x.2.val]) ∧ DOk w w' b o d' := by
 obtain ⟨x0, d0, e0⟩ : ∃ y dd, tX 32 d = (y, dd) := ⟨_, _, rfl⟩; obtain ⟨x1, d1, e1⟩ : ∃ y dd, tS d0 = (y, dd) := ⟨_, _, rfl⟩; obtain ⟨x2, d2, e2⟩ : ∃ y dd, tFlag d1 = (y, dd) := ⟨_, _, rfl⟩; obtain ⟨x3, d3, e3⟩ : ∃ y dd, tX 64 d2 = (y, dd) := ⟨_, _, rfl⟩; have hE : tVersion d = ((x0, ⟨x1, x2, x3⟩), d3) := by
  simp only [tVersion, tP, tM, e0, e1, e2, e3]
 rw [hv] at hE; injection hE with hx hd
 subst hx hd; obtain ⟨wa, hwa⟩ : ∃ wa, wa = w.alloc (.cells #[.string ⟨#[]⟩, .int .u64 0, .int .u32 0, .int .u32 0, .bool false, .string ⟨#[]⟩] 108) := ⟨_, rfl⟩; have hba : Below w.heap.size w wa := by rw [hwa]; exact Below.al (Below.refl _ _) _
 have hbl := h.lt; have hsz : w.heap.size < wa.heap.size := by rw [hwa]; simp
 have kx : wa.heap[w.heap.size]? = some (.cells #[.string ⟨#[]⟩, .int .u64 0, .int .u32 0, .int .u32 0, .bool false, .string ⟨#[]⟩] 108 (0, 0)) := by rw [hwa]; exact World.alloc_heap_new _ _
 have HK := hid kx; have H0 : Hid (DOk wa wa b o d) := (h.later hba).refl; have HB := hid hba; have HH := hid h; have E0 := hid e0; have E1 := hid e1; have E2 := hid e2; have E3 := hid e3; clear h hv hba kx e0 e1 e2 e3; go_enter Tryz.func81, Tryz.ntmps81
 go_wp2_with fail
 rw [← hwa]; clear hwa; refine (dok_text (m := 32) H0.out (by decide) (by decide) E0.out).mono ?_; rintro e w1 ⟨rfl, h1⟩; have H1 : Hid (DOk wa w1 b o d0) := H0.out.step h1; clear h1; go_wp2_with fail
 refine (dok_stamp H1.out E1.out).mono ?_; rintro e w2 ⟨rfl, h2⟩; have H2 : Hid (DOk wa w2 b o d1) := H1.out.step h2; clear h2; go_wp2_with fail
 refine (dok_flag H2.out E2.out).mono ?_; rintro e w3 ⟨rfl, h3⟩; have H3 : Hid (DOk wa w3 b o d2) := H2.out.step h3; clear h3; go_wp2_with fail
 refine (dok_text (m := 64) H3.out (by decide) (by decide) E3.out).mono ?_; rintro e w4 ⟨rfl, h4⟩; have H4 : Hid (DOk wa w4 b o d') := H3.out.step h4; clear h4; have hne : w.heap.size ≠ b := by omega
 have kz : w4.heap[w.heap.size]? = some (.cells #[.string ⟨#[]⟩, .int .u64 0, .int .u32 0, .int .u32 0, .bool false, .string ⟨#[]⟩] 108 (0, 0)) := (H4.out.cel.block _ hsz hne).trans HK.out; have z0 := Vs.cob (o := 0) kz rfl; have z1 := Vs.cob (o := 1) kz rfl; have z2 := Vs.cob (o := 2) kz rfl; have z3 := Vs.cob (o := 3) kz rfl; have z4 := Vs.cob (o := 4) kz rfl; have z5 := Vs.cob (o := 5) kz rfl; have zf : ∀ j, w4.frozen? ⟨w.heap.size, j, none⟩ = false := fun j => frozen_of_row w4 w.heap.size j _ _ kz
 go_wp2_with fail
 have H9 := hid ((HH.out.refl.later HB.out).step H4.out); refine bodyPost_ret (v := .agg #[.string x0, .int .u64 x1.a, .int .u32 x1.b, .int .u32 x1.c, .bool x2, .string x3]) (by simp [results, Tryz.results81, go_sem, z0, z1, z2, z3, z4, z5]) rfl ⟨rfl, ?_⟩; exact ((((((H9.out.setNew (Nat.le_refl _) hbl 0 _).setNew (Nat.le_refl _) hbl 1 _).setNew (Nat.le_refl _) hbl 2 _).setNew (Nat.le_refl _) hbl 3 _).setNew (Nat.le_refl _) hbl 4 _).setNew (Nat.le_refl _) hbl 5 _)
theorem takeTransaction_is {w0 w : World} {b o : Nat} {d d' : Ds} {x : Lk.Ix × Int} (h : DOk w0 w b o d) (hv : tTxn d = (x, d')) :
  Calls Tryz.prog 152 #[.pointer (some ⟨b, o, none⟩)] w fun e w' => e = .returned (.tuple #[.agg #[.int .u32 x.1.1, .int .u32 x.1.2], .int .u32 x.2]) ∧ DOk w w' b o d' := by
 obtain ⟨x0, d0, e0⟩ : ∃ y dd, tU 4294967295 d = (y, dd) := ⟨_, _, rfl⟩; obtain ⟨x1, d1, e1⟩ : ∃ y dd, tU 4294967295 d0 = (y, dd) := ⟨_, _, rfl⟩; obtain ⟨x2, d2, e2⟩ : ∃ y dd, tU 4294967295 d1 = (y, dd) := ⟨_, _, rfl⟩; have hE : tTxn d = (((x0, x1), x2), d2) := by
  simp only [tTxn, tP, tM, e0, e1, e2]
 rw [hv] at hE; injection hE with hx hd
 subst hx hd; obtain ⟨wa, hwa⟩ : ∃ wa, wa = w.alloc (.cells #[.int .u32 0, .int .u32 0] 33) := ⟨_, rfl⟩; have hba : Below w.heap.size w wa := by rw [hwa]; exact Below.al (Below.refl _ _) _
 have hbl := h.lt; have hsz : w.heap.size < wa.heap.size := by rw [hwa]; simp
 have kx : wa.heap[w.heap.size]? = some (.cells #[.int .u32 0, .int .u32 0] 33 (0, 0)) := by rw [hwa]; exact World.alloc_heap_new _ _
 have HK := hid kx; have H0 : Hid (DOk wa wa b o d) := (h.later hba).refl; have HB := hid hba; have HH := hid h; have E0 := hid e0; have E1 := hid e1; have E2 := hid e2; clear h hv hba kx e0 e1 e2; go_enter Tryz.func152, Tryz.ntmps152
 go_wp2_with fail
 rw [← hwa]; clear hwa; refine (takeNumber_is H0.out E0.out).mono ?_; rintro e w1 ⟨rfl, h1⟩; have H1 : Hid (DOk wa w1 b o d0) := H0.out.step h1; clear h1; go_wp2_with fail
 refine (takeNumber_is H1.out E1.out).mono ?_; rintro e w2 ⟨rfl, h2⟩; have H2 : Hid (DOk wa w2 b o d1) := H1.out.step h2; clear h2; go_wp2_with fail
 obtain ⟨wb, hwb⟩ : ∃ wb, wb = w2.alloc (.cells #[.int .u32 x0, .int .u32 x1] 33) := ⟨_, rfl⟩; have kb : wb.heap[w2.heap.size]? = some (.cells #[.int .u32 x0, .int .u32 x1] 33 (0, 0)) := by rw [hwb]; exact World.alloc_heap_new _ _
 have hbb : Below w2.heap.size w2 wb := by rw [hwb]; exact Below.al (Below.refl _ _) _
 have hsb : w2.heap.size < wb.heap.size := by rw [hwb]; simp
 rw [← hwb]; have c0 := Vs.cob (o := 0) kb rfl; have c1 := Vs.cob (o := 1) kb rfl; have hne : w.heap.size ≠ b := by omega
 have hs2 := H2.out.cel.size; have hne2 : w2.heap.size ≠ b := by omega
 have HWB := hid hwb; have H3 : Hid (DOk wa wb b o d1) := H2.out.later hbb; have KB := hid kb; have kz : wb.heap[w.heap.size]? = some (.cells #[.int .u32 0, .int .u32 0] 33 (0, 0)) := (hbb.block _ (by omega)).trans ((H2.out.cel.block _ hsz hne).trans HK.out); have KZ := hid kz; clear hwb kb hbb kz; have hs3 : w.heap.size < wb.drew.heap.size := by show w.heap.size < wb.heap.size; omega
 have hs4 : w2.heap.size < wb.drew.heap.size := hsb; go_region_with (go_at_call 73; refine (takeNumber_is H3.out.drew E2.out).mono ?_; rintro e w4 ⟨rfl, h4⟩; have H4 := hid (H3.out.drew.step h4); have kz := (h4.cel.block _ hs3 hne).trans KZ.out; have kb := (h4.cel.block _ hs4 hne2).trans KB.out; have c0 := Vs.cob (o := 0) kb rfl; have c1 := Vs.cob (o := 1) kb rfl; have z0 := Vs.cob (o := 0) kz rfl; have z1 := Vs.cob (o := 1) kz rfl; have zf : ∀ j, w4.frozen? ⟨w.heap.size, j, none⟩ = false := fun j => frozen_of_row w4 w.heap.size j _ _ kz; have HZ := hid kz; clear h4 kz kb)
 all_goals go_wp2_with fail
 all_goals have H9 := hid ((HH.out.refl.later HB.out).step H4.out)
 all_goals refine bodyPost_ret (v := .tuple #[.agg #[.int .u32 x0, .int .u32 x1], .int .u32 x2]) (by simp [results, Tryz.results152, go_sem, z0, z1]) rfl ⟨rfl, ?_⟩
 all_goals exact ((H9.out.setNew (Nat.le_refl _) hbl 0 _).setNew (Nat.le_refl _) hbl 1 _)
theorem byte_lt {d : Ds} (h : B8 d.left) : (tByte d).1 < 256 := by
 cases d with
 | stop e => exact Nat.zero_lt_succ _
 | «at» s =>
  cases s with
  | nil => exact Nat.zero_lt_succ _
  | cons c s => exact h c (by simp [Ds.left])
theorem wrap_small {v : Int} (h : 0 ≤ v) (k : v < 256) : IntKind.i64.wrap v = v := by simp [IntKind.wrap, IntKind.bits, IntKind.signed]; omega
theorem takeEntry_is {w0 w : World} {b o : Nat} {d d' : Ds} {x : Lg.En} (h : DOk w0 w b o d) (hv : tEntry d = (x, d')) :
  Calls Tryz.prog 79 #[.pointer (some ⟨b, o, none⟩)] w fun e w' => e = .returned (.agg #[.int .u32 x.id.1, .int .u32 x.id.2, .int .u32 x.home, .int .i64 x.oc, .int .u64 x.w, .int .u32 x.l, .int .u32 x.n]) ∧ DOk w w' b o d' := by
 obtain ⟨x0, d0, e0⟩ : ∃ y dd, tTxn d = (y, dd) := ⟨_, _, rfl⟩; obtain ⟨x1, d1, e1⟩ : ∃ y dd, tB d0 = (y, dd) := ⟨_, _, rfl⟩; obtain ⟨x2, d2, e2⟩ : ∃ y dd, tS d1 = (y, dd) := ⟨_, _, rfl⟩; have hE : tEntry d = (⟨x0.1, x0.2, x1, x2.a, x2.b, x2.c⟩, d2) := by
  simp only [tEntry, tP, tM, e0, e1, e2]
 have HX1 : Hid ((((tByte d0).1 : Nat) : Int) = x1) := congrArg Prod.fst e1; rw [hv] at hE; injection hE with hx hd
 subst hx hd; obtain ⟨⟨x01, x02⟩, x03⟩ := x0; obtain ⟨wa, hwa⟩ : ∃ wa, wa = w.alloc (.cells #[.int .u32 0, .int .u32 0, .int .u32 0, .int .i64 0, .int .u64 0, .int .u32 0, .int .u32 0] 104) := ⟨_, rfl⟩; have hba : Below w.heap.size w wa := by rw [hwa]; exact Below.al (Below.refl _ _) _
 have hbl := h.lt; have hsz : w.heap.size < wa.heap.size := by rw [hwa]; simp
 have kx : wa.heap[w.heap.size]? = some (.cells #[.int .u32 0, .int .u32 0, .int .u32 0, .int .i64 0, .int .u64 0, .int .u32 0, .int .u32 0] 104 (0, 0)) := by rw [hwa]; exact World.alloc_heap_new _ _
 have HK := hid kx; have H0 : Hid (DOk wa wa b o d) := (h.later hba).refl; have HB := hid hba; have HH := hid h; have E0 := hid e0; have E1 := hid e1; have E2 := hid e2; clear h hv hba kx e0 e1 e2; go_enter Tryz.func79, Tryz.ntmps79
 go_wp2_with fail
 rw [← hwa]; clear hwa; refine (takeTransaction_is H0.out E0.out).mono ?_; rintro e w2 ⟨rfl, h1⟩; have H2 : Hid (DOk wa w2 b o d0) := H0.out.step h1; clear h1; have hwr : IntKind.i64.wrap x1 = x1 := by
  have h1 := HX1.out; have h2 := byte_lt H2.out.dec.raw.b8; rw [wrap_small (by omega) (by omega)]
 go_wp2_with fail
 obtain ⟨wb, hwb⟩ : ∃ wb, wb = w2.alloc (.cells #[.int .u32 x01, .int .u32 x02] 33) := ⟨_, rfl⟩; have kb : wb.heap[w2.heap.size]? = some (.cells #[.int .u32 x01, .int .u32 x02] 33 (0, 0)) := by rw [hwb]; exact World.alloc_heap_new _ _
 have hbb : Below w2.heap.size w2 wb := by rw [hwb]; exact Below.al (Below.refl _ _) _
 have hsb : w2.heap.size < wb.heap.size := by rw [hwb]; simp
 rw [← hwb]; have c0 := Vs.cob (o := 0) kb rfl; have c1 := Vs.cob (o := 1) kb rfl; have hne : w.heap.size ≠ b := by omega
 have hs2 := H2.out.cel.size; have hne2 : w2.heap.size ≠ b := by omega
 have H3 : Hid (DOk wa wb b o d0) := H2.out.later hbb; have KB := hid kb; have KZ : Hid (wb.heap[w.heap.size]? = some (.cells #[.int .u32 0, .int .u32 0, .int .u32 0, .int .i64 0, .int .u64 0, .int .u32 0, .int .u32 0] 104 (0, 0))) := (hbb.block _ (by omega)).trans ((H2.out.cel.block _ hsz hne).trans HK.out); clear hwb kb hbb; have hs3 : w.heap.size < wb.drew.heap.size := by show w.heap.size < wb.heap.size; omega
 have hs4 : w2.heap.size < wb.drew.heap.size := hsb; go_region_with (first
  | (go_at_call 157; refine (dok_byte H3.out.drew E1.out).mono ?_; rintro e w4 ⟨rfl, h4⟩; have H4 := hid (H3.out.drew.step h4); have KZ4 := hid ((h4.cel.block _ hs3 hne).trans KZ.out); have kb := (h4.cel.block _ hs4 hne2).trans KB.out; have KB4 := hid kb; have c0 := Vs.cob (o := 0) kb rfl; have c1 := Vs.cob (o := 1) kb rfl; have hs5 := Nat.lt_of_lt_of_le hs3 h4.cel.size; have hs6 := Nat.lt_of_lt_of_le hs4 h4.cel.size; clear h4 kb)
  | (go_at_call 75; refine (dok_stamp H4.out E2.out).mono ?_; rintro e w5 ⟨rfl, h5⟩; have H5 := hid (H4.out.step h5); have kz := (h5.cel.block _ hs5 hne).trans KZ4.out; have kb := (h5.cel.block _ hs6 hne2).trans KB4.out; have c0 := Vs.cob (o := 0) kb rfl; have c1 := Vs.cob (o := 1) kb rfl; have z0 := Vs.cob (o := 0) kz rfl; have z1 := Vs.cob (o := 1) kz rfl; have z2 := Vs.cob (o := 2) kz rfl; have z3 := Vs.cob (o := 3) kz rfl; have z4 := Vs.cob (o := 4) kz rfl; have z5 := Vs.cob (o := 5) kz rfl; have z6 := Vs.cob (o := 6) kz rfl; have zf : ∀ j, w5.frozen? ⟨w.heap.size, j, none⟩ = false := fun j => frozen_of_row w5 w.heap.size j _ _ kz; clear h5 kz kb))
 all_goals go_wp2_with fail
 all_goals have H9 := hid ((HH.out.refl.later HB.out).step H5.out)
 all_goals refine bodyPost_ret (v := .agg #[.int .u32 x01, .int .u32 x02, .int .u32 x03, .int .i64 x1, .int .u64 x2.a, .int .u32 x2.b, .int .u32 x2.c]) (by simp [results, Tryz.results79, go_sem, z0, z1, z2, z3, z4, z5, z6]) rfl ⟨rfl, ?_⟩
 all_goals exact (((((((H9.out.setNew (Nat.le_refl _) hbl 0 _).setNew (Nat.le_refl _) hbl 1 _).setNew (Nat.le_refl _) hbl 2 _).setNew (Nat.le_refl _) hbl 3 _).setNew (Nat.le_refl _) hbl 4 _).setNew (Nat.le_refl _) hbl 5 _).setNew (Nat.le_refl _) hbl 6 _)
end Go.Proofs.YtofpaldolcnmiaaGreat.Ig
