import Derived.Test.YtchfoipkaookmabDoorWItem
import Derived.Test.YtchfoipkaookmabDoorWBack8
import Derived.Test.YtchfoipkaookmabDoorWTByte
import Derived.Test.YtchfoipkaookmabDoorWTFlag
import Derived.Test.YtchfoipkaookmabDoorWTVar
import Derived.Test.YtchfoipkaookmabDoorWTText
import Derived.Test.YtchfoipkaookmabDoorWTRaw
import Derived.Test.YtchfoipkaookmabDoorWTStamp
import Derived.Test.YtchfoipkaookmabDoorEqs
namespace Go.Proofs.YtchfoipkaookmabDoor
open Go.RowKit Go.Sort
set_option linter.unusedVariables false

theorem DecAt.drew {w : World} {b o : Nat} {d : Ds} (h : DecAt w b o d) : DecAt w.drew b o d := ⟨h.raw.drew, h.ok⟩
theorem tStamp_app {x : Sm} (h : x.ok) (r : List Nat) : tStamp (.at (pkN x ++ r)) = (x, .at r) := by
  have hl := pkN_length x
  simp only [tStamp]
  rw [if_neg (by rw [List.length_append]; omega), List.take_left' hl, List.drop_left' hl, unS_pkN h]

set_option maxHeartbeats 1000000 in
theorem got_1 {w : World} {b o : Nat} {r : List Nat} {x : It} (hk : x.kind = 1) (hx : x.ok w) (h : DecAt w b o (.at (x.bytes ++ r))) (hl : (x.bytes ++ r).length ≤ 1099511627776) :
    Calls Tryd.prog 10 #[.pointer (some ⟨b, o, none⟩), x.val] w fun e w' => e = .returned (.bool true) ∧ Cel b o 2 w w' ∧ DecAt w' b o (.at r) := by
  have hb : x.bytes = [x.n % 256] := by unfold It.bytes; simp [hk]
  rw [hb] at h hl
  clear hb
  obtain ⟨wa, hwa⟩ : ∃ wa, wa = w.alloc (.cells x.cells 41) := ⟨_, rfl⟩
  have hvl : x.val = .agg x.cells := rfl
  have hba : Below w.heap.size w wa := by rw [hwa]; exact Below.al (Below.refl _ _) _
  have hbx : BoxI wa w.heap.size x := by rw [hwa]; exact boxI w x _
  have ⟨c0, c1, c2, c3, c4, c5, c6⟩ := hbx
  have HX := hid (hx.later hba)
  have HD := hid (h.later hba)
  have HB := hid hba
  have hn := hx.n
  have HWA := hid hwa
  have hbl := h.lt
  have HLN := hid hl
  have hwd : (w.alloc (.cells x.cells 41)).drew = wa.drew := by rw [HWA.out]
  rw [hk] at c0
  clear hx h hba hbx hl hwa
  have hw := wrap_u8 x.n
  obtain ⟨y, hy⟩ : ∃ y, y = x.n % 256 := ⟨_, rfl⟩
  rw [← hy] at hw HD HLN
  clear hy
  go_enter Tryd.func10, Tryd.ntmps10
  go_wp2_with fail
  rw [← HWA.out]
  go_region_with (go_at_call 13; refine (dbyte_is (x := y) (d' := .at r) HD.out.drew (by have := HLN.out; show ([y] ++ r).length ≤ _; omega) rfl).mono ?_; rintro e w1 ⟨rfl, hc, hd⟩; have d1 := hc.cell (.inl (by omega)) c1; have HC := hid hc; have HD1 := hid hd; clear hc hd)
  all_goals go_wp2_with fail
  all_goals go_ret
  all_goals exact ⟨by simp [Act.put], (Cel.of_below HB.out).drew.trans HC.out, HD1.out⟩

set_option maxHeartbeats 1000000 in
theorem got_2 {w : World} {b o : Nat} {r : List Nat} {x : It} (hk : x.kind = 2) (hx : x.ok w) (h : DecAt w b o (.at (x.bytes ++ r))) (hl : (x.bytes ++ r).length ≤ 1099511627776) :
    Calls Tryd.prog 10 #[.pointer (some ⟨b, o, none⟩), x.val] w fun e w' => e = .returned (.bool true) ∧ Cel b o 2 w w' ∧ DecAt w' b o (.at r) := by
  have hb : x.bytes = [if x.n % 2 = 1 then 1 else 0] := by unfold It.bytes; simp [hk]
  rw [hb] at h hl
  clear hb
  obtain ⟨wa, hwa⟩ : ∃ wa, wa = w.alloc (.cells x.cells 41) := ⟨_, rfl⟩
  have hvl : x.val = .agg x.cells := rfl
  have hba : Below w.heap.size w wa := by rw [hwa]; exact Below.al (Below.refl _ _) _
  have hbx : BoxI wa w.heap.size x := by rw [hwa]; exact boxI w x _
  have ⟨c0, c1, c2, c3, c4, c5, c6⟩ := hbx
  have HX := hid (hx.later hba)
  have HD := hid (h.later hba)
  have HB := hid hba
  have hn := hx.n
  have HWA := hid hwa
  have hbl := h.lt
  have HLN := hid hl
  have hwd : (w.alloc (.cells x.cells 41)).drew = wa.drew := by rw [HWA.out]
  rw [hk] at c0
  clear hx h hba hbx hl hwa
  have hw := and_one hn
  obtain ⟨y, hy⟩ : ∃ y, y = x.n % 2 := ⟨_, rfl⟩
  rw [← hy] at hw HD HLN
  obtain ⟨f, hf⟩ : ∃ f : Bool, decide (y = 1) = f := ⟨_, rfl⟩
  have hf1 : decide ((y : Int) = 1) = f := by rw [← hf]; congr 1; exact propext (by omega)
  have hf2 : ((y : Int) == 1) = f := by rw [← hf1]; rfl
  have HT : Hid (tFlag (.at ([if y = 1 then 1 else 0] ++ r)) = (f, .at r)) := (by
    show tFlag (.at ([if y = 1 then 1 else 0] ++ r)) = (f, .at r)
    rw [← hf]; by_cases h : y = 1 <;> simp [h, tFlag])
  clear hy hf
  go_enter Tryd.func10, Tryd.ntmps10
  go_wp2_with fail
  rw [← HWA.out]
  go_region_with (go_at_call 18; refine (dflag_is HD.out.drew (by have := HLN.out; show ([if y = 1 then 1 else 0] ++ r).length ≤ _; omega) HT.out).mono ?_; rintro e w1 ⟨rfl, hc, hd⟩; have d1 := hc.cell (.inl (by omega)) c1; have HC := hid hc; have HD1 := hid hd; clear hc hd)
  all_goals go_wp2_with fail
  all_goals go_ret
  all_goals exact ⟨by simp [Act.put], (Cel.of_below HB.out).drew.trans HC.out, HD1.out⟩

set_option maxHeartbeats 1000000 in
theorem got_3 {w : World} {b o : Nat} {r : List Nat} {x : It} (hk : x.kind = 3) (hx : x.ok w) (h : DecAt w b o (.at (x.bytes ++ r))) (hl : (x.bytes ++ r).length ≤ 1099511627776) :
    Calls Tryd.prog 10 #[.pointer (some ⟨b, o, none⟩), x.val] w fun e w' => e = .returned (.bool true) ∧ Cel b o 2 w w' ∧ DecAt w' b o (.at r) := by
  have hb : x.bytes = vb x.n := by unfold It.bytes; simp [hk]
  rw [hb] at h hl
  clear hb
  obtain ⟨wa, hwa⟩ : ∃ wa, wa = w.alloc (.cells x.cells 41) := ⟨_, rfl⟩
  have hvl : x.val = .agg x.cells := rfl
  have hba : Below w.heap.size w wa := by rw [hwa]; exact Below.al (Below.refl _ _) _
  have hbx : BoxI wa w.heap.size x := by rw [hwa]; exact boxI w x _
  have ⟨c0, c1, c2, c3, c4, c5, c6⟩ := hbx
  have HX := hid (hx.later hba)
  have HD := hid (h.later hba)
  have HB := hid hba
  have hn := hx.n
  have HWA := hid hwa
  have hbl := h.lt
  have HLN := hid hl
  have hwd : (w.alloc (.cells x.cells 41)).drew = wa.drew := by rw [HWA.out]
  rw [hk] at c0
  clear hx h hba hbx hl hwa
  have HT : Hid (tVar x.n (.at (vb x.n ++ r)) = (x.n, .at r)) := tVar_vb r hn (Nat.le_refl _)
  go_enter Tryd.func10, Tryd.ntmps10
  go_wp2_with fail
  rw [← HWA.out]
  go_region_with (go_at_call 20; refine (dvar_is HD.out.drew (by have := HLN.out; show (vb x.n ++ r).length ≤ _; omega) HT.out).mono ?_; rintro e w1 ⟨rfl, hc, hd⟩; have d1 := hc.cell (.inl (by omega)) c1; have HC := hid hc; have HD1 := hid hd; clear hc hd)
  all_goals go_wp2_with fail
  all_goals go_ret
  all_goals exact ⟨by simp [Act.put], (Cel.of_below HB.out).drew.trans HC.out, HD1.out⟩

set_option maxHeartbeats 1000000 in
theorem got_4 {w : World} {b o : Nat} {r : List Nat} {x : It} (hk : x.kind = 4) (hx : x.ok w) (h : DecAt w b o (.at (x.bytes ++ r))) (hl : (x.bytes ++ r).length ≤ 1099511627776) :
    Calls Tryd.prog 10 #[.pointer (some ⟨b, o, none⟩), x.val] w fun e w' => e = .returned (.bool true) ∧ Cel b o 2 w w' ∧ DecAt w' b o (.at r) := by
  have hb : x.bytes = eText x.s := by unfold It.bytes; simp [hk]
  rw [hb] at h hl
  clear hb
  obtain ⟨wa, hwa⟩ : ∃ wa, wa = w.alloc (.cells x.cells 41) := ⟨_, rfl⟩
  have hvl : x.val = .agg x.cells := rfl
  have hba : Below w.heap.size w wa := by rw [hwa]; exact Below.al (Below.refl _ _) _
  have hbx : BoxI wa w.heap.size x := by rw [hwa]; exact boxI w x _
  have ⟨c0, c1, c2, c3, c4, c5, c6⟩ := hbx
  have HX := hid (hx.later hba)
  have HD := hid (h.later hba)
  have HB := hid hba
  have hn := hx.n
  have HWA := hid hwa
  have hbl := h.lt
  have HLN := hid hl
  have hwd : (w.alloc (.cells x.cells 41)).drew = wa.drew := by rw [HWA.out]
  rw [hk] at c0
  clear hx h hba hbx hl hwa
  have hsz : ((ofNats x.s).size : Int) = (x.s.length : Int) := by rw [ofNats_size]
  have hsl : x.s.length ≤ 1099511627776 := by have := HX.out.bulk; unfold It.bulk at this; omega
  have HT : Hid (tText (x.s.length : Int).toNat (.at (eText x.s ++ r)) = (x.s, .at r)) := tText_app x.s r (by omega) (by simp)
  go_enter Tryd.func10, Tryd.ntmps10
  go_wp2_with fail
  rw [← HWA.out]
  go_region_with (go_at_call 22; refine (dtext_is HD.out.drew (by omega) (by omega) (by have := HLN.out; show (eText x.s ++ r).length ≤ _; omega) HT.out).mono ?_; rintro e w1 ⟨rfl, hc, hd⟩; have d2 := hc.cell (.inl (by omega)) c2; have HC := hid hc; have HD1 := hid hd; clear hc hd)
  all_goals go_wp2_with fail
  all_goals go_ret
  all_goals exact ⟨by simp [Act.put], (Cel.of_below HB.out).drew.trans HC.out, HD1.out⟩

set_option maxHeartbeats 1000000 in
theorem got_6 {w : World} {b o : Nat} {r : List Nat} {x : It} (hk : x.kind = 6) (hx : x.ok w) (h : DecAt w b o (.at (x.bytes ++ r))) (hl : (x.bytes ++ r).length ≤ 1099511627776) :
    Calls Tryd.prog 10 #[.pointer (some ⟨b, o, none⟩), x.val] w fun e w' => e = .returned (.bool true) ∧ Cel b o 2 w w' ∧ DecAt w' b o (.at r) := by
  have hb : x.bytes = x.s := by unfold It.bytes; simp [hk]
  rw [hb] at h hl
  clear hb
  obtain ⟨wa, hwa⟩ : ∃ wa, wa = w.alloc (.cells x.cells 41) := ⟨_, rfl⟩
  have hvl : x.val = .agg x.cells := rfl
  have hba : Below w.heap.size w wa := by rw [hwa]; exact Below.al (Below.refl _ _) _
  have hbx : BoxI wa w.heap.size x := by rw [hwa]; exact boxI w x _
  have ⟨c0, c1, c2, c3, c4, c5, c6⟩ := hbx
  have HX := hid (hx.later hba)
  have HD := hid (h.later hba)
  have HB := hid hba
  have hn := hx.n
  have HWA := hid hwa
  have hbl := h.lt
  have HLN := hid hl
  have hwd : (w.alloc (.cells x.cells 41)).drew = wa.drew := by rw [HWA.out]
  rw [hk] at c0
  clear hx h hba hbx hl hwa
  have hsz : ((ofNats x.s).size : Int) = (x.s.length : Int) := by rw [ofNats_size]
  have hsl : x.s.length ≤ 1099511627776 := by have := HX.out.bulk; unfold It.bulk at this; omega
  have HT : Hid (tRaw (x.s.length : Int).toNat (.at (x.s ++ r)) = (x.s, .at r)) := (by show tRaw (x.s.length : Int).toNat (.at (x.s ++ r)) = (x.s, .at r); rw [Int.toNat_natCast]; exact tRaw_app x.s r)
  go_enter Tryd.func10, Tryd.ntmps10
  go_wp2_with fail
  rw [← HWA.out]
  go_region_with (go_at_call 26; refine (draw_is HD.out.drew (by omega) (by omega) (by have := HLN.out; show (x.s ++ r).length ≤ _; omega) HT.out).mono ?_; rintro e w1 ⟨rfl, hc, hd⟩; have d2 := hc.cell (.inl (by omega)) c2; have HC := hid hc; have HD1 := hid hd; clear hc hd)
  all_goals go_wp2_with fail
  all_goals go_ret
  all_goals exact ⟨by simp [Act.put], (Cel.of_below HB.out).drew.trans HC.out, HD1.out⟩

set_option maxHeartbeats 1000000 in
theorem got_7 {w : World} {b o : Nat} {r : List Nat} {x : It} (hk : x.kind = 7) (hx : x.ok w) (h : DecAt w b o (.at (x.bytes ++ r))) (hl : (x.bytes ++ r).length ≤ 1099511627776) :
    Calls Tryd.prog 10 #[.pointer (some ⟨b, o, none⟩), x.val] w fun e w' => e = .returned (.bool true) ∧ Cel b o 2 w w' ∧ DecAt w' b o (.at r) := by
  have hb : x.bytes = pkN x.st := by unfold It.bytes; simp [hk]
  rw [hb] at h hl
  clear hb
  obtain ⟨wa, hwa⟩ : ∃ wa, wa = w.alloc (.cells x.cells 41) := ⟨_, rfl⟩
  have hvl : x.val = .agg x.cells := rfl
  have hba : Below w.heap.size w wa := by rw [hwa]; exact Below.al (Below.refl _ _) _
  have hbx : BoxI wa w.heap.size x := by rw [hwa]; exact boxI w x _
  have ⟨c0, c1, c2, c3, c4, c5, c6⟩ := hbx
  have HX := hid (hx.later hba)
  have HD := hid (h.later hba)
  have HB := hid hba
  have hn := hx.n
  have HWA := hid hwa
  have hbl := h.lt
  have HLN := hid hl
  have hwd : (w.alloc (.cells x.cells 41)).drew = wa.drew := by rw [HWA.out]
  rw [hk] at c0
  clear hx h hba hbx hl hwa
  have HT : Hid (tStamp (.at (pkN x.st ++ r)) = (x.st, .at r)) := tStamp_app HX.out.st r
  go_enter Tryd.func10, Tryd.ntmps10
  go_wp2_with fail
  rw [← HWA.out]
  go_region_with (go_at_call 28; refine (dstamp_is HD.out.drew (by have := HLN.out; show (pkN x.st ++ r).length ≤ _; omega) HT.out).mono ?_; rintro e w1 ⟨rfl, hc, hd⟩; have d4 := hc.cell (.inl (by omega)) c4; have d5 := hc.cell (.inl (by omega)) c5; have d6 := hc.cell (.inl (by omega)) c6; have HC := hid hc; have HD1 := hid hd; clear hc hd)
  all_goals go_wp2_with fail
  all_goals go_ret
  all_goals exact ⟨by simp [Act.put], (Cel.of_below HB.out).drew.trans HC.out, HD1.out⟩

set_option maxHeartbeats 1000000 in
theorem got_0 {w : World} {b o : Nat} {r : List Nat} {x : It} (hk : ¬ (1 ≤ x.kind ∧ x.kind ≤ 7)) (hx : x.ok w) (h : DecAt w b o (.at (x.bytes ++ r))) (hl : (x.bytes ++ r).length ≤ 1099511627776) :
    Calls Tryd.prog 10 #[.pointer (some ⟨b, o, none⟩), x.val] w fun e w' => e = .returned (.bool true) ∧ Cel b o 2 w w' ∧ DecAt w' b o (.at r) := by
  have hb : x.bytes = [] := by unfold It.bytes; rw [if_neg (by omega), if_neg (by omega), if_neg (by omega), if_neg (by omega), if_neg (by omega), if_neg (by omega), if_neg (by omega)]
  rw [hb] at h hl
  clear hb
  obtain ⟨wa, hwa⟩ : ∃ wa, wa = w.alloc (.cells x.cells 41) := ⟨_, rfl⟩
  have hvl : x.val = .agg x.cells := rfl
  have hba : Below w.heap.size w wa := by rw [hwa]; exact Below.al (Below.refl _ _) _
  have hbx : BoxI wa w.heap.size x := by rw [hwa]; exact boxI w x _
  have ⟨c0, c1, c2, c3, c4, c5, c6⟩ := hbx
  have HX := hid (hx.later hba)
  have HD := hid (h.later hba)
  have HB := hid hba
  have hn := hx.n
  have HWA := hid hwa
  have hbl := h.lt
  have HLN := hid hl
  have hwd : (w.alloc (.cells x.cells 41)).drew = wa.drew := by rw [HWA.out]
  skip
  clear hx h hba hbx hl hwa
  have e1 : decide (x.kind = 1) = false := by simp; omega
  have f1 : (x.kind == 1) = false := by simp; omega
  have e2 : decide (x.kind = 2) = false := by simp; omega
  have f2 : (x.kind == 2) = false := by simp; omega
  have e3 : decide (x.kind = 3) = false := by simp; omega
  have f3 : (x.kind == 3) = false := by simp; omega
  have e4 : decide (x.kind = 4) = false := by simp; omega
  have f4 : (x.kind == 4) = false := by simp; omega
  have e5 : decide (x.kind = 5) = false := by simp; omega
  have f5 : (x.kind == 5) = false := by simp; omega
  have e6 : decide (x.kind = 6) = false := by simp; omega
  have f6 : (x.kind == 6) = false := by simp; omega
  have e7 : decide (x.kind = 7) = false := by simp; omega
  have f7 : (x.kind == 7) = false := by simp; omega
  have HK := hid hk
  clear hk
  go_enter Tryd.func10, Tryd.ntmps10
  go_wp2_with fail
  go_ret
  try rw [← HWA.out]
  exact ⟨rfl, Cel.of_below HB.out, HD.out⟩

end Go.Proofs.YtchfoipkaookmabDoor
