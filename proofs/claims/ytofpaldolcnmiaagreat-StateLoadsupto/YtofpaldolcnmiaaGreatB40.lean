import Derived.Test.YtofpaldolcnmiaaGreatB37
import Derived.Test.YtofpaldolcnmiaaGreatB39
import Derived.Test.YtofpaldolcnmiaaGreatB31
import Derived.Laws.Tables
import Derived.Laws.Rows
set_option linter.unusedVariables false
set_option maxHeartbeats 4000000
namespace Go.Proofs.YtofpaldolcnmiaaGreat
namespace Ig
open Go.RowKit Go.Sort Ys
theorem bne_of {a b : ByteArray} (h : a ≠ b) : (a.toList == b.toList) = false := by
 rw [beq_eq_false_iff_ne]; intro h9; rw [ByteArray.toList_eq, ByteArray.toList_eq] at h9; exact h (ByteArray.ext (Array.toList_inj.1 h9))
theorem take_refuse {w : World} {p b o : Nat} {n : Int} {d : Ds} (hok : takeP n d = none) (kp : w.heap[p]? = some (.cells (scs (zero n) none none none none) SS (0, 0))) (h : DOk w w b o d) (hne : p ≠ b) :
  Calls Tryz.prog 38 #[.pointer (some ⟨p, 0, none⟩), .pointer (some ⟨b, o, none⟩)] w fun e w' => e = .returned (.bool false) ∧ Onl (fun k => k = p ∨ k = b) w w' := by
 by_cases hx : (tU 4294967295 d).1 = n
 ·exact take_none hok hx kp h hne
 ·exact take_no hx kp h hne
theorem Load_none {w : World} {n : Int} {bs : List Nat} (hb : B8 bs) (hl : bs.length ≤ 1099511627776) (ht : takeP n (.at bs) = none) :
  Calls Tryz.prog 9 #[.int .u32 n, .string (ofNats bs)] w fun e w' => e = .returned (.tuple #[.pointer none, .int .i64 131]) ∧ Below w.heap.size w w' := by
 obtain ⟨w1, hw1⟩ : ∃ w1, w1 = w.alloc (.cells (scs (zero n) none none none none) SS) := ⟨_, rfl⟩; have hb1 : Below w.heap.size w w1 := by rw [hw1]; exact Below.al (Below.refl _ _) _
 have k1 : w1.heap[w.heap.size]? = some (.cells (scs (zero n) none none none none) SS (0, 0)) := by rw [hw1]; exact World.alloc_heap_new _ _
 have NW : Hid (Calls Tryz.prog 28 #[.int .u32 n] w fun e w' => e = .returned (.pointer (some ⟨w.heap.size, 0, none⟩)) ∧ w' = w1) := by rw [hw1]; exact hid (new_eq w n)
 have HB1 := hid hb1; have K1 := hid k1; have HS1 : Hid (w.heap.size < w1.heap.size) := (Array.getElem?_eq_some_iff.1 k1).1; have HB8 := hid hb; have HL := hid hl; have HT := hid ht; obtain ⟨S, hS⟩ : ∃ S, S = ofNats bs := ⟨_, rfl⟩; have HSS := hid hS; rw [← hS]; clear hb hl ht hb1 k1 hw1 hS; go_enter Tryz.func9, Tryz.ntmps9
 go_wp2_with fail
 refine NW.out.mono ?_; rintro e w1' ⟨rfl, rfl⟩; go_wp2_with fail
 refine (open_at HSS.out HB8.out (p := w1'.heap.size) rfl).mono ?_; rintro e w2 ⟨rfl, hb2, hp2, hd2⟩; have hD : DOk w2 w2 w1'.heap.size 0 (.at bs) := ⟨Cel.refl _ _ _ _, hd2, HL.out⟩; have K2 := (hb2.block _ HS1.out).trans K1.out; have TK := hid (take_refuse HT.out K2 hD (by have := HS1.out; omega)); have HB2 := hid (Below.on HB1.out hb2); clear hb2 hd2 hD K2; go_wp2_with fail
 refine TK.out.mono ?_; rintro e w3 ⟨rfl, ho3⟩; have hsw : w.heap.size ≤ w2.heap.size := HB2.out.size; have HB3 : Hid (Below w.heap.size w w3) := HB2.out.trans (ho3.below (fun k hk => by have := HS1.out; omega) hsw); clear ho3 TK; go_wp2_with fail
 refine bodyPost_ret (results_tmp2 rfl _ _ _) rfl ?_; exact ⟨rfl, HB3.out⟩
theorem Load_bad {w : World} {n : Int} {bs : List Nat} {s : Ps} (hb : B8 bs) (hl : bs.length ≤ 1099511627776) (ht : takeP n (.at bs) = some s) (hi : ImOk s) (he : imgB s ≠ bs) (hm : (imgB s).length ≤ 281474976710656) :
  Calls Tryz.prog 9 #[.int .u32 n, .string (ofNats bs)] w fun e w' => e = .returned (.tuple #[.pointer none, .int .i64 131]) ∧ Below w.heap.size w w' := by
 obtain ⟨w1, hw1⟩ : ∃ w1, w1 = w.alloc (.cells (scs (zero n) none none none none) SS) := ⟨_, rfl⟩; have hb1 : Below w.heap.size w w1 := by rw [hw1]; exact Below.al (Below.refl _ _) _
 have k1 : w1.heap[w.heap.size]? = some (.cells (scs (zero n) none none none none) SS (0, 0)) := by rw [hw1]; exact World.alloc_heap_new _ _
 have NW : Hid (Calls Tryz.prog 28 #[.int .u32 n] w fun e w' => e = .returned (.pointer (some ⟨w.heap.size, 0, none⟩)) ∧ w' = w1) := by rw [hw1]; exact hid (new_eq w n)
 have HB1 := hid hb1; have K1 := hid k1; have HS1 : Hid (w.heap.size < w1.heap.size) := (Array.getElem?_eq_some_iff.1 k1).1; have HB8 := hid hb; have HL := hid hl; have HT := hid ht; have HI := hid hi; have HM := hid hm; obtain ⟨T, hT⟩ : ∃ T, T = ofNats (imgB s) := ⟨_, rfl⟩; have HTT := hid hT; obtain ⟨S, hS⟩ : ∃ S, S = ofNats bs := ⟨_, rfl⟩; have HSS := hid hS; have sne : S ≠ T := fun h9 => he (ofNats_inj hi.b8 hb (hT ▸ hS ▸ h9.symm))
 have sb : (S.toList == T.toList) = false := bne_of sne; have sb2 : (T.toList == S.toList) = false := bne_of fun h9 => sne h9.symm
 rw [← hS]; clear hb hl ht hi he hm hb1 k1 hw1 hS hT sne; go_enter Tryz.func9, Tryz.ntmps9
 go_wp2_with fail
 refine NW.out.mono ?_; rintro e w1' ⟨rfl, rfl⟩; go_wp2_with fail
 refine (open_at HSS.out HB8.out (p := w1'.heap.size) rfl).mono ?_; rintro e w2 ⟨rfl, hb2, hp2, hd2⟩; have hD : DOk w2 w2 w1'.heap.size 0 (.at bs) := ⟨Cel.refl _ _ _ _, hd2, HL.out⟩; have K2 := (hb2.block _ HS1.out).trans K1.out; have TK := hid (take_yes HT.out K2 hD (by have := HS1.out; omega)); have HB2 := hid (Below.on HB1.out hb2); clear hb2 hd2 hD K2; go_wp2_with fail
 refine TK.out.mono ?_; rintro e w3 ⟨rfl, ⟨F, m1, m2, m, V, I, hT3, hf3⟩, ho3⟩; have hsw : w.heap.size ≤ w2.heap.size := HB2.out.size; have HB3 : Hid (Below w.heap.size w w3) := HB2.out.trans (ho3.below (fun k hk => by have := HS1.out; omega) hsw); have HT3 := hid hT3; have HF3 : Hid (∀ k, F k ∨ Bm w.heap.size m1 m2 m k → w.heap.size ≤ k) := fun k hk => by
  rcases hf3 k hk with h9 | h9
  ·omega
  ·omega
 have IM : Hid (Calls Tryz.prog 10 #[.pointer (some ⟨w.heap.size, 0, none⟩)] w3 fun e w' => e = .returned (.string T) ∧ Below w3.heap.size w3 w') := by
  rw [HTT.out]; exact hid (Image_is HT3.out HI.out HM.out)
 clear hT3 hf3 ho3 TK; go_wp2_with (go_at_call 10; refine IM.out.mono ?_; rintro e w4 ⟨rfl, hb4⟩)
 refine bodyPost_ret (results_tmp2 rfl _ _ _) rfl ?_; exact ⟨rfl, Below.on HB3.out hb4⟩
theorem fill_tells {n top : Int} {wm : Vs.Sp} {H : List Lk.Hd} {E : List Lg.En} {V : List Vs.Kv} {s : Ps} (h : fillP n top wm H E V = some s) : s.node = n ∧ s.ceil = top ∧ s.wm = wm ∧ s.H = H ∧ s.E = E ∧ Vs.dumpM s.M = V := by
 unfold fillP at h; split at h
 ·rename_i hfv; split at h
  ·cases h
  ·rename_i s1 hfe; split at h
   ·cases h
   ·rename_i s2 hfh; split at h
    ·cases h
    ·injection h with h
     subst h; obtain ⟨⟨a1, a2, a3, a4, a5, a6⟩, a7, a8⟩ := feS_some E [] _ s1 rfl hfe; rw [List.nil_append] at a1; obtain ⟨⟨b1, b2, b3, b4, b5, b6⟩, b7, b8, b9⟩ := fhS_some H [] s1 s2 a2 List.Pairwise.nil hfh; rw [List.nil_append] at b1; unfold fvB at hfv; simp only [Bool.and_eq_true, List.all_eq_true, decide_eq_true_eq] at hfv; obtain ⟨v1, v2, v3⟩ := hfv; have hVs := Vs.ld_sorted V.length (Nat.le_refl _) v2; rw [List.take_length] at hVs; refine ⟨b4.trans a4, b5.trans a5, b6.trans a6, b1, b2.trans a1, ?_⟩; rw [b3, a3]; exact (Vs.load_is V hVs).2
 ·cases h
theorem len_flat {α : Type} {e : α → List Nat} : ∀ (l : List α), (∀ x ∈ l, e x ≠ []) → l.length ≤ (l.flatMap e).length
 | [], _ => Nat.le_refl _
 | x :: l, h => by
  have h1 := h x (by simp); have h2 : (e x).length ≠ 0 := fun h9 => h1 (List.eq_nil_of_length_eq_zero h9)
  have h3 := len_flat l (fun y hy => h y (by simp [hy])); rw [List.flatMap_cons, List.length_append, List.length_cons]; omega
theorem eL_perm {α : Type} {e : α → List Nat} {l k : List α} (h : l.Perm k) : (eL e l).length = (eL e k).length := by
 unfold eL; rw [List.length_append, List.length_append, h.length_eq, (h.flatMap_right e).length_eq]
theorem take_tells {n : Int} {bs : List Nat} {s : Ps} (hb : B8 bs) (hl : bs.length ≤ 1400000) (ht : takeP n (.at bs) = some s) : ImOk s ∧ (imgB s).length ≤ bs.length + 86 := by
 obtain ⟨h1, h2⟩ := img_taken hb; unfold takeP at ht; split at ht
 ·rename_i hn; obtain ⟨⟨x0, x1, x2, hs, es, vs⟩, hc⟩ : ∃ c, c = (tImg (.at bs)).1 := ⟨_, rfl⟩; rw [← hc] at h1 h2 ht hn; obtain ⟨q1, q2, q3, q4, q5, q6⟩ := fill_tells ht; obtain ⟨o1, o2, o3, ⟨o4, o4'⟩, ⟨o5, o5'⟩, o6, o6'⟩ := h1; have hE : (eImg (x0, x1, x2, hs, es, vs)).length = (eU x0).length + ((eU x1).length + ((eS x2).length + ((eL eHeld hs).length + ((eL eEntry es).length + (eL eVersion vs).length)))) := by
   simp only [eImg, eP, List.length_append]
  have l4 : hs.length ≤ (eL eHeld hs).length := by
   have := len_flat hs (fun x hx => held_codec.pos x (o4 x hx)); unfold eL; rw [List.length_append]; omega
  have l5 : es.length ≤ (eL eEntry es).length := by
   have := len_flat es (fun x hx => entry_codec.pos x (o5 x hx)); unfold eL; rw [List.length_append]; omega
  have l6 : vs.length ≤ (eL eVersion vs).length := by
   have := len_flat vs (fun x hx => version_codec.pos x (o6 x hx)); unfold eL; rw [List.length_append]; omega
  have hI : (imgB s).length = (eImg (x0, x1, x2, hs, es, vs)).length := by
   rw [hE]; unfold imgB imgOf; simp only [eImg, eP, List.length_append]; rw [eL_perm (srt_perm (f := Lk.Hd.id) s.H), eL_perm (srt_perm (f := Lg.En.id) s.E), q1, q2, q3, q4, q5, q6, ← show x0 = n from hn]
  refine ⟨⟨?_, ?_, ?_, ?_, ?_, ?_, ?_, ?_, ?_⟩, by omega⟩
  ·rw [q1, ← show x0 = n from hn]; exact o1
  ·rw [q2]; exact o2
  ·rw [q3]; exact o3
  ·rw [q4]; exact o4
  ·rw [q5]; exact o5
  ·rw [q6]; exact o6
  ·rw [q4]; show hs.length ≤ _; omega
  ·rw [q5]; show es.length ≤ _; omega
  ·rw [← Vs.dump_len, q6]; show vs.length ≤ _; omega
 ·cases ht
def Lds (n : Int) (bs : List Nat) : Prop := ∃ s, takeP n (.at bs) = some s ∧ imgB s = bs
theorem Load_not {w : World} {n : Int} {bs : List Nat} (hb : B8 bs) (hl : bs.length ≤ 1400000) (hn : ¬ Lds n bs) :
  Calls Tryz.prog 9 #[.int .u32 n, .string (ofNats bs)] w fun e w' => e = .returned (.tuple #[.pointer none, .int .i64 131]) ∧ Below w.heap.size w w' := by
 cases ht : takeP n (.at bs) with
 | none => exact Load_none hb (by omega) ht
 | some s =>
  obtain ⟨h1, h2⟩ := take_tells hb hl ht; exact Load_bad hb (by omega) ht h1 (fun h9 => hn ⟨s, ht, h9⟩) (by omega)
theorem lds_iff {n : Int} {bs : List Nat} (hb : B8 bs) (hl : bs.length ≤ 1400000) : Lds n bs ↔ ∃ top wm H E V, okImg (n, top, wm, H, E, V) ∧ Snd top wm H E V ∧ eImg (n, top, wm, H, E, V) = bs := by
 constructor
 ·rintro ⟨s, ht, hi⟩; obtain ⟨h1, -⟩ := take_tells hb hl ht; have hk := h1.okI; have ha := img_codec.app _ hk []; rw [List.append_nil, show eImg (imgOf s) = bs from hi] at ha; unfold takeP at ht; rw [ha] at ht; split at ht
  ·rename_i hn; have hn' : s.node = n := hn; have hS := snd_of ht (by unfold imgOf; rw [hn']); refine ⟨_, _, _, _, _, ?_, hS, ?_⟩
   ·rw [← hn']; exact hk
   ·rw [← hn']; exact hi
  ·cases ht
 ·rintro ⟨top, wm, H, E, V, hk, hS, hi⟩; have ha := img_codec.app _ hk []; rw [List.append_nil, hi] at ha; refine ⟨sndS n top wm H E V, ?_, ?_⟩
  ·unfold takeP; rw [ha]; show (if n = n then _ else _) = _
   rw [if_pos rfl]; exact fill_yes hS hk.2.1.2 hk.2.2.1.1.2
  ·unfold imgB; rw [snd_img hS, hi]
end Ig
section
open Go.RowKit Go.Sort
theorem small_any (s : ByteArray) (w : World) (hs : s.size ≤ 8) :
  Calls Tryz.prog 211 #[.string s] w fun e w' => e = .returned (.int .u64 (numL s.data.toList 0)) ∧ w' = w := by
 go_enter Tryz.func211, Tryz.ntmps211
 go_wp2_with fail
 go_loop [3, 4] (fun s3 s7 => ∃ k : Nat, k ≤ s.size ∧ s3 = .int .u64 (numL (s.data.toList.take k) 0) ∧ s7 = .int .i64 k) (fun _ i => s.size - (intOf i).toNat)
 case atStart => exact ⟨0, by omega, rfl, rfl⟩
 case round =>
  obtain ⟨k, hk, rfl, rfl⟩ := hrel; have hb := numL_bound (s.data.toList.take k); have hl : (s.data.toList.take k).length ≤ k := List.length_take_le _ _; by_cases hlt : k < s.size
  ·have hn := numL_snoc (s.data.toList.take k) s[k] 0; rw [← take_snoc s k hlt] at hn; have HN := hid hn; obtain ⟨x, hx⟩ : ∃ x, x = numL (s.data.toList.take k) 0 := ⟨_, rfl⟩; rw [← hx] at hb HN ⊢; have hx0 := hb.1; have hx1 : x < 72057594037927936 := by
    refine Int.lt_of_lt_of_le hb.2 ?_; exact Int.le_trans (pow256_le (show (s.data.toList.take k).length ≤ 7 by omega)) (by decide)
   clear hb hl hn hx; go_wp2
   have hbyte : IntKind.u64.wrap (s[k].toNat : Int) = s[k].toNat := by
    rw [IntKind.wrap_u64]; have := s[k].toNat_lt; omega
   have hsum : IntKind.u64.wrap (x * 256 + (s[k].toNat : Int)) = x * 256 + s[k].toNat := by
    rw [IntKind.wrap_u64]; have := s[k].toNat_lt; omega
   refine ⟨⟨k + 1, by omega, ?_, by go_num⟩, ?_⟩
   ·rw [hbyte, hsum, HN.out]
   ·simp [intOf]; omega
  ·obtain rfl : k = s.size := by omega
   rw [List.take_of_length_le (by simp)]; clear hb hl; go_wp2
   go_ret
   exact ⟨rfl, rfl⟩
theorem small_piece (s : ByteArray) (i j : Nat) (w : World) (hs : (s.extract i j).size ≤ 8) :
  Calls Tryz.prog 211 #[.string (s.extract i j)] w fun e w' => e = .returned (.int .u64 (piece s i j)) ∧ w' = w := small_any (s.extract i j) w hs
theorem refunpack_no (s : ByteArray) (w : World) (hs : ((s.size : Int) != 16) = true) :
  Calls Tryz.prog 165 #[.string s] w fun e w' => e = .returned (.tuple #[stv 0 0 0, .int .i64 10]) ∧ Below w.heap.size w w' := by
 go_enter Tryz.func165, Tryz.ntmps165
 go_wp2
 exact bodyPost_ret (v := .tuple #[stv 0 0 0, .int .i64 10]) (by simp [results, Tryz.results165, go_sem]) rfl ⟨rfl, Below.al (Below.refl _ _) _⟩
theorem refunpack_yes (s : ByteArray) (w : World) (hs : s.size = 16) :
  Calls Tryz.prog 165 #[.string s] w fun e w' => e = .returned (.tuple #[stv (piece s 0 8) (piece s 8 12) (piece s 12 16), .int .i64 0]) ∧ Below w.heap.size w w' := by
 have hs' : ((s.size : Int) != 16) = false := by rw [hs]; rfl
 have hw1 : IntKind.u32.wrap (piece s 8 12) = piece s 8 12 := by
  have := piece_bound s (i := 8) (j := 12) (n := 4) (by simp [hs]); rw [wrap_u32_eq]; omega
 have hw2 : IntKind.u32.wrap (piece s 12 16) = piece s 12 16 := by
  have := piece_bound s (i := 12) (j := 16) (n := 4) (by simp [hs]); rw [wrap_u32_eq]; omega
 go_enter Tryz.func165, Tryz.ntmps165
 go_wp2_with fail
 go_region_held3 (fun w' => True)
  (trivial)
  (first | (go_at_call 211; refine (small_piece s _ _ _ (by simp [hs])).mono ?_; rintro e w1 ⟨rfl, rfl⟩))
 go_wp2_with fail
 exact bodyPost_ret (v := .tuple #[stv (piece s 0 8) (piece s 8 12) (piece s 12 16), .int .i64 0]) (by simp [results, Tryz.results165, go_sem]) rfl ⟨rfl, (Below.al (Below.refl _ _) _).drew⟩
end
namespace Ig
open Go.RowKit Go.Sort
theorem b8_drop {l : List Nat} (h : B8 l) (n : Nat) : B8 (l.drop n) := fun b hb => h b (List.mem_of_mem_drop hb)
theorem ofN_get {l : List Nat} (h : B8 l) (i : Nat) (hi : i < (ofNats l).size) : ((ofNats l)[i]'hi).toNat = l.getD i 0 := by
 have hl : i < l.length := by rw [ons] at hi; exact hi
 have e : (ofNats l)[i]'hi = UInt8.ofNat l[i] := by
  show (ofNats l).data[i]'_ = _
  simp [ofNats]
 have h2 : l.getD i 0 = l[i] := by simp [List.getD, hl]
 rw [e, UInt8.toNat_ofNat', h2]; have := h _ (List.getElem_mem hl); omega
theorem ix_ofN {t : List Nat} {k c : Nat} (ht : B8 t) (hc : t[k]? = some c) (w : World) : (Instr.index 9 (.string (ofNats t)) (.int .i64 (k : Int))).run Tryz.prog w = .ok (.int .u8 (c : Int)) w := by
 have hk : k < t.length := (List.getElem?_eq_some_iff.1 hc).1; have hd : t.getD k 0 = c := by simp [List.getD, hc]
 rw [run_index_string w 9 (ofNats t) .i64 k Tryz.underlying9, dif_pos (by rw [ons]; omega)]; have := ofN_get ht k (by rw [ons]; exact hk); rw [hd] at this; simp [this]
structure Vw (w : World) (p : Nat) (S l : List Nat) : Prop where
 box : ∃ a : Nat, w.heap[p]? = some (.cells #[.string (ofNats S), .int .i64 (a : Int)] 157 (0, 0)) ∧ a ≤ S.length ∧ l = S.drop a
 b8 : B8 S
 len : S.length ≤ 1099511627776
theorem Vw.lt {w : World} {p : Nat} {S l : List Nat} (h : Vw w p S l) : p < w.heap.size := by
 obtain ⟨a, hb, _⟩ := h.box; exact (Array.getElem?_eq_some_iff.1 hb).1
theorem Vw.later {w w' : World} {p : Nat} {S l : List Nat} (h : Vw w p S l) (hb : Below w.heap.size w w') : Vw w' p S l := by
 obtain ⟨a, h0, h1, h2⟩ := h.box; exact ⟨⟨a, by rw [hb.block p h.lt]; exact h0, h1, h2⟩, h.b8, h.len⟩
theorem Vw.bl {w : World} {p : Nat} {S l : List Nat} (h : Vw w p S l) : B8 l ∧ l.length ≤ 1099511627776 := by
 obtain ⟨a, h0, h1, h2⟩ := h.box; have := h.len; rw [h2]; exact ⟨b8_drop h.b8 a, by rw [List.length_drop]; omega⟩
theorem Vw.drew {w : World} {p : Nat} {S l : List Nat} (h : Vw w p S l) : Vw w.drew p S l := ⟨h.box, h.b8, h.len⟩
theorem put_at {w : World} {p : Nat} {u v x : Value} {T : TypeId} (h : w.heap[p]? = some (.cells #[u, v] T (0, 0))) : (w.setCell ⟨p, 1, none⟩ x).heap[p]? = some (.cells #[u, x] T (0, 0)) := by
 exact heap_setCell_same w p 1 _ _ x h
theorem vone_is {w : World} {p : Nat} {S l : List Nat} (h : Vw w p S l) :
  Calls Tryz.prog 101 #[.pointer (some ⟨p, 0, none⟩)] w fun e w' => e = .returned (.int .u8 ((vOne l).1 : Int)) ∧ Vw w' p S (vOne l).2 ∧ Onl (fun k => k = p) w w' := by
 obtain ⟨a, hb, ha, rfl⟩ := h.box; have h8 := h.b8; have hl := h.len; have hsz : (ofNats S).size = S.length := ons S; have c0 : w.cell? ⟨p, 0, none⟩ = some (.string (ofNats S)) := by rw [Lib.cell_of_heap hb]; rfl
 have c1 : w.cell? ⟨p, 1, none⟩ = some (.int .i64 (a : Int)) := by rw [Lib.cell_of_heap hb]; rfl
 have f1 : w.frozen? ⟨p, 1, none⟩ = false := Lib.frozen_of_heap hb 1; by_cases hlt : a < S.length
 ·have e1 : vOne (S.drop a) = (S[a], S.drop (a + 1)) := by rw [List.drop_eq_getElem_cons hlt]; rfl
  have hix : ∀ w, (Instr.index 9 (.string (ofNats S)) (.int .i64 (a : Int))).run Tryz.prog w = .ok (.int .u8 (S[a] : Int)) w := fun w => ix_ofN h8 (List.getElem?_eq_getElem hlt) w
  have d1 : decide ((S.length : Int) ≤ (a : Int)) = false := by simp; omega
  have d2 : ¬ S.length ≤ a := by omega
  have kw1 : IntKind.i64.wrap ((a : Int) + 1) = (a : Int) + 1 := by rw [IntKind.wrap_i64]; omega
  have kw2 : IntKind.i64.wrap (a : Int) = (a : Int) := by rw [IntKind.wrap_i64]; omega
  have HV : Hid (Vw (w.setCell ⟨p, 1, none⟩ (.int .i64 ((a : Int) + 1))) p S (S.drop (a + 1))) := hid ⟨⟨a + 1, put_at hb, hlt, rfl⟩, h8, hl⟩; have HO : Hid (Onl (fun k => k = p) w (w.setCell ⟨p, 1, none⟩ (.int .i64 ((a : Int) + 1)))) := hid ((Onl.refl (fun k => k = p) w).set (p := p) rfl 1 _); rw [e1]; generalize S[a] = b at *
  clear e1 hb h8 h; go_enter Tryz.func101, Tryz.ntmps101
  go_wp2_with fail
  go_region
  go_wp2_with fail
  go_region
  go_wp2_with fail
  go_ret
  exact ⟨rfl, HV.out.drew.drew, HO.out.drew.drew⟩
 ·have e1 : vOne (S.drop a) = (0, S.drop a) := by
   have : S.drop a = [] := List.drop_eq_nil_of_le (by omega); rw [this]; rfl
  have d1 : decide ((S.length : Int) ≤ (a : Int)) = true := by simp; omega
  have d2 : S.length ≤ a := by omega
  have HV := hid h; rw [e1]; clear e1 hb h8 h; go_enter Tryz.func101, Tryz.ntmps101
  go_wp2_with fail
  go_region
  go_wp2_with fail
  go_ret
  exact ⟨rfl, HV.out.drew, (Onl.refl _ _).drew⟩
theorem vOne_lt {l : List Nat} (h : B8 l) : (vOne l).1 < 256 := by
 cases l with
 | nil => simp [vOne]
 | cons b l => exact h b (by simp)
theorem vNumK_lt : ∀ (k n s : Nat) (l : List Nat), n < 18446744073709551616 → (vNumK k n s l).1 < 18446744073709551616
 | 0, n, s, l, h => h
 | k + 1, n, s, l, h => by
  rw [vNumK]; split
  ·exact Nat.mod_lt _ (by omega)
  ·exact vNumK_lt k _ _ _ (Nat.mod_lt _ (by omega))
theorem vNum_lt (l : List Nat) : (vNum l).1 < 18446744073709551616 := vNumK_lt _ _ _ _ (by omega)
theorem vnum_is {w : World} {p : Nat} {S l : List Nat} (h : Vw w p S l) :
  Calls Tryz.prog 96 #[.pointer (some ⟨p, 0, none⟩)] w fun e w' => e = .returned (.int .u64 ((vNum l).1 : Int)) ∧ Vw w' p S (vNum l).2 ∧ Onl (fun k => k = p) w w' := by
 have HV0 := hid h; obtain ⟨R, hR⟩ : ∃ R, R = vNum l := ⟨_, rfl⟩; have HR := hid hR; rw [← hR]; clear h hR; go_enter Tryz.func96, Tryz.ntmps96
 go_wp2_with fail
 go_loopg [3, 4, 5] 10 (fun g s2 s3 s4 wr => ∃ (i n s : Nat) (l' : List Nat), i ≤ 10 ∧ g = 10 - i ∧ s2 = .int .u64 n ∧ s3 = .int .u64 s ∧ s4 = .int .i64 i ∧ n < 18446744073709551616 ∧ s < 18446744073709551616 ∧ Hid (vNumK (10 - i) n s l' = R) ∧ Hid (Vw wr p S l') ∧ Hid (Onl (fun k => k = p) w wr))
 case atStart => exact ⟨0, 0, 1, l, by omega, by omega, rfl, rfl, rfl, by omega, by omega, hid HR.out.symm, HV0, hid (Onl.refl _ _)⟩
 case round =>
  obtain ⟨i, n, s, l', hi, rfl, rfl, rfl, rfl, hn, hs, HE, HV, HO⟩ := hrel; by_cases hlt : i < 10
  ·have hb := vOne_lt HV.out.bl.1; have CO := hid (vone_is HV.out); have HE2 : Hid (R = if (vOne l').1 < 128 then ((n + (vOne l').1 % 128 * s) % 18446744073709551616, (vOne l').2) else vNumK (10 - (i + 1)) ((n + (vOne l').1 % 128 * s) % 18446744073709551616) (s * 128 % 18446744073709551616) (vOne l').2) := hid (by
    have h1 := HE.out; have h2 : 10 - i = (10 - (i + 1)) + 1 := by omega
    rw [h2, vNumK] at h1; exact h1.symm)
   obtain ⟨⟨b, r⟩, hbr⟩ : ∃ y, y = vOne l' := ⟨_, rfl⟩; rw [← hbr] at hb CO HE2; simp only at hb CO HE2; have hlt' : (i : Int) < 10 := by omega
   have e1 : ((b : Int)).tmod 128 = ((b % 128 : Nat) : Int) := by rw [Int.tmod_eq_emod_of_nonneg (by omega)]; omega
   have e1' : (b : Int) % 128 = ((b % 128 : Nat) : Int) := by omega
   have hq : b % 128 < 128 := by omega
   obtain ⟨q, hqe⟩ : ∃ q, q = b % 128 := ⟨_, rfl⟩; rw [← hqe] at e1 e1' hq HE2; obtain ⟨m, hm⟩ : ∃ m, m = q * s := ⟨_, rfl⟩; have e8 : IntKind.u8.wrap (q : Int) = (q : Int) := by rw [IntKind.wrap_u8]; omega
   have e64 : IntKind.u64.wrap (q : Int) = (q : Int) := by rw [IntKind.wrap_u64]; omega
   have e2 : IntKind.u64.wrap ((q : Int) * (s : Int)) = ((m % 18446744073709551616 : Nat) : Int) := by
    have : (q : Int) * (s : Int) = (m : Int) := by rw [hm]; simp
    rw [this, IntKind.wrap_u64]; omega
   have e3 : IntKind.u64.wrap ((n : Int) + ((m % 18446744073709551616 : Nat) : Int)) = (((n + m) % 18446744073709551616 : Nat) : Int) := by rw [IntKind.wrap_u64]; omega
   have e4 : IntKind.u64.wrap ((s : Int) * 128) = ((s * 128 % 18446744073709551616 : Nat) : Int) := by rw [IntKind.wrap_u64]; omega
   rw [← hm] at HE2; have hn2 : (n + m) % 18446744073709551616 < 18446744073709551616 := Nat.mod_lt _ (by omega); have hs2 : s * 128 % 18446744073709551616 < 18446744073709551616 := Nat.mod_lt _ (by omega); generalize m % 18446744073709551616 = m1 at *
   generalize (n + m) % 18446744073709551616 = n2 at *
   generalize s * 128 % 18446744073709551616 = s2 at *
   clear hbr hqe hm; go_wp2_with fail
   refine CO.out.mono ?_; rintro e w1 ⟨rfl, hv1, ho1⟩; have HV1 := hid hv1; have HO1 := hid (HO.out.trans ho1); clear hv1 ho1 CO; by_cases hb128 : b < 128
   ·have d1 : decide ((b : Int) < 128) = true := by simp; omega
    have HF : Hid (R = (n2, r)) := hid (by rw [HE2.out, if_pos hb128]); go_wp2_with fail
    go_ret
    exact ⟨by rw [HF.out]; rfl, by rw [HF.out]; exact HV1.out, HO1.out⟩
   ·have d1 : decide ((b : Int) < 128) = false := by simp; omega
    have HF : Hid (R = vNumK (10 - (i + 1)) n2 s2 r) := hid (by rw [HE2.out, if_neg hb128]); go_wp2_with fail
    go_roundg (10 - (i + 1))
    case measure => omega
    case rel => exact ⟨i + 1, n2, s2, r, by omega, rfl, rfl, rfl, by go_num, hn2, hs2, hid HF.out.symm, HV1, HO1⟩
  ·obtain rfl : i = 10 := by omega
   have HF : Hid (R = (n, l')) := hid HE.out.symm; clear hlt; go_wp2_with fail
   go_ret
   exact ⟨by rw [HF.out]; rfl, by rw [HF.out]; exact HV.out, HO.out⟩
end Ig
namespace Gt
open Go.RowKit Go.Sort Go.Shelf Go.Lib
section
variable {P : Program}
theorem run_loadVar_at (w : World) (p : Addr) (ty : TypeId) (cs : List Value) (d : TypeDesc) (hc : ∀ j v, cs[j]? = some v → w.cell? (p.add j) = some v)
  (hu : P.underlying ty = some d) (hd : (match d with | .struct _ | .array _ _ => true | _ => false) = true) (hi : (P.info? ty).map (·.size) = some cs.length) :
  (loadVar ty p).run P w = .ok (.agg cs.toArray) w := by
 have hl : (loadCells p cs.length).run P w = .ok cs.toArray w := run_loadCells_list (P := P) w p cs hc; cases hq : P.info? ty with
 | none => simp [hq] at hi
 | some i =>
  have hs : i.size = cs.length := by simpa [hq] using hi
  have hagg : (isAgg ty).run P w = .ok true w := by
   unfold isAgg; rw [Sem.run_bind, run_underlying hu w]; cases d <;> simp_all
  simp [loadVar, Sem.run_bind, hagg, sizeOf, typeInfo, hq, hs, hl]
theorem wp_load_at {o : Oper} {a : Act} {w : World} {K : Act → World → Prop} {Q : Exit → Act → World → Prop} (ty : TypeId) (x : Operand) (ho : o.op = .load ty x)
  (p : Addr) (hx : a.eval x = .pointer (some p)) (cs : List Value) (d : TypeDesc) (hc : ∀ j v, cs[j]? = some v → w.cell? (p.add j) = some v)
  (hu : P.underlying ty = some d) (hd : (match d with | .struct _ | .array _ _ => true | _ => false) = true) (hi : (P.info? ty).map (·.size) = some cs.length)
  (h : K (a.put o.dst (.agg cs.toArray)) w) : o.wp P a w K Q := by
 unfold Oper.wp execOp; simp only [ho, hx, Instr.loadAt, Instr.sureAddr, Sem.run_bind, Sem.run_pure, Result.andThen_ok, run_loadVar_at w p ty cs d hc hu hd hi]; exact h
theorem wpList_load_at {ops : Array Oper} {rest : List Oper} {o : Oper} {a : Act} {w : World} {Q : Exit → Act → World → Prop} (hgd : o.guard = none) (ty : TypeId) (x : Operand) (ho : o.op = .load ty x)
  (p : Addr) (hx : a.eval x = .pointer (some p)) (cs : List Value) (d : TypeDesc) (hc : ∀ j v, cs[j]? = some v → w.cell? (p.add j) = some v)
  (hu : P.underlying ty = some d) (hd : (match d with | .struct _ | .array _ _ => true | _ => false) = true) (hi : (P.info? ty).map (·.size) = some cs.length)
  (h : wpList P ops Q rest (a.put o.dst (.agg cs.toArray)) w) : wpList P ops Q (o :: rest) a w :=
 wpList_plain hgd fun _ hK => wp_load_at ty x ho p hx cs d hc hu hd hi (hK _ _ h)
end
end Gt
end Go.Proofs.YtofpaldolcnmiaaGreat
