import Derived.Test.YtofpaldolcnmiaaGreatB33
set_option linter.unusedVariables false
set_option maxHeartbeats 2000000
namespace Go.Proofs.YtofpaldolcnmiaaGreat
namespace Ig
open Go.RowKit Go.Sort
theorem DOk.grown {w0 w w' : World} {b o : Nat} {d : Ds} {ob : Option Nat} (h : DOk w0 w b o d) (hg : w.grownBy w' ob) (ho : ∀ g, ob = some g → w0.heap.size ≤ g) (hb : b < w0.heap.size) : DOk w0 w' b o d := by
 have hs := h.cel.size; have hbk : ∀ k, k < w0.heap.size → w'.heap[k]? = w.heap[k]? := fun k hk => hg.block k (by omega) (fun e => by have := ho k e.symm; omega)
 have hc : ∀ i, w'.cell? ⟨b, i, none⟩ = w.cell? ⟨b, i, none⟩ := fun i => World.cell?_of_block (a := ⟨b, i, none⟩) (hbk b hb)
 have hf : ∀ i, w'.frozen? ⟨b, i, none⟩ = w.frozen? ⟨b, i, none⟩ := fun i => World.frozen?_of_block (a := ⟨b, i, none⟩) (hbk b hb)
 refine ⟨⟨hg.os.trans h.cel.os, hg.tape.trans h.cel.tape, hg.output.trans h.cel.output, Nat.le_trans hs hg.size, fun k hk hn => (hbk k hk).trans (h.cel.block k hk hn), fun i hb' hi => (hc i).trans (h.cel.cells i hb' hi), fun i hb' => (hf i).trans (h.cel.frz i hb')⟩, ⟨⟨(hc _).trans h.dec.raw.c0, (hc _).trans h.dec.raw.c1, h.dec.raw.b8, fun i => (hf i).trans (h.dec.raw.loose i)⟩, h.dec.ok⟩, h.ln⟩
theorem own_cel {w w' : World} {b o B n size : Nat} {e : TypeId} {v : Value} {xs : List Value} (h : w.ownsRow B e size v n xs) (hc : Cel b o 2 w w') (hB : b < B) : w'.ownsRow B e size v n xs := owk h fun g hg => hc.block g (h.lt g hg).2 (by have := (h.lt g hg).1; omega)
theorem own_al {w : World} {B n size : Nat} {e : TypeId} {v : Value} {xs : List Value} (h : w.ownsRow B e size v n xs) (x : Obj) : (w.alloc x).ownsRow B e size v n xs := owns_al h (Below.al (Below.refl _ _) x)
theorem tN_more {α : Type} {t : Ds → α × Ds} {m : Nat} {d d1 : Ds} {x : α} (hd : d.left.length ≠ 0) (hx : t d = (x, d1)) : tN t (m + 1) d = (x :: (tN t m d1).1, (tN t m d1).2) := by
 rw [tN, if_neg hd, hx]
theorem c6_len (x : Vs.Kv) : (c6 x).length = 6 := rfl
theorem c2_one (x : T2) : ∀ v ∈ c2 x, v.oneCell' = true := by
 intro v hv; simp [c2] at hv; rcases hv with rfl | rfl <;> rfl
theorem c3_one (x : Wr) : ∀ v ∈ c3 x, v.oneCell' = true := by
 intro v hv; simp [c3] at hv; rcases hv with rfl | rfl | rfl <;> rfl
theorem c6_one (x : Vs.Kv) : ∀ v ∈ c6 x, v.oneCell' = true := by
 intro v hv; simp [c6] at hv; rcases hv with rfl | rfl | rfl | rfl | rfl | rfl <;> rfl
theorem infoT2 : (Tryz.prog.info? 126).map (fun i => (i.zero, i.size, i.bytes)) = some (some (.agg #[.string ⟨#[]⟩, .string ⟨#[]⟩]), 2, 32) := by kernel_rfl
theorem infoT3 : (Tryz.prog.info? 117).map (fun i => (i.zero, i.size, i.bytes)) = some (some (.agg #[.string ⟨#[]⟩, .bool false, .string ⟨#[]⟩]), 3, 40) := by kernel_rfl
theorem infoT6 : (Tryz.prog.info? 108).map (fun i => (i.zero, i.size, i.bytes)) = some (some (.agg #[.string ⟨#[]⟩, .int .u64 0, .int .u32 0, .int .u32 0, .bool false, .string ⟨#[]⟩]), 6, 56) := by kernel_rfl
theorem infoT7 : (Tryz.prog.info? 104).map (fun i => (i.zero, i.size, i.bytes)) = some (some (.agg #[.int .u32 0, .int .u32 0, .int .u32 0, .int .i64 0, .int .u64 0, .int .u32 0, .int .u32 0]), 7, 40) := by kernel_rfl
theorem takeSpans_is {w0 w : World} {b o : Nat} {d d' : Ds} {xs : List T2} (h : DOk w0 w b o d) (hv : tL tSpan d = (xs, d')) :
  Calls Tryz.prog 153 #[.pointer (some ⟨b, o, none⟩), .func (.func 154) #[] #[]] w fun e w' => ∃ a c, e = .returned (.slice a xs.length c) ∧ Hid (w'.ownsRow w.heap.size 126 2 (.slice a xs.length c) xs.length (xs.flatMap c2)) ∧ DOk w w' b o d' := by
 obtain ⟨i0, hi, hz0, hz1, hz2⟩ := ifz infoT2; have hbl := h.lt; obtain ⟨n0, d0, e0⟩ : ∃ y dd, tVar 18446744073709551615 d = (y, dd) := ⟨_, _, rfl⟩; have hn0 : n0 ≤ 18446744073709551615 := by have := var_le 18446744073709551615 d; rw [e0] at this; exact this
 have HN0 := hid hn0; clear hn0; have E0 : Hid (tU 18446744073709551615 d = ((n0 : Int), d0)) := by show tM _ _ d = _; unfold tM; rw [e0]
 have HT : Hid (tN tSpan n0 d0 = (xs, d')) := by
  have := hv; unfold tL at this; rw [e0] at this; exact this
 have HS : Hid (d0.left.length ≤ d.left.length) := by have := var_sh 18446744073709551615 d; rw [e0] at this; exact this
 have HLN := hid h.ln; have C := hid (dok_var (m := 18446744073709551615) (mi := 18446744073709551615) h rfl E0.out); clear h hv e0; go_enter Tryz.func153, Tryz.ntmps153
 go_wp2_with fail
 refine C.out.mono ?_; rintro e w1 ⟨rfl, h1⟩; have H1 := hid h1; clear h1 C; go_wp2_with fail
 go_loopg [5, 6] n0 (fun g s5 s6 wr => ∃ (n : Nat) (ys : List T2) (dk : Ds) (a : Option Addr) (c : Nat), g = n ∧ s5 = .slice a ys.length c ∧ s6 = .int .u64 (n : Int) ∧ Hid (n ≤ 18446744073709551615) ∧ Hid (wr.ownsRow w.heap.size 126 2 (.slice a ys.length c) ys.length (ys.flatMap c2)) ∧ Hid (DOk w wr b o dk) ∧ Hid (xs = ys ++ (tN tSpan n dk).1 ∧ d' = (tN tSpan n dk).2) ∧ Hid (ys.length + dk.left.length ≤ d.left.length))
 case atStart => exact ⟨n0, [], d0, none, 0, rfl, rfl, rfl, HN0, World.ownsRow_nil _ _ _ _, H1, hid (by rw [HT.out]; exact ⟨rfl, rfl⟩), hid (by simpa using HS.out)⟩
 case round =>
  obtain ⟨n, ys, dk, a, c, hg, rfl, rfl, HN, HO, HD, HX, HY⟩ := hrel; clear H1 HT HS HN0; cases n with
  | zero =>
   have HE : Hid (xs = ys ∧ d' = dk) := hid (by have := HX.out; simpa [tN] using this); go_wp2_with fail
   go_ret
   obtain ⟨rfl, rfl⟩ := HE.out; exact ⟨a, c, rfl, HO, HD.out⟩
  | succ m =>
   obtain ⟨N, hN⟩ : ∃ N : Int, ((m + 1 : Nat) : Int) = N := ⟨_, rfl⟩; have hgt : decide ((0 : Int) < N) = true := decide_eq_true (by omega); have hsub : IntKind.u64.wrap (N - 1) = (m : Int) := by have := HN.out; rw [IntKind.wrap_u64]; omega
   rw [hN]; clear hN; obtain ⟨L, hL⟩ : ∃ L : Int, (dk.left.length : Int) = L := ⟨_, rfl⟩; have HL := hid hL; by_cases hd0 : dk.left.length = 0
   ·have hlt : decide ((0 : Int) < L) = false := decide_eq_false (by omega); have HE : Hid (xs = ys ∧ d' = dk) := hid (by have := HX.out; rw [tN, if_pos hd0] at this; simpa using this); clear hd0 hL; go_wp2_with (go_at_call 151; refine (dok_leftL HD.out HL.out).mono ?_; rintro e w2 ⟨rfl, rfl⟩)
    go_ret
    obtain ⟨rfl, rfl⟩ := HE.out; exact ⟨a, c, rfl, HO, HD.out⟩
   ·have hlt : decide ((0 : Int) < L) = true := decide_eq_true (by omega); obtain ⟨x, d1, ex⟩ : ∃ y dd, tSpan dk = (y, dd) := ⟨_, _, rfl⟩; have HM := hid (tN_more (m := m) hd0 ex); have hy : ys.length + 1 + d1.left.length ≤ d.left.length := by have h1 := span_eat dk hd0; rw [ex] at h1; have h2 := HY.out; simp only at h1; omega
    have hyl : ys.length + 1 ≤ 1099511627776 := by have := HLN.out; omega
    have PC := hid (takeSpan_is HD.out ex); clear hd0 ex hL; go_wp2_with (go_at_call 151; refine (dok_leftL HD.out HL.out).mono ?_; rintro e w2 ⟨rfl, rfl⟩)
    refine PC.out.mono ?_; rintro e w2 ⟨rfl, h2⟩; have H2 := hid (HD.out.step h2); obtain ⟨w3, hw3⟩ : ∃ w3, w3 = w2.alloc (.cells #[.string x.1, .string x.2] 126) := ⟨_, rfl⟩; have k3 : w3.heap[w2.heap.size]? = some (.cells #[.string x.1, .string x.2] 126 (0, 0)) := by rw [hw3]; exact World.alloc_heap_new _ _
    have hcl : ∀ j u, (c2 x)[j]? = some u → w3.cell? ((⟨w2.heap.size, 0, none⟩ : Addr).add j) = some u := fun j u hj => by
     rw [Addr.add_lit, Nat.zero_add]; exact Vs.cob k3 (by simpa using hj)
    have HO3 : Hid (w3.ownsRow w.heap.size 126 2 (.slice a ys.length c) ys.length (ys.flatMap c2)) := by rw [hw3]; exact own_al (own_cel HO.out h2.cel hbl) _
    have hb3 : Below w2.heap.size w2 w3 := by rw [hw3]; exact Below.al (Below.refl _ _) _
    have H3 := hid (H2.out.later hb3); have hs3 : w.heap.size ≤ w3.heap.size := H3.out.cel.size; have HCL := hid hcl; clear h2 PC hcl hb3 k3; go_wp2_with (at_builtin; refine wpList_append_own _ rfl _ _ 37 rfl w.heap.size 126 i0 (.agg #[.string ⟨#[]⟩, .string ⟨#[]⟩]) 2 32 Tryz.underlying37 hi hz0 hz1 hz2 rfl (by decide) (.slice a ys.length c) ys.length (ys.flatMap c2) rfl (by rw [← hw3]; exact HO3.out) ⟨w2.heap.size, 0, none⟩ 1 1 (c2 x) rfl rfl (by rw [← hw3]; exact HCL.out) (c2_one x) (by unfold maxLen; omega) (by omega) (by rw [← hw3]; exact hs3) ?_)
    intro v2 w6 hown hgrow hnil; rw [← hw3] at hgrow; obtain ⟨a2, cc2, rfl⟩ := ows hown; have H6 := hid (H3.out.grown hgrow (fun g hg => (HO3.out.lt g hg).1) hbl); have HO6 : Hid (w6.ownsRow w.heap.size 126 2 (.slice a2 (ys ++ [x]).length cc2) (ys ++ [x]).length ((ys ++ [x]).flatMap c2)) := by
     show World.ownsRow _ _ _ _ _ _ _
     rw [List.flatMap_append, List.length_append]; simpa using hown
    have hlen : (ys ++ [x]).length = ys.length + 1 := by simp
    have HX6 : Hid (xs = (ys ++ [x]) ++ (tN tSpan m d1).1 ∧ d' = (tN tSpan m d1).2) := by
     have h9 := HX.out; rw [HM.out] at h9; exact ⟨by rw [h9.1]; simp, h9.2⟩
    clear hown hgrow hnil hw3; go_wp2_with fail
    go_roundg m
    case measure => omega
    case rel =>
     exact ⟨m, ys ++ [x], d1, a2, cc2, rfl, by rw [hlen], rfl, hid (by have := HN.out; omega), HO6, H6, HX6, hid (by rw [hlen]; omega)⟩
theorem takeWrites_is {w0 w : World} {b o : Nat} {d d' : Ds} {xs : List Wr} (h : DOk w0 w b o d) (hv : tL tWrite d = (xs, d')) :
  Calls Tryz.prog 155 #[.pointer (some ⟨b, o, none⟩), .func (.func 156) #[] #[]] w fun e w' => ∃ a c, e = .returned (.slice a xs.length c) ∧ Hid (w'.ownsRow w.heap.size 117 3 (.slice a xs.length c) xs.length (xs.flatMap c3)) ∧ DOk w w' b o d' := by
 obtain ⟨i0, hi, hz0, hz1, hz2⟩ := ifz infoT3; have hbl := h.lt; obtain ⟨n0, d0, e0⟩ : ∃ y dd, tVar 18446744073709551615 d = (y, dd) := ⟨_, _, rfl⟩; have hn0 : n0 ≤ 18446744073709551615 := by have := var_le 18446744073709551615 d; rw [e0] at this; exact this
 have HN0 := hid hn0; clear hn0; have E0 : Hid (tU 18446744073709551615 d = ((n0 : Int), d0)) := by show tM _ _ d = _; unfold tM; rw [e0]
 have HT : Hid (tN tWrite n0 d0 = (xs, d')) := by
  have := hv; unfold tL at this; rw [e0] at this; exact this
 have HS : Hid (d0.left.length ≤ d.left.length) := by have := var_sh 18446744073709551615 d; rw [e0] at this; exact this
 have HLN := hid h.ln; have C := hid (dok_var (m := 18446744073709551615) (mi := 18446744073709551615) h rfl E0.out); clear h hv e0; go_enter Tryz.func155, Tryz.ntmps155
 go_wp2_with fail
 refine C.out.mono ?_; rintro e w1 ⟨rfl, h1⟩; have H1 := hid h1; clear h1 C; go_wp2_with fail
 go_loopg [5, 6] n0 (fun g s5 s6 wr => ∃ (n : Nat) (ys : List Wr) (dk : Ds) (a : Option Addr) (c : Nat), g = n ∧ s5 = .slice a ys.length c ∧ s6 = .int .u64 (n : Int) ∧ Hid (n ≤ 18446744073709551615) ∧ Hid (wr.ownsRow w.heap.size 117 3 (.slice a ys.length c) ys.length (ys.flatMap c3)) ∧ Hid (DOk w wr b o dk) ∧ Hid (xs = ys ++ (tN tWrite n dk).1 ∧ d' = (tN tWrite n dk).2) ∧ Hid (ys.length + dk.left.length ≤ d.left.length))
 case atStart => exact ⟨n0, [], d0, none, 0, rfl, rfl, rfl, HN0, World.ownsRow_nil _ _ _ _, H1, hid (by rw [HT.out]; exact ⟨rfl, rfl⟩), hid (by simpa using HS.out)⟩
 case round =>
  obtain ⟨n, ys, dk, a, c, hg, rfl, rfl, HN, HO, HD, HX, HY⟩ := hrel; clear H1 HT HS HN0; cases n with
  | zero =>
   have HE : Hid (xs = ys ∧ d' = dk) := hid (by have := HX.out; simpa [tN] using this); go_wp2_with fail
   go_ret
   obtain ⟨rfl, rfl⟩ := HE.out; exact ⟨a, c, rfl, HO, HD.out⟩
  | succ m =>
   obtain ⟨N, hN⟩ : ∃ N : Int, ((m + 1 : Nat) : Int) = N := ⟨_, rfl⟩; have hgt : decide ((0 : Int) < N) = true := decide_eq_true (by omega); have hsub : IntKind.u64.wrap (N - 1) = (m : Int) := by have := HN.out; rw [IntKind.wrap_u64]; omega
   rw [hN]; clear hN; obtain ⟨L, hL⟩ : ∃ L : Int, (dk.left.length : Int) = L := ⟨_, rfl⟩; have HL := hid hL; by_cases hd0 : dk.left.length = 0
   ·have hlt : decide ((0 : Int) < L) = false := decide_eq_false (by omega); have HE : Hid (xs = ys ∧ d' = dk) := hid (by have := HX.out; rw [tN, if_pos hd0] at this; simpa using this); clear hd0 hL; go_wp2_with (go_at_call 151; refine (dok_leftL HD.out HL.out).mono ?_; rintro e w2 ⟨rfl, rfl⟩)
    go_ret
    obtain ⟨rfl, rfl⟩ := HE.out; exact ⟨a, c, rfl, HO, HD.out⟩
   ·have hlt : decide ((0 : Int) < L) = true := decide_eq_true (by omega); obtain ⟨x, d1, ex⟩ : ∃ y dd, tWrite dk = (y, dd) := ⟨_, _, rfl⟩; have HM := hid (tN_more (m := m) hd0 ex); have hy : ys.length + 1 + d1.left.length ≤ d.left.length := by have h1 := write_eat dk hd0; rw [ex] at h1; have h2 := HY.out; simp only at h1; omega
    have hyl : ys.length + 1 ≤ 1099511627776 := by have := HLN.out; omega
    have PC := hid (takeWrite_is HD.out ex); clear hd0 ex hL; go_wp2_with (go_at_call 151; refine (dok_leftL HD.out HL.out).mono ?_; rintro e w2 ⟨rfl, rfl⟩)
    refine PC.out.mono ?_; rintro e w2 ⟨rfl, h2⟩; have H2 := hid (HD.out.step h2); obtain ⟨w3, hw3⟩ : ∃ w3, w3 = w2.alloc (.cells #[.string x.key, .bool x.del, .string x.val] 117) := ⟨_, rfl⟩; have k3 : w3.heap[w2.heap.size]? = some (.cells #[.string x.key, .bool x.del, .string x.val] 117 (0, 0)) := by rw [hw3]; exact World.alloc_heap_new _ _
    have hcl : ∀ j u, (c3 x)[j]? = some u → w3.cell? ((⟨w2.heap.size, 0, none⟩ : Addr).add j) = some u := fun j u hj => by
     rw [Addr.add_lit, Nat.zero_add]; exact Vs.cob k3 (by simpa using hj)
    have HO3 : Hid (w3.ownsRow w.heap.size 117 3 (.slice a ys.length c) ys.length (ys.flatMap c3)) := by rw [hw3]; exact own_al (own_cel HO.out h2.cel hbl) _
    have hb3 : Below w2.heap.size w2 w3 := by rw [hw3]; exact Below.al (Below.refl _ _) _
    have H3 := hid (H2.out.later hb3); have hs3 : w.heap.size ≤ w3.heap.size := H3.out.cel.size; have HCL := hid hcl; clear h2 PC hcl hb3 k3; go_wp2_with (at_builtin; refine wpList_append_own _ rfl _ _ 38 rfl w.heap.size 117 i0 (.agg #[.string ⟨#[]⟩, .bool false, .string ⟨#[]⟩]) 3 40 Tryz.underlying38 hi hz0 hz1 hz2 rfl (by decide) (.slice a ys.length c) ys.length (ys.flatMap c3) rfl (by rw [← hw3]; exact HO3.out) ⟨w2.heap.size, 0, none⟩ 1 1 (c3 x) rfl rfl (by rw [← hw3]; exact HCL.out) (c3_one x) (by unfold maxLen; omega) (by omega) (by rw [← hw3]; exact hs3) ?_)
    intro v2 w6 hown hgrow hnil; rw [← hw3] at hgrow; obtain ⟨a2, cc2, rfl⟩ := ows hown; have H6 := hid (H3.out.grown hgrow (fun g hg => (HO3.out.lt g hg).1) hbl); have HO6 : Hid (w6.ownsRow w.heap.size 117 3 (.slice a2 (ys ++ [x]).length cc2) (ys ++ [x]).length ((ys ++ [x]).flatMap c3)) := by
     show World.ownsRow _ _ _ _ _ _ _
     rw [List.flatMap_append, List.length_append]; simpa using hown
    have hlen : (ys ++ [x]).length = ys.length + 1 := by simp
    have HX6 : Hid (xs = (ys ++ [x]) ++ (tN tWrite m d1).1 ∧ d' = (tN tWrite m d1).2) := by
     have h9 := HX.out; rw [HM.out] at h9; exact ⟨by rw [h9.1]; simp, h9.2⟩
    clear hown hgrow hnil hw3; go_wp2_with fail
    go_roundg m
    case measure => omega
    case rel =>
     exact ⟨m, ys ++ [x], d1, a2, cc2, rfl, by rw [hlen], rfl, hid (by have := HN.out; omega), HO6, H6, HX6, hid (by rw [hlen]; omega)⟩
theorem takeVersions_is {w0 w : World} {b o : Nat} {d d' : Ds} {xs : List Vs.Kv} (h : DOk w0 w b o d) (hv : tL tVersion d = (xs, d')) :
  Calls Tryz.prog 80 #[.pointer (some ⟨b, o, none⟩), .func (.func 81) #[] #[]] w fun e w' => ∃ a c, e = .returned (.slice a xs.length c) ∧ Hid (w'.ownsRow w.heap.size 108 6 (.slice a xs.length c) xs.length (xs.flatMap c6)) ∧ DOk w w' b o d' := by
 obtain ⟨i0, hi, hz0, hz1, hz2⟩ := ifz infoT6; have hbl := h.lt; obtain ⟨n0, d0, e0⟩ : ∃ y dd, tVar 18446744073709551615 d = (y, dd) := ⟨_, _, rfl⟩; have hn0 : n0 ≤ 18446744073709551615 := by have := var_le 18446744073709551615 d; rw [e0] at this; exact this
 have HN0 := hid hn0; clear hn0; have E0 : Hid (tU 18446744073709551615 d = ((n0 : Int), d0)) := by show tM _ _ d = _; unfold tM; rw [e0]
 have HT : Hid (tN tVersion n0 d0 = (xs, d')) := by
  have := hv; unfold tL at this; rw [e0] at this; exact this
 have HS : Hid (d0.left.length ≤ d.left.length) := by have := var_sh 18446744073709551615 d; rw [e0] at this; exact this
 have HLN := hid h.ln; have C := hid (dok_var (m := 18446744073709551615) (mi := 18446744073709551615) h rfl E0.out); clear h hv e0; go_enter Tryz.func80, Tryz.ntmps80
 go_wp2_with fail
 refine C.out.mono ?_; rintro e w1 ⟨rfl, h1⟩; have H1 := hid h1; clear h1 C; go_wp2_with fail
 go_loopg [5, 6] n0 (fun g s5 s6 wr => ∃ (n : Nat) (ys : List Vs.Kv) (dk : Ds) (a : Option Addr) (c : Nat), g = n ∧ s5 = .slice a ys.length c ∧ s6 = .int .u64 (n : Int) ∧ Hid (n ≤ 18446744073709551615) ∧ Hid (wr.ownsRow w.heap.size 108 6 (.slice a ys.length c) ys.length (ys.flatMap c6)) ∧ Hid (DOk w wr b o dk) ∧ Hid (xs = ys ++ (tN tVersion n dk).1 ∧ d' = (tN tVersion n dk).2) ∧ Hid (ys.length + dk.left.length ≤ d.left.length))
 case atStart => exact ⟨n0, [], d0, none, 0, rfl, rfl, rfl, HN0, World.ownsRow_nil _ _ _ _, H1, hid (by rw [HT.out]; exact ⟨rfl, rfl⟩), hid (by simpa using HS.out)⟩
 case round =>
  obtain ⟨n, ys, dk, a, c, hg, rfl, rfl, HN, HO, HD, HX, HY⟩ := hrel; clear H1 HT HS HN0; cases n with
  | zero =>
   have HE : Hid (xs = ys ∧ d' = dk) := hid (by have := HX.out; simpa [tN] using this); go_wp2_with fail
   go_ret
   obtain ⟨rfl, rfl⟩ := HE.out; exact ⟨a, c, rfl, HO, HD.out⟩
  | succ m =>
   obtain ⟨N, hN⟩ : ∃ N : Int, ((m + 1 : Nat) : Int) = N := ⟨_, rfl⟩; have hgt : decide ((0 : Int) < N) = true := decide_eq_true (by omega); have hsub : IntKind.u64.wrap (N - 1) = (m : Int) := by have := HN.out; rw [IntKind.wrap_u64]; omega
   rw [hN]; clear hN; obtain ⟨L, hL⟩ : ∃ L : Int, (dk.left.length : Int) = L := ⟨_, rfl⟩; have HL := hid hL; by_cases hd0 : dk.left.length = 0
   ·have hlt : decide ((0 : Int) < L) = false := decide_eq_false (by omega); have HE : Hid (xs = ys ∧ d' = dk) := hid (by have := HX.out; rw [tN, if_pos hd0] at this; simpa using this); clear hd0 hL; go_wp2_with (go_at_call 151; refine (dok_leftL HD.out HL.out).mono ?_; rintro e w2 ⟨rfl, rfl⟩)
    go_ret
    obtain ⟨rfl, rfl⟩ := HE.out; exact ⟨a, c, rfl, HO, HD.out⟩
   ·have hlt : decide ((0 : Int) < L) = true := decide_eq_true (by omega); obtain ⟨x, d1, ex⟩ : ∃ y dd, tVersion dk = (y, dd) := ⟨_, _, rfl⟩; have HM := hid (tN_more (m := m) hd0 ex); have hy : ys.length + 1 + d1.left.length ≤ d.left.length := by have h1 := version_eat dk hd0; rw [ex] at h1; have h2 := HY.out; simp only at h1; omega
    have hyl : ys.length + 1 ≤ 1099511627776 := by have := HLN.out; omega
    have PC := hid (takeVersion_is HD.out ex); clear hd0 ex hL; go_wp2_with (go_at_call 151; refine (dok_leftL HD.out HL.out).mono ?_; rintro e w2 ⟨rfl, rfl⟩)
    refine PC.out.mono ?_; rintro e w2 ⟨rfl, h2⟩; have H2 := hid (HD.out.step h2); obtain ⟨w3, hw3⟩ : ∃ w3, w3 = w2.alloc (.cells #[.string x.1, .int .u64 x.2.s.a, .int .u32 x.2.s.b, .int .u32 x.2.s.c, .bool x.2.del, .string x.2.val] 108) := ⟨_, rfl⟩; have k3 : w3.heap[w2.heap.size]? = some (.cells #[.string x.1, .int .u64 x.2.s.a, .int .u32 x.2.s.b, .int .u32 x.2.s.c, .bool x.2.del, .string x.2.val] 108 (0, 0)) := by rw [hw3]; exact World.alloc_heap_new _ _
    have hcl : ∀ j u, (c6 x)[j]? = some u → w3.cell? ((⟨w2.heap.size, 0, none⟩ : Addr).add j) = some u := fun j u hj => by
     rw [Addr.add_lit, Nat.zero_add]; exact Vs.cob k3 (by simpa using hj)
    have HO3 : Hid (w3.ownsRow w.heap.size 108 6 (.slice a ys.length c) ys.length (ys.flatMap c6)) := by rw [hw3]; exact own_al (own_cel HO.out h2.cel hbl) _
    have hb3 : Below w2.heap.size w2 w3 := by rw [hw3]; exact Below.al (Below.refl _ _) _
    have H3 := hid (H2.out.later hb3); have hs3 : w.heap.size ≤ w3.heap.size := H3.out.cel.size; have HCL := hid hcl; clear h2 PC hcl hb3 k3; go_wp2_with (at_builtin; refine wpList_append_own _ rfl _ _ 64 rfl w.heap.size 108 i0 (.agg #[.string ⟨#[]⟩, .int .u64 0, .int .u32 0, .int .u32 0, .bool false, .string ⟨#[]⟩]) 6 56 Tryz.underlying64 hi hz0 hz1 hz2 rfl (by decide) (.slice a ys.length c) ys.length (ys.flatMap c6) rfl (by rw [← hw3]; exact HO3.out) ⟨w2.heap.size, 0, none⟩ 1 1 (c6 x) rfl rfl (by rw [← hw3]; exact HCL.out) (c6_one x) (by unfold maxLen; omega) (by omega) (by rw [← hw3]; exact hs3) ?_)
    intro v2 w6 hown hgrow hnil; rw [← hw3] at hgrow; obtain ⟨a2, cc2, rfl⟩ := ows hown; have H6 := hid (H3.out.grown hgrow (fun g hg => (HO3.out.lt g hg).1) hbl); have HO6 : Hid (w6.ownsRow w.heap.size 108 6 (.slice a2 (ys ++ [x]).length cc2) (ys ++ [x]).length ((ys ++ [x]).flatMap c6)) := by
     show World.ownsRow _ _ _ _ _ _ _
     rw [List.flatMap_append, List.length_append]; simpa using hown
    have hlen : (ys ++ [x]).length = ys.length + 1 := by simp
    have HX6 : Hid (xs = (ys ++ [x]) ++ (tN tVersion m d1).1 ∧ d' = (tN tVersion m d1).2) := by
     have h9 := HX.out; rw [HM.out] at h9; exact ⟨by rw [h9.1]; simp, h9.2⟩
    clear hown hgrow hnil hw3; go_wp2_with fail
    go_roundg m
    case measure => omega
    case rel =>
     exact ⟨m, ys ++ [x], d1, a2, cc2, rfl, by rw [hlen], rfl, hid (by have := HN.out; omega), HO6, H6, HX6, hid (by rw [hlen]; omega)⟩
theorem takeEntries_is {w0 w : World} {b o : Nat} {d d' : Ds} {xs : List Lg.En} (h : DOk w0 w b o d) (hv : tL tEntry d = (xs, d')) :
  Calls Tryz.prog 78 #[.pointer (some ⟨b, o, none⟩), .func (.func 79) #[] #[]] w fun e w' => ∃ a c, e = .returned (.slice a xs.length c) ∧ Hid (w'.ownsRow w.heap.size 104 7 (.slice a xs.length c) xs.length (xs.flatMap Lg.ecs)) ∧ DOk w w' b o d' := by
 obtain ⟨i0, hi, hz0, hz1, hz2⟩ := ifz infoT7; have hbl := h.lt; obtain ⟨n0, d0, e0⟩ : ∃ y dd, tVar 18446744073709551615 d = (y, dd) := ⟨_, _, rfl⟩; have hn0 : n0 ≤ 18446744073709551615 := by have := var_le 18446744073709551615 d; rw [e0] at this; exact this
 have HN0 := hid hn0; clear hn0; have E0 : Hid (tU 18446744073709551615 d = ((n0 : Int), d0)) := by show tM _ _ d = _; unfold tM; rw [e0]
 have HT : Hid (tN tEntry n0 d0 = (xs, d')) := by
  have := hv; unfold tL at this; rw [e0] at this; exact this
 have HS : Hid (d0.left.length ≤ d.left.length) := by have := var_sh 18446744073709551615 d; rw [e0] at this; exact this
 have HLN := hid h.ln; have C := hid (dok_var (m := 18446744073709551615) (mi := 18446744073709551615) h rfl E0.out); clear h hv e0; go_enter Tryz.func78, Tryz.ntmps78
 go_wp2_with fail
 refine C.out.mono ?_; rintro e w1 ⟨rfl, h1⟩; have H1 := hid h1; clear h1 C; go_wp2_with fail
 go_loopg [5, 6] n0 (fun g s5 s6 wr => ∃ (n : Nat) (ys : List Lg.En) (dk : Ds) (a : Option Addr) (c : Nat), g = n ∧ s5 = .slice a ys.length c ∧ s6 = .int .u64 (n : Int) ∧ Hid (n ≤ 18446744073709551615) ∧ Hid (wr.ownsRow w.heap.size 104 7 (.slice a ys.length c) ys.length (ys.flatMap Lg.ecs)) ∧ Hid (DOk w wr b o dk) ∧ Hid (xs = ys ++ (tN tEntry n dk).1 ∧ d' = (tN tEntry n dk).2) ∧ Hid (ys.length + dk.left.length ≤ d.left.length))
 case atStart => exact ⟨n0, [], d0, none, 0, rfl, rfl, rfl, HN0, World.ownsRow_nil _ _ _ _, H1, hid (by rw [HT.out]; exact ⟨rfl, rfl⟩), hid (by simpa using HS.out)⟩
 case round =>
  obtain ⟨n, ys, dk, a, c, hg, rfl, rfl, HN, HO, HD, HX, HY⟩ := hrel; clear H1 HT HS HN0; cases n with
  | zero =>
   have HE : Hid (xs = ys ∧ d' = dk) := hid (by have := HX.out; simpa [tN] using this); go_wp2_with fail
   go_ret
   obtain ⟨rfl, rfl⟩ := HE.out; exact ⟨a, c, rfl, HO, HD.out⟩
  | succ m =>
   obtain ⟨N, hN⟩ : ∃ N : Int, ((m + 1 : Nat) : Int) = N := ⟨_, rfl⟩; have hgt : decide ((0 : Int) < N) = true := decide_eq_true (by omega); have hsub : IntKind.u64.wrap (N - 1) = (m : Int) := by have := HN.out; rw [IntKind.wrap_u64]; omega
   rw [hN]; clear hN; obtain ⟨L, hL⟩ : ∃ L : Int, (dk.left.length : Int) = L := ⟨_, rfl⟩; have HL := hid hL; by_cases hd0 : dk.left.length = 0
   ·have hlt : decide ((0 : Int) < L) = false := decide_eq_false (by omega); have HE : Hid (xs = ys ∧ d' = dk) := hid (by have := HX.out; rw [tN, if_pos hd0] at this; simpa using this); clear hd0 hL; go_wp2_with (go_at_call 151; refine (dok_leftL HD.out HL.out).mono ?_; rintro e w2 ⟨rfl, rfl⟩)
    go_ret
    obtain ⟨rfl, rfl⟩ := HE.out; exact ⟨a, c, rfl, HO, HD.out⟩
   ·have hlt : decide ((0 : Int) < L) = true := decide_eq_true (by omega); obtain ⟨x, d1, ex⟩ : ∃ y dd, tEntry dk = (y, dd) := ⟨_, _, rfl⟩; have HM := hid (tN_more (m := m) hd0 ex); have hy : ys.length + 1 + d1.left.length ≤ d.left.length := by have h1 := entry_eat dk hd0; rw [ex] at h1; have h2 := HY.out; simp only at h1; omega
    have hyl : ys.length + 1 ≤ 1099511627776 := by have := HLN.out; omega
    have PC := hid (takeEntry_is HD.out ex); clear hd0 ex hL; go_wp2_with (go_at_call 151; refine (dok_leftL HD.out HL.out).mono ?_; rintro e w2 ⟨rfl, rfl⟩)
    refine PC.out.mono ?_; rintro e w2 ⟨rfl, h2⟩; have H2 := hid (HD.out.step h2); obtain ⟨w3, hw3⟩ : ∃ w3, w3 = w2.alloc (.cells #[.int .u32 x.id.1, .int .u32 x.id.2, .int .u32 x.home, .int .i64 x.oc, .int .u64 x.w, .int .u32 x.l, .int .u32 x.n] 104) := ⟨_, rfl⟩; have k3 : w3.heap[w2.heap.size]? = some (.cells #[.int .u32 x.id.1, .int .u32 x.id.2, .int .u32 x.home, .int .i64 x.oc, .int .u64 x.w, .int .u32 x.l, .int .u32 x.n] 104 (0, 0)) := by rw [hw3]; exact World.alloc_heap_new _ _
    have hcl : ∀ j u, (Lg.ecs x)[j]? = some u → w3.cell? ((⟨w2.heap.size, 0, none⟩ : Addr).add j) = some u := fun j u hj => by
     rw [Addr.add_lit, Nat.zero_add]; exact Vs.cob k3 (by simpa using hj)
    have HO3 : Hid (w3.ownsRow w.heap.size 104 7 (.slice a ys.length c) ys.length (ys.flatMap Lg.ecs)) := by rw [hw3]; exact own_al (own_cel HO.out h2.cel hbl) _
    have hb3 : Below w2.heap.size w2 w3 := by rw [hw3]; exact Below.al (Below.refl _ _) _
    have H3 := hid (H2.out.later hb3); have hs3 : w.heap.size ≤ w3.heap.size := H3.out.cel.size; have HCL := hid hcl; clear h2 PC hcl hb3 k3; go_wp2_with (at_builtin; refine wpList_append_own _ rfl _ _ 61 rfl w.heap.size 104 i0 (.agg #[.int .u32 0, .int .u32 0, .int .u32 0, .int .i64 0, .int .u64 0, .int .u32 0, .int .u32 0]) 7 40 Tryz.underlying61 hi hz0 hz1 hz2 rfl (by decide) (.slice a ys.length c) ys.length (ys.flatMap Lg.ecs) rfl (by rw [← hw3]; exact HO3.out) ⟨w2.heap.size, 0, none⟩ 1 1 (Lg.ecs x) rfl rfl (by rw [← hw3]; exact HCL.out) (Lg.ecs_one x) (by unfold maxLen; omega) (by omega) (by rw [← hw3]; exact hs3) ?_)
    intro v2 w6 hown hgrow hnil; rw [← hw3] at hgrow; obtain ⟨a2, cc2, rfl⟩ := ows hown; have H6 := hid (H3.out.grown hgrow (fun g hg => (HO3.out.lt g hg).1) hbl); have HO6 : Hid (w6.ownsRow w.heap.size 104 7 (.slice a2 (ys ++ [x]).length cc2) (ys ++ [x]).length ((ys ++ [x]).flatMap Lg.ecs)) := by
     show World.ownsRow _ _ _ _ _ _ _
     rw [List.flatMap_append, List.length_append]; simpa using hown
    have hlen : (ys ++ [x]).length = ys.length + 1 := by simp
    have HX6 : Hid (xs = (ys ++ [x]) ++ (tN tEntry m d1).1 ∧ d' = (tN tEntry m d1).2) := by
     have h9 := HX.out; rw [HM.out] at h9; exact ⟨by rw [h9.1]; simp, h9.2⟩
    clear hown hgrow hnil hw3; go_wp2_with fail
    go_roundg m
    case measure => omega
    case rel =>
     exact ⟨m, ys ++ [x], d1, a2, cc2, rfl, by rw [hlen], rfl, hid (by have := HN.out; omega), HO6, H6, HX6, hid (by rw [hlen]; omega)⟩
end Ig
namespace Lk
open Go.RowKit Go.Sort Go.Shelf Go.Lib
theorem swo_of {α : Type} (f : α → Ix) : SWO (ltOf fun x y => cmpI (f x) (f y)) where
 irrefl x := by show decide (_ < _) = _; rw [cmp_lt]; simp [ltI]
 trans x y z h1 h2 := by
  change decide (_ < _) = _ at h1 h2 ⊢
  rw [cmp_lt] at *; simp only [ltI, Bool.or_eq_true, Bool.and_eq_true, decide_eq_true_eq] at *; omega
 ntrans x y z h1 h2 := by
  change decide (_ < _) = _ at h1 h2 ⊢
  rw [cmp_lt] at *; simp only [ltI, Bool.or_eq_false_iff, Bool.and_eq_false_iff, decide_eq_false_iff_not] at *; omega
section
variable {α : Type} {enc : α → List Value} {k : Nat}
theorem fm_len (hk : ∀ x, (enc x).length = k) : ∀ xs : List α, (xs.flatMap enc).length = xs.length * k
 | [] => by simp
 | x :: xs => by rw [List.flatMap_cons, List.length_append, hk, fm_len hk xs, List.length_cons, Nat.add_mul, Nat.one_mul, Nat.add_comm]
variable [Inhabited α]
theorem fm_get (hk : ∀ x, (enc x).length = k) : ∀ (xs : List α) (i o : Nat), i < xs.length → o < k → (xs.flatMap enc)[i * k + o]? = (enc xs[i]!)[o]?
 | x :: xs, 0, o, _, ho => by
  rw [List.flatMap_cons, List.getElem?_append_left (by rw [hk]; omega)]; simp
 | x :: xs, i + 1, o, hi, ho => by
  have ih := fm_get hk xs i o (by simpa using hi) ho; rw [List.flatMap_cons, List.getElem?_append_right (by rw [hk, Nat.add_mul]; omega), show (i + 1) * k + o - (enc x).length = i * k + o by rw [hk, Nat.add_mul]; omega, ih]; simp
theorem flatK_fm (hk : ∀ x, (enc x).length = k) (h0 : 0 < k) (xs : List α) : (flatK enc k xs.toArray).toList = xs.flatMap enc := by
 apply List.ext_getElem?
 intro j; rw [Array.getElem?_toList]; by_cases hj : j < xs.length * k
 ·have hi : j / k < xs.length := Nat.div_lt_of_lt_mul (by rw [Nat.mul_comm]; exact hj); have ho : j % k < k := Nat.mod_lt _ h0; have h := fm_get hk xs (j / k) (j % k) hi ho; rw [show j / k * k + j % k = j by rw [Nat.mul_comm]; exact Nat.div_add_mod j k] at h; have ho' : j % k < (enc xs[j / k]!).length := by rw [hk]; exact ho
  have hsz : j < (flatK enc k xs.toArray).size := by rw [size_flatK]; simpa using hj
  rw [h, List.getElem?_eq_getElem ho', Array.getElem?_eq_getElem hsz]; have := get_flatK enc k xs.toArray j (by simpa using hj); rw [getElem!_pos _ j hsz] at this; rw [this]; simp only [List.getElem!_toArray]; rw [getElem!_pos (enc xs[j / k]!) (j % k) ho']
 ·have e1 : (flatK enc k xs.toArray)[j]? = none := Array.getElem?_eq_none (by rw [size_flatK]; simpa using hj); have e2 : (xs.flatMap enc)[j]? = none := List.getElem?_eq_none (by rw [fm_len hk]; omega); rw [e1, e2]
variable {T : TypeId} {w : World} {B g n c : Nat} {xs ys : List α}
theorem holds_row (hk : ∀ x, (enc x).length = k) (h0 : 0 < k) (h : w.ownsRow B T k (.slice (some ⟨g, 0, none⟩) n c) n (xs.flatMap enc)) : HoldsK enc k w g 0 xs.toArray := by
 obtain ⟨hl, ⟨e1, _⟩ | ⟨g', cap, cur, e1, hB, hh, h1, h2, h3, h4⟩⟩ := h
 ·cases e1
 ·injection e1 with e1
  injection e1 with e1
  injection e1 with e1
  subst e1; intro j hj; rw [size_flatK] at hj; have hj' : j < xs.length * k := by simpa using hj
  have hv : (flatK enc k xs.toArray)[j]? = (xs.flatMap enc)[j]? := by rw [← Array.getElem?_toList, flatK_fm hk h0]
  have hlt : j < (xs.flatMap enc).length := by rw [fm_len hk]; exact hj'
  have hsz : j < (flatK enc k xs.toArray).size := by rw [size_flatK]; exact hj
  have hc : cur[j]? = (flatK enc k xs.toArray)[j]? := by
   rw [hv, ← h4, List.getElem?_take]; rw [if_pos (by rw [← hl]; exact hlt)]; simp
  constructor
  ·rw [Nat.zero_add]; refine cob hh ?_; rw [hc, getElem!_pos _ j hsz, Array.getElem?_eq_getElem hsz]; rfl
  ·simp [World.frozen?, hh]
theorem sorted_row (hk : ∀ x, (enc x).length = k) (h0 : 0 < k) (h : w.ownsRow B T k (.slice (some ⟨g, 0, none⟩) n c) n (xs.flatMap enc)) (hy : ys.length = xs.length) (m : Nat) (os : Array Obj) :
  (sortWorldK enc k w g 0 m ys.toArray os).ownsRow B T k (.slice (some ⟨g, 0, none⟩) n c) n (ys.flatMap enc) ∧ Onl (fun b => b = g) w (sortWorldK enc k w g 0 m ys.toArray os) := by
 obtain ⟨hl, ⟨e1, _⟩ | ⟨g', cap, cur, e1, hB, hh, h1, h2, h3, h4⟩⟩ := h
 ·cases e1
 ·injection e1 with e1 e2 e3
  injection e1 with e1
  injection e1 with e1
  subst e1 e3; have hlt : g < w.heap.size := (Array.getElem?_eq_some_iff.1 hh).1; have hly : (ys.flatMap enc).length = n * k := by rw [fm_len hk, hy, ← fm_len hk, hl]
  constructor
  ·refine ⟨hly, .inr ⟨g, c, putCells id 0 (flatK enc k ys.toArray) cur, rfl, hB, ?_, h1, h2, ?_, ?_⟩⟩
   ·unfold sortWorldK grow putRowK putRow mapBlock Sort.ahead; simp only; rw [Array.getElem?_append_left (by simpa using hlt), Array.getElem?_modify, if_pos rfl, hh]; rfl
   ·simp [putCells, h3]
   ·apply List.ext_getElem?
    intro j; rw [List.getElem?_take, ← flatK_fm hk h0, Array.getElem?_toList, Array.getElem?_toList]; have hs : (flatK enc k ys.toArray).size = n * k := by rw [size_flatK]; simpa [fm_len hk] using hly
    by_cases hj : j < n * k
    ·have hjc : j < cur.size := by rw [h3]; exact Nat.lt_of_lt_of_le hj (Nat.mul_le_mul_right _ h1)
     have hjf : j < (flatK enc k ys.toArray).size := by rw [hs]; exact hj
     rw [if_pos hj]; simp only [putCells, Array.getElem?_mapIdx, Array.getElem?_eq_getElem hjc, Option.map_some, Array.getElem?_eq_getElem hjf]; simp [hs, hj]
    ·rw [if_neg hj, Array.getElem?_eq_none (by rw [hs]; omega)]
  ·refine ⟨rfl, rfl, rfl, by simp [sortWorldK, grow, putRowK, putRow, mapBlock, Sort.ahead], fun b hb hne => ?_⟩; unfold sortWorldK grow putRowK putRow mapBlock Sort.ahead; simp only; rw [Array.getElem?_append_left (by simpa using hb), Array.getElem?_modify, if_neg (fun e => hne e.symm)]
theorem perm_of {d d' : Array α} (h : PermIn 0 d.size d d') : d'.toList.Perm d.toList := by
 obtain ⟨h1, _, h2⟩ := h; have e1 : d'.extract 0 d.size = d' := by rw [← h1]; simp
 have e2 : d.extract 0 d.size = d := by simp
 rwa [e1, e2] at h2
theorem sorted_of {lt : α → α → Bool} {d : Array α} (h : SortedIn lt 0 d.size d) : d.toList.Pairwise (fun x y => lt y x = false) := by
 rw [List.pairwise_iff_getElem]; intro i j hi hj hij; have := h i j (Nat.zero_le _) hij (by simpa using hj); rwa [getElem!_pos _ j (by simpa using hj), getElem!_pos _ i (by simpa using hi)] at this
end
open Go.RowKit Go.Sort
abbrev Hv.rV (v : Hv) : Value := .slice v.ra v.h.rs.length v.rc
abbrev Hv.wV (v : Hv) : Value := .slice v.wa v.h.ws.length v.wc
def Hv.far (x y : Hv) : Prop := (∀ b, x.rV.ownBlock = some b → y.rV.ownBlock ≠ some b) ∧ (∀ b, x.wV.ownBlock = some b → y.wV.ownBlock ≠ some b)
theorem Hv.far.symm {x y : Hv} (h : x.far y) : y.far x := ⟨fun b e e' => h.1 b e' e, fun b e e' => h.2 b e' e⟩
theorem Hv.far_of {B B' : Nat} {w w' : World} {x y : Hv} (hx : x.fresh B w) (hy : y.fresh B' w') (h : w.heap.size ≤ B') : x.far y :=
 ⟨fun b e e' => by have h1 := (hx.r.lt b e).2; have h2 := (hy.r.lt b e').1; omega, fun b e e' => by have h1 := (hx.w.lt b e).2; have h2 := (hy.w.lt b e').1; omega⟩
end Lk
end Go.Proofs.YtofpaldolcnmiaaGreat
