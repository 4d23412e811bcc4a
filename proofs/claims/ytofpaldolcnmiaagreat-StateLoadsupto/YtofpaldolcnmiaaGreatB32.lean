import Derived.Test.YtofpaldolcnmiaaGreatB26
set_option linter.unusedVariables false
set_option maxHeartbeats 4000000
namespace Go.Proofs.YtofpaldolcnmiaaGreat
namespace Ig
open Go.RowKit Go.Sort Go.Shelf Ys
theorem ovW_snoc (J : Jt) (t : Vs.Sp) (ws : List Wr) (x : Wr) : ovW J t (ws ++ [x]) = Lk.putA (ovW J t ws) x.key t := by simp [ovW]
theorem ovJ_snoc (l : List Lk.Hd) (h : Lk.Hd) : ovJ (l ++ [h]) = ovW (ovJ l) (atHd h) h.ws := by simp [ovJ]
theorem overtakes_is {w : World} {a aU : Option Addr} {c cU : Nat} {l : List Vs.Kv} {U : List Lk.Hv} (hr : RowG c6 6 w a l) (hl : l.length ≤ 1099511627776) (hU : RowG Lk.hcs 8 w aU U) (hUl : U.length ≤ 1099511627776) (hW : ∀ v ∈ U, RowG c3 3 w v.wa v.h.ws ∧ v.h.ws.length ≤ 1099511627776) :
  Calls Tryz.prog 85 #[.slice a l.length c, .slice aU U.length cU] w fun e w' => e = .returned (.bool (ovT l (U.map Lk.Hv.h))) ∧ Below w.heap.size w w' := by
 obtain ⟨n, hn⟩ : ∃ n, n = U.length := ⟨_, rfl⟩; obtain ⟨nl, hnl⟩ : ∃ n, n = l.length := ⟨_, rfl⟩; rw [← hn] at hUl ⊢; rw [← hnl] at hl ⊢; obtain ⟨wx, hwx⟩ : ∃ wx, wx = (w.alloc (.map #[] 0)).alloc (.cells #[.map (some w.heap.size)] 215) := ⟨_, rfl⟩; have hbx : Below w.heap.size w wx := by rw [hwx]; exact Below.al (Below.al (Below.refl _ _) _) _
 have hM0 : Lk.MapO Value.string Vs.sv wx (some w.heap.size) [] := by
  have h1 : Lk.MapO Value.string Vs.sv (w.alloc (.map #[] 0)) (some w.heap.size) [] := Lk.map_made (ev := Value.string) (good := fun _ => True) (fv := Vs.sv) w 0; rw [hwx]; exact h1.later (Below.al (Below.refl _ _) _)
 have hsx : w.heap.size + 2 = wx.heap.size := by rw [hwx]; simp
 have kx : wx.heap[w.heap.size + 1]? = some (.cells #[.map (some w.heap.size)] 215 (0, 0)) := by
  have h1 := World.alloc_heap_new (w.alloc (.map #[] 0)) (.cells #[.map (some w.heap.size)] 215); rw [hwx]; simpa using h1
 have HK : Hid (wx.cell? ⟨w.heap.size + 1, 0, none⟩ = some (.map (some w.heap.size))) := Vs.cob kx rfl; have HN := hid hn; have HNL := hid hnl; have HR := hid hr; have HU := hid hU; have HW := hid hW; have HBX := hid hbx; have HM0 := hid hM0; have HSX := hid hsx; have mk1 : ∀ W, (Instr.makeMap 215 none).run Tryz.prog W = .ok (.map (some W.heap.size)) (W.alloc (.map #[] 0)) := fun W => run_makeMap _ W
 clear hr hU hW hbx hM0 kx hn hnl hsx; go_enter Tryz.func85, Tryz.ntmps85
 go_wp2_with fail
 rw [← hwx]; clear hwx mk1; go_loopg [13] n (fun g s13 wr => ∃ i : Nat, i ≤ n ∧ g = n - i ∧ s13 = .int .i64 (i : Int) ∧ Hid (Lk.MapO Value.string Vs.sv wr (some w.heap.size) (ovJ ((U.take i).map Lk.Hv.h))) ∧ Hid (Onl (fun b => w.heap.size = b) wx wr))
 case atStart => exact ⟨0, by omega, by omega, rfl, HM0, Onl.refl _ _⟩
 case round =>
  obtain ⟨i, hin, rfl, rfl, HM, HO⟩ := hrel; have HBW : Hid (Below w.heap.size w wr) := HBX.out.trans (HO.out.below (fun b hb => by omega) HBX.out.size); obtain ⟨wq, hwq⟩ : ∃ x, x = wr := ⟨_, rfl⟩; subst hwq; by_cases hlt : i < n
  ·obtain ⟨v, hx⟩ : ∃ x, U[i]? = some x := ⟨_, List.getElem?_eq_getElem (by rw [← HN.out]; exact hlt)⟩; obtain ⟨q, off, hq, hc⟩ := (HU.out.later HBW.out) i v hx; subst hq; have c0 := hc 0 _ rfl; have c1 := hc 1 _ rfl; have c2 := hc 2 _ rfl; have c3' := hc 3 _ rfl; have c4 := hc 4 _ rfl; have c5 := hc 5 _ rfl; have c6' := hc 6 _ rfl; have c7 := hc 7 _ rfl; simp only [Nat.add_zero] at c0; have hem : v ∈ U := List.mem_of_getElem? hx; have htk : U.take (i + 1) = U.take i ++ [v] := by
    obtain ⟨h1, h2⟩ := List.getElem?_eq_some_iff.1 hx; rw [List.take_succ_eq_append_getElem h1, h2]
   have HTK : Hid (ovJ ((U.take (i + 1)).map Lk.Hv.h) = ovW (ovJ ((U.take i).map Lk.Hv.h)) (atHd v.h) v.h.ws) := by
    show _ = _
    rw [htk, List.map_append, List.map_singleton, ovJ_snoc]
   obtain ⟨J, hJ⟩ : ∃ J, J = ovJ ((U.take i).map Lk.Hv.h) := ⟨_, rfl⟩; rw [← hJ] at HM HTK; obtain ⟨k, hk⟩ : ∃ k, k = v.h.ws.length := ⟨_, rfl⟩; have HKL := hid hk; have hwl : k ≤ 1099511627776 := by rw [hk]; exact (HW.out v hem).2
   have HWR : Hid (RowG c3 3 w v.wa v.h.ws) := (HW.out v hem).1; rw [← hk] at c7; obtain ⟨wy, hwy⟩ : ∃ wy, wy = wq.alloc (.cells #[.int .u32 v.h.id.1, .int .u32 v.h.id.2, .int .u32 v.h.home, .int .u64 v.h.w, .int .u32 v.h.l, .int .u32 v.h.n, .slice v.ra v.h.rs.length v.rc, .slice v.wa k v.wc] 100) := ⟨_, rfl⟩; have hby : Below wq.heap.size wq wy := by rw [hwy]; exact Below.al (Below.refl _ _) _
   have ky : wy.heap[wq.heap.size]? = some (.cells #[.int .u32 v.h.id.1, .int .u32 v.h.id.2, .int .u32 v.h.home, .int .u64 v.h.w, .int .u32 v.h.l, .int .u32 v.h.n, .slice v.ra v.h.rs.length v.rc, .slice v.wa k v.wc] 100 (0, 0)) := by rw [hwy]; exact World.alloc_heap_new _ _
   have hsy : wq.heap.size < wy.heap.size := by rw [hwy]; simp
   have z7 : wy.cell? ⟨wq.heap.size, 7, none⟩ = some (.slice v.wa k v.wc) := Vs.cob ky rfl; rw [hwy] at z7; have HY := hid ky; have HBY := hid hby; have HMY := hid (HM.out.later hby); clear hc hx hem htk hJ hk hby ky; go_wp2_with fail
   rw [← hwy]; clear hwy c0 c1 c2 c3' c4 c5 c6' c7 z7; have hsr : w.heap.size + 2 ≤ wq.heap.size := by have := HO.out.size; have := HSX.out; omega
   go_loopg [20] k (fun g s20 wr => ∃ j : Nat, j ≤ k ∧ g = k - j ∧ s20 = .int .i64 (j : Int) ∧ Hid (Lk.MapO Value.string Vs.sv wr (some w.heap.size) (ovW J (atHd v.h) (v.h.ws.take j))) ∧ Hid (Onl (fun b => w.heap.size = b) wy wr))
   case atStart => exact ⟨0, by omega, by omega, rfl, HMY, Onl.refl _ _⟩
   case round =>
    obtain ⟨j, hjn, rfl, rfl, HMj, HOj⟩ := hrel; have HBj : Hid (Below w.heap.size w wr) := (Below.on HBW.out HBY.out).trans (HOj.out.below (fun b hb => by omega) (Below.on HBW.out HBY.out).size); by_cases hjl : j < k
    ·obtain ⟨x, hx⟩ : ∃ x, v.h.ws[j]? = some x := ⟨_, List.getElem?_eq_getElem (by rw [← HKL.out]; exact hjl)⟩; obtain ⟨q2, off2, hq2, hc2⟩ := (HWR.out.later HBj.out) j x hx; have d0 := hc2 0 _ rfl; have d1 := hc2 1 _ rfl; have d2 := hc2 2 _ rfl; simp only [Nat.add_zero] at d0; have htk : v.h.ws.take (j + 1) = v.h.ws.take j ++ [x] := by
      obtain ⟨h1, h2⟩ := List.getElem?_eq_some_iff.1 hx; rw [List.take_succ_eq_append_getElem h1, h2]
     have HT2 : Hid (ovW J (atHd v.h) (v.h.ws.take (j + 1)) = Lk.putA (ovW J (atHd v.h) (v.h.ws.take j)) x.key (atHd v.h)) := by
      show _ = _
      rw [htk, ovW_snoc]
     obtain ⟨wz, hwz⟩ : ∃ wz, wz = wr.alloc (.cells #[.string x.key, .bool x.del, .string x.val] 117) := ⟨_, rfl⟩; have hbz : Below wr.heap.size wr wz := by rw [hwz]; exact Below.al (Below.refl _ _) _
     obtain ⟨w6, hput, hm6, ho6, _⟩ := (HMj.out.later hbz).put (P := Tryz.prog) Lk.keysS Tryz.underlying215 x.key (atHd v.h); simp only [Vs.sv, atHd] at hput; have hne : ¬ w.heap.size = wq.heap.size := by omega
     have hy2 := (HOj.out.block _ hsy hne).trans HY.out; have hy3 := (hbz.block _ (Nat.lt_of_lt_of_le hsy HOj.out.size)).trans hy2; have e3 := Vs.cob (o := 3) hy3 rfl; have e4 := Vs.cob (o := 4) hy3 rfl; have e5 := Vs.cob (o := 5) hy3 rfl; have m0 : wz.cell? ⟨w.heap.size + 1, 0, none⟩ = some (.map (some w.heap.size)) := cell_later hbz (HOj.out.cell (by omega) (cell_later HBY.out (HO.out.cell (by omega) HK.out))); have HM6 : Hid (Lk.MapO Value.string Vs.sv w6 (some w.heap.size) (ovW J (atHd v.h) (v.h.ws.take (j + 1)))) := by rw [HT2.out]; exact hid hm6
     have HO6 : Hid (Onl (fun b => w.heap.size = b) wy w6) := (HOj.out.on hbz).trans ho6; rw [hwz] at hput e3 e4 e5 m0; clear hc2 hx htk hbz hm6 ho6 hy2 hy3 hwz HT2; rw [hq2]; go_wp2_with fail
     rw [← hq2]; go_roundg (k - (j + 1))
     case measure => omega
     case rel => exact ⟨j + 1, by omega, rfl, by go_num, HM6, HO6⟩
    ·obtain rfl : j = k := by omega
     have HM7 : Hid (Lk.MapO Value.string Vs.sv wr (some w.heap.size) (ovJ ((U.take (i + 1)).map Lk.Hv.h))) := by
      have h9 := HMj.out; rw [HKL.out, List.take_of_length_le (Nat.le_refl _), ← HTK.out] at h9; exact h9
     have HO7 : Hid (Onl (fun b => w.heap.size = b) wx wr) := (HO.out.on HBY.out).trans HOj.out; clear hjn hjl; go_wp2_with fail
     go_roundg (n - (i + 1))
     case measure => omega
     case rel => exact ⟨i + 1, by omega, rfl, by go_num, HM7, HO7⟩
  ·obtain rfl : i = n := by omega
   have HMl : Hid (Lk.MapO Value.string Vs.sv wq (some w.heap.size) (ovJ (U.map Lk.Hv.h))) := by
    have h9 := HM.out; rw [HN.out, List.take_of_length_le (Nat.le_refl _)] at h9; exact h9
   have CV : Hid (Calls Tryz.prog 161 #[.slice a nl c, .func (.func 162) #[] #[.pointer (some ⟨w.heap.size + 1, 0, none⟩)]] wq fun e w' => e = .returned (.bool (ovT l (U.map Lk.Hv.h))) ∧ Below wq.heap.size wq w') := by
    rw [HNL.out]; exact hid (contV_is HMl.out (HO.out.cell (by omega) HK.out) (HR.out.later HBW.out) (by rw [← HNL.out]; omega))
   have hmf : ∀ (fn : Fn) (first cap : Array Value) (w : World), (Instr.makeFunc fn first cap).run Tryz.prog w = .ok (.func fn first cap) w := fun _ _ _ _ => rfl
   clear hin hlt; go_wp2_with fail
   refine CV.out.mono ?_; rintro r w2 ⟨rfl, hb2⟩; have HB2 := hid (Below.on HBW.out hb2); clear hb2 CV; go_wp2_with fail
   go_ret
   exact ⟨rfl, HB2.out⟩
end Ig
section
open Go.RowKit Go.Sort
theorem dtext_raw {w : World} {b o : Nat} {m : Int} {s : List Nat} {r : Int} (h : DecR w b o s r) (hm1 : -9223372036854775808 ≤ m) (hm2 : m ≤ 9223372036854775807) (hl : s.length ≤ 9223372036854775807) :
  Calls Tryz.prog 158 #[.pointer (some ⟨b, o, none⟩), .int .i64 m] w fun e w' => match txt m.toNat s with
   | .ok t q => e = .returned (.string (ofNats t)) ∧ Cel b o 2 w w' ∧ DecR w' b o q r
   | .bad c => e = .returned (.string (ofNats [])) ∧ Cel b o 2 w w' ∧ DecR w' b o [] (stopR r c) := by
 have hmf : ∀ (fn : Fn) (first cap : Array Value) (w : World), (Instr.makeFunc fn first cap).run Tryz.prog w = .ok (.func fn first cap) w := fun _ _ _ _ => rfl
 obtain ⟨wa, hwa⟩ : ∃ wa, wa = w.alloc (.cells #[.pointer (some ⟨b, o, none⟩)] 73) := ⟨_, rfl⟩; have hba : Below w.heap.size w wa := by rw [hwa]; exact Below.al (Below.refl _ _) _
 have H := hid (h.later hba); have hq : wa.cell? ⟨w.heap.size, 0, none⟩ = some (.pointer (some ⟨b, o, none⟩)) := by rw [hwa]; simp [go_sem]
 have hbl := h.lt; have HWA := hid hwa; clear h hwa; obtain ⟨k, hk⟩ : ∃ k, m.toNat = k := ⟨_, rfl⟩; have HMN := hid hk; rw [hk]; clear hk; have hwd : (w.alloc (.cells #[.pointer (some ⟨b, o, none⟩)] 73)).drew = wa.drew := by rw [HWA.out]
 cases hv : txt k s with
 | ok t q =>
  have HV := hid hv; clear hv; go_enter_defers Tryz.func158, Tryz.ntmps158
  go_wp2_with fail
  refine wp_region_lin [[0, 1, 2, 3, 4], [1, 0, 2, 3, 4], [1, 2, 0, 3, 4]] (Checked.mixed Tryz.checked) (by kernel_rfl) ?_; simp only [List.mem_cons, List.not_mem_nil, or_false, forall_eq_or_imp, forall_eq]; refine ⟨wpOps_forall (.cons rfl (.cons rfl (.cons rfl (.cons rfl (.cons rfl .nil))))) ?_, wpOps_forall (.cons rfl (.cons rfl (.cons rfl (.cons rfl (.cons rfl .nil))))) ?_, wpOps_forall (.cons rfl (.cons rfl (.cons rfl (.cons rfl (.cons rfl .nil))))) ?_⟩; all_goals simp only [List.getElem_toArray, List.getElem_cons_zero, List.getElem_cons_succ]
  all_goals go_wp2_with (first | (go_at_call 205; refine (nbz_is hm1 hm2 HMN.out).mono ?_; rintro e w1 ⟨rfl, rfl⟩) | (go_at_call 204; (try rw [hwd]); refine (dtext_any H.out.drew hl).mono ?_; rw [HV.out]; rintro e w1 ⟨rfl, hc, hd⟩))
  all_goals
   have hq1 := hc.cell (.inl (by omega)) hq; refine leaves_cons (f := 203) (args := #[.pointer (some ⟨w.heap.size, 0, none⟩)]) (by simp) (by simp [go_sem]) ?_; refine (catch_text_idle hq1).mono ?_; rintro e u' w9 ⟨rfl, rfl, rfl⟩; refine ⟨.string (ofNats t), by simp [results, Tryz.results158, go_sem], rfl, (((Cel.of_below hba).drew).trans hc).drew, hd.drew⟩
 | bad c =>
  have HV := hid hv; clear hv; go_enter_defers Tryz.func158, Tryz.ntmps158
  go_wp2_with fail
  refine wp_region_lin [[0, 1, 2, 3, 4], [1, 0, 2, 3, 4], [1, 2, 0, 3, 4]] (Checked.mixed Tryz.checked) (by kernel_rfl) ?_; simp only [List.mem_cons, List.not_mem_nil, or_false, forall_eq_or_imp, forall_eq]; refine ⟨wpOps_forall (.cons rfl (.cons rfl (.cons rfl (.cons rfl (.cons rfl .nil))))) ?_, wpOps_forall (.cons rfl (.cons rfl (.cons rfl (.cons rfl (.cons rfl .nil))))) ?_, wpOps_forall (.cons rfl (.cons rfl (.cons rfl (.cons rfl (.cons rfl .nil))))) ?_⟩; all_goals simp only [List.getElem_toArray, List.getElem_cons_zero, List.getElem_cons_succ]
  all_goals go_wp2_with (first | (go_at_call 205; refine (nbz_is hm1 hm2 HMN.out).mono ?_; rintro e w1 ⟨rfl, rfl⟩) | (go_at_call 204; (try rw [hwd]); refine (dtext_any H.out.drew hl).mono ?_; rw [HV.out]; rintro e w1 ⟨rfl, hc, q, hd⟩))
  all_goals
   have hq1 := hc.cell (.inl (by omega)) hq; refine leaves_cons (f := 203) (args := #[.pointer (some ⟨w.heap.size, 0, none⟩)]) (by simp) (by simp [go_sem]) ?_; refine (catch_text_bad hq1 hd).mono ?_; rintro e u' w9 ⟨rfl, rfl, hc9, hd9⟩; refine ⟨.string { data := #[] }, by simp [results, Tryz.results158, go_sem], rfl, (((Cel.of_below hba).drew).trans hc).trans hc9, hd9⟩
theorem tText_txt (m : Nat) (s : List Nat) : tText m (.at s) = match txt m s with
  | .ok t q => (t, .at q)
  | .bad c => ([], .stop c) := by
 simp only [tText, txt]; cases vdec m s with
 | ok v r =>
  simp only [tRaw]; by_cases h : r.length < v
  ·simp [h]
  ·simp [h]
 | short => rfl
 | form => rfl
theorem txt_bad {m : Nat} {s : List Nat} {c : Int} (h : txt m s = .bad c) : c ≠ 0 := by
 unfold txt at h; split at h
 ·split at h
  ·injection h with h; subst h; decide
  ·cases h
 ·injection h with h; subst h; decide
 ·injection h with h; subst h; decide
theorem txt_nil (m : Nat) : txt m [] = .bad 30 := rfl
theorem dtext_is {w : World} {b o : Nat} {m : Int} {t : List Nat} {d d' : Ds} (h : DecAt w b o d) (hm1 : -9223372036854775808 ≤ m) (hm2 : m ≤ 9223372036854775807) (hl : d.left.length ≤ 9223372036854775807) (hv : tText m.toNat d = (t, d')) :
  Calls Tryz.prog 158 #[.pointer (some ⟨b, o, none⟩), .int .i64 m] w fun e w' => e = .returned (.string (ofNats t)) ∧ Cel b o 2 w w' ∧ DecAt w' b o d' := by
 have hok := h.ok; refine (dtext_raw h.raw hm1 hm2 hl).mono ?_; intro e w'; cases d with
 | stop c =>
  have hc : c ≠ 0 := hok; simp only [tText] at hv; injection hv with h1 h2
  subst h1 h2; have e1 : stopR (Ds.stop c).num 30 = c := if_neg hc; simp only [Ds.left, txt_nil, e1]; rintro ⟨h1, h2, h3⟩; exact ⟨h1, h2, h3, hc⟩
 | «at» s =>
  rw [tText_txt] at hv; simp only [Ds.left]; cases hx : txt m.toNat s with
  | ok t' q =>
   rw [hx] at hv; injection hv with h1 h2
   subst h1 h2; rintro ⟨h1, h2, h3⟩; exact ⟨h1, h2, h3, trivial⟩
  | bad c =>
   rw [hx] at hv; injection hv with h1 h2
   subst h1 h2; rintro ⟨h1, h2, h3⟩; exact ⟨h1, h2, h3, txt_bad hx⟩
theorem dflag_ok {w : World} {b o x : Nat} {t : List Nat} {r : Int} (h : DecR w b o (x :: t) r) (hx : x = 0 ∨ x = 1) (hl : t.length + 1 ≤ 9223372036854775807) :
  Calls Tryz.prog 159 #[.pointer (some ⟨b, o, none⟩)] w fun e w' => e = .returned (.bool (decide (x = 1))) ∧ Cel b o 2 w w' ∧ DecR w' b o t r := by
 have hmf : ∀ (fn : Fn) (first cap : Array Value) (w : World), (Instr.makeFunc fn first cap).run Tryz.prog w = .ok (.func fn first cap) w := fun _ _ _ _ => rfl
 obtain ⟨wa, hwa⟩ : ∃ wa, wa = w.alloc (.cells #[.pointer (some ⟨b, o, none⟩)] 73) := ⟨_, rfl⟩; have hba : Below w.heap.size w wa := by rw [hwa]; exact Below.al (Below.refl _ _) _
 have H := hid (h.later hba); have hq : wa.cell? ⟨w.heap.size, 0, none⟩ = some (.pointer (some ⟨b, o, none⟩)) := by rw [hwa]; simp [go_sem]
 have hbl := h.lt; have HWA := hid hwa; clear h hwa; rcases hx with rfl | rfl
 all_goals
  go_enter_defers Tryz.func159, Tryz.ntmps159
  go_wp2_with (rw [← HWA.out]; go_at_call 202; refine (next_ok H.out hl).mono ?_; rintro e w1 ⟨rfl, hc, hd⟩)
  have hq1 := hc.cell (.inl (by omega)) hq; refine leaves_cons (f := 206) (args := #[.pointer (some ⟨w.heap.size, 0, none⟩)]) (by simp) (by simp [go_sem]) ?_; refine (catch_flag_idle hq1).mono ?_; rintro e u' w9 ⟨rfl, rfl, rfl⟩; refine ⟨_, by simp [results, Tryz.results159, go_sem], rfl, ((Cel.of_below hba).trans hc).drew, hd.drew⟩
theorem dflag_form {w : World} {b o x : Nat} {t : List Nat} {r : Int} (h : DecR w b o (x :: t) r) (hx : ¬ (x = 0 ∨ x = 1)) (hl : t.length + 1 ≤ 9223372036854775807) :
  Calls Tryz.prog 159 #[.pointer (some ⟨b, o, none⟩)] w fun e w' => e = .returned (.bool false) ∧ Cel b o 2 w w' ∧ DecR w' b o [] (stopR r 31) := by
 have e1 : ((x : Int) != 1) = true := by simp; omega
 have e0 : ((x : Int) != 0) = true := by simp; omega
 have f1 : decide ((x : Int) = 1) = false := by simp; omega
 have f0 : decide ((x : Int) = 0) = false := by simp; omega
 have hmf : ∀ (fn : Fn) (first cap : Array Value) (w : World), (Instr.makeFunc fn first cap).run Tryz.prog w = .ok (.func fn first cap) w := fun _ _ _ _ => rfl
 obtain ⟨wa, hwa⟩ : ∃ wa, wa = w.alloc (.cells #[.pointer (some ⟨b, o, none⟩)] 73) := ⟨_, rfl⟩; have hba : Below w.heap.size w wa := by rw [hwa]; exact Below.al (Below.refl _ _) _
 have H := hid (h.later hba); have hq : wa.cell? ⟨w.heap.size, 0, none⟩ = some (.pointer (some ⟨b, o, none⟩)) := by rw [hwa]; simp [go_sem]
 have hbl := h.lt; have HWA := hid hwa; clear h hwa; have HX := hid hx; clear hx; go_enter_defers Tryz.func159, Tryz.ntmps159
 go_wp2_with (rw [← HWA.out]; go_at_call 202; refine (next_ok H.out hl).mono ?_; rintro e w1 ⟨rfl, hc, hd⟩)
 have hq1 := hc.cell (.inl (by omega)) hq; refine leaves_cons (f := 206) (args := #[.pointer (some ⟨w.heap.size, 0, none⟩)]) (by simp) (by simp [go_sem]) ?_; refine (catch_flag_bad hq1 hd).mono ?_; rintro e u' w9 ⟨rfl, rfl, hc9, hd9⟩; refine ⟨.bool false, by simp [results, Tryz.results159, go_sem], rfl, ((Cel.of_below hba).trans hc).trans hc9, hd9⟩
theorem dflag_bad {w : World} {b o : Nat} {r : Int} (h : DecR w b o [] r) :
  Calls Tryz.prog 159 #[.pointer (some ⟨b, o, none⟩)] w fun e w' => e = .returned (.bool false) ∧ Cel b o 2 w w' ∧ DecR w' b o [] (stopR r 30) := by
 have hmf : ∀ (fn : Fn) (first cap : Array Value) (w : World), (Instr.makeFunc fn first cap).run Tryz.prog w = .ok (.func fn first cap) w := fun _ _ _ _ => rfl
 obtain ⟨wa, hwa⟩ : ∃ wa, wa = w.alloc (.cells #[.pointer (some ⟨b, o, none⟩)] 73) := ⟨_, rfl⟩; have hba : Below w.heap.size w wa := by rw [hwa]; exact Below.al (Below.refl _ _) _
 have H := hid (h.later hba); have hq : wa.cell? ⟨w.heap.size, 0, none⟩ = some (.pointer (some ⟨b, o, none⟩)) := by rw [hwa]; simp [go_sem]
 have hbl := h.lt; have HWA := hid hwa; clear h hwa; go_enter_defers Tryz.func159, Tryz.ntmps159
 go_wp2_with (rw [← HWA.out]; go_at_call 202; refine (next_bad H.out).mono ?_; rintro e w1 ⟨rfl, rfl⟩)
 have hq1 := hq; have hd := H.out; refine leaves_cons (f := 206) (args := #[.pointer (some ⟨w.heap.size, 0, none⟩)]) (by simp) (by simp [go_sem]) ?_; refine (catch_flag_bad hq1 hd).mono ?_; rintro e u' w9 ⟨rfl, rfl, hc9, hd9⟩; refine ⟨.bool false, by simp [results, Tryz.results159, go_sem], rfl, (Cel.of_below hba).trans hc9, hd9⟩
theorem dflag_is {w : World} {b o : Nat} {x : Bool} {d d' : Ds} (h : DecAt w b o d) (hl : d.left.length ≤ 9223372036854775807) (hv : tFlag d = (x, d')) :
  Calls Tryz.prog 159 #[.pointer (some ⟨b, o, none⟩)] w fun e w' => e = .returned (.bool x) ∧ Cel b o 2 w w' ∧ DecAt w' b o d' := by
 have hok := h.ok; cases d with
 | stop c =>
  have hc : c ≠ 0 := hok; simp only [tFlag] at hv; injection hv with h1 h2
  subst h1 h2; refine (dflag_bad h.raw).mono ?_; rintro e w' ⟨h1, h2, h3⟩; have e1 : stopR (Ds.stop c).num 30 = c := if_neg hc; rw [e1] at h3; exact ⟨h1, h2, h3, hc⟩
 | «at» s =>
  cases s with
  | nil =>
   simp only [tFlag] at hv; injection hv with h1 h2
   subst h1 h2; refine (dflag_bad h.raw).mono ?_; rintro e w' ⟨h1, h2, h3⟩; exact ⟨h1, h2, h3, show (30 : Int) ≠ 0 by decide⟩
  | cons y t =>
   by_cases hy : y = 0 ∨ y = 1
   ·have hv' : x = decide (y = 1) ∧ d' = .at t := by
     rcases hy with rfl | rfl
     ·simp only [tFlag, if_true] at hv; injection hv with h1 h2
      exact ⟨h1.symm, h2.symm⟩
     ·have hv2 : (true, Ds.at t) = (x, d') := hv; injection hv2 with h1 h2
      exact ⟨h1.symm, h2.symm⟩
    obtain ⟨rfl, rfl⟩ := hv'; refine (dflag_ok h.raw hy hl).mono ?_; rintro e w' ⟨h1, h2, h3⟩; exact ⟨h1, h2, h3, trivial⟩
   ·have h0 : ¬ y = 0 := fun e => hy (.inl e)
    have h1' : ¬ y = 1 := fun e => hy (.inr e)
    simp only [tFlag, h0, h1', if_false] at hv; injection hv with h1 h2
    subst h1 h2; refine (dflag_form h.raw hy hl).mono ?_; rintro e w' ⟨h1, h2, h3⟩; exact ⟨h1, h2, h3, show (31 : Int) ≠ 0 by decide⟩
theorem dbyte_ok {w : World} {b o x : Nat} {t : List Nat} {r : Int} (h : DecR w b o (x :: t) r) (hl : t.length + 1 ≤ 9223372036854775807) :
  Calls Tryz.prog 157 #[.pointer (some ⟨b, o, none⟩)] w fun e w' => e = .returned (.int .u8 (x : Int)) ∧ Cel b o 2 w w' ∧ DecR w' b o t r := by
 have hmf : ∀ (fn : Fn) (first cap : Array Value) (w : World), (Instr.makeFunc fn first cap).run Tryz.prog w = .ok (.func fn first cap) w := fun _ _ _ _ => rfl
 obtain ⟨wa, hwa⟩ : ∃ wa, wa = w.alloc (.cells #[.pointer (some ⟨b, o, none⟩)] 73) := ⟨_, rfl⟩; have hba : Below w.heap.size w wa := by rw [hwa]; exact Below.al (Below.refl _ _) _
 have H := hid (h.later hba); have hq : wa.cell? ⟨w.heap.size, 0, none⟩ = some (.pointer (some ⟨b, o, none⟩)) := by rw [hwa]; simp [go_sem]
 have hbl := h.lt; have HWA := hid hwa; clear h hwa; go_enter_defers Tryz.func157, Tryz.ntmps157
 go_wp2_with (rw [← HWA.out]; go_at_call 202; refine (next_ok H.out hl).mono ?_; rintro e w1 ⟨rfl, hc, hd⟩)
 have hq1 := hc.cell (.inl (by omega)) hq; refine leaves_cons (f := 201) (args := #[.pointer (some ⟨w.heap.size, 0, none⟩)]) (by simp) (by simp [go_sem]) ?_; refine (catch_byte_idle hq1).mono ?_; rintro e u' w9 ⟨rfl, rfl, rfl⟩; refine ⟨.int .u8 x, by simp [results, Tryz.results157, go_sem], rfl, ((Cel.of_below hba).trans hc).drew, hd.drew⟩
theorem dbyte_bad {w : World} {b o : Nat} {r : Int} (h : DecR w b o [] r) :
  Calls Tryz.prog 157 #[.pointer (some ⟨b, o, none⟩)] w fun e w' => e = .returned (.int .u8 0) ∧ Cel b o 2 w w' ∧ DecR w' b o [] (stopR r 30) := by
 have hmf : ∀ (fn : Fn) (first cap : Array Value) (w : World), (Instr.makeFunc fn first cap).run Tryz.prog w = .ok (.func fn first cap) w := fun _ _ _ _ => rfl
 obtain ⟨wa, hwa⟩ : ∃ wa, wa = w.alloc (.cells #[.pointer (some ⟨b, o, none⟩)] 73) := ⟨_, rfl⟩; have hba : Below w.heap.size w wa := by rw [hwa]; exact Below.al (Below.refl _ _) _
 have H := hid (h.later hba); have hq : wa.cell? ⟨w.heap.size, 0, none⟩ = some (.pointer (some ⟨b, o, none⟩)) := by rw [hwa]; simp [go_sem]
 have hbl := h.lt; have HWA := hid hwa; clear h hwa; go_enter_defers Tryz.func157, Tryz.ntmps157
 go_wp2_with (rw [← HWA.out]; go_at_call 202; refine (next_bad H.out).mono ?_; rintro e w1 ⟨rfl, rfl⟩)
 have hq1 := hq; have hd := H.out; refine leaves_cons (f := 201) (args := #[.pointer (some ⟨w.heap.size, 0, none⟩)]) (by simp) (by simp [go_sem]) ?_; refine (catch_byte_bad hq1 hd).mono ?_; rintro e u' w9 ⟨rfl, rfl, hc9, hd9⟩; refine ⟨.int .u8 0, by simp [results, Tryz.results157, go_sem], rfl, (Cel.of_below hba).trans hc9, hd9⟩
theorem dbyte_is {w : World} {b o x : Nat} {d d' : Ds} (h : DecAt w b o d) (hl : d.left.length ≤ 9223372036854775807) (hv : tByte d = (x, d')) :
  Calls Tryz.prog 157 #[.pointer (some ⟨b, o, none⟩)] w fun e w' => e = .returned (.int .u8 (x : Int)) ∧ Cel b o 2 w w' ∧ DecAt w' b o d' := by
 have hok := h.ok; cases d with
 | stop c =>
  have hc : c ≠ 0 := hok; simp only [tByte] at hv; injection hv with h1 h2
  subst h1 h2; refine (dbyte_bad h.raw).mono ?_; rintro e w' ⟨h1, h2, h3⟩; have e1 : stopR (Ds.stop c).num 30 = c := if_neg hc; rw [e1] at h3; exact ⟨h1, h2, h3, hc⟩
 | «at» s =>
  cases s with
  | nil =>
   simp only [tByte] at hv; injection hv with h1 h2
   subst h1 h2; refine (dbyte_bad h.raw).mono ?_; rintro e w' ⟨h1, h2, h3⟩; exact ⟨h1, h2, h3, show (30 : Int) ≠ 0 by decide⟩
  | cons y t =>
   simp only [tByte] at hv; injection hv with h1 h2
   subst h1 h2; refine (dbyte_ok h.raw hl).mono ?_; rintro e w' ⟨h1, h2, h3⟩; exact ⟨h1, h2, h3, trivial⟩
theorem catch_var_bad {w : World} {b o q : Nat} {s : List Nat} {r c : Int} {older : List PanicEntry} (hq : w.cell? ⟨q, 0, none⟩ = some (.pointer (some ⟨b, o, none⟩))) (h : DecR w b o s r) :
  CallsD Tryz.prog 145 #[.pointer (some ⟨q, 0, none⟩)] (.panicking (fault c :: older)) w fun e u' w' =>
   e = .returned (.tuple #[]) ∧ u' = .panicking (fault' c :: older) ∧ Cel b o 2 w w' ∧ DecR w' b o [] (stopR r c) := by
 refine callsD_of_wpS Tryz.func145 rfl fun c₀ cs hu => ?_
 apply wrd
 intro t; have h' : DecR w.drew b o s r := ⟨h.c0, h.c1, h.b8, h.loose⟩; change wpOpsS _ (cOps "dec.go:40") _ (Region.schedule _ (cOps "dec.go:40") t) _ _ _
 rcases c_orders "dec.go:40" (Tryz.prog.follows Departure.mixedOrders) t with e | e
 all_goals
  rw [e]; simp [wpOpsS, cOps, go_sem, recoverD, hu, Tryz.ntmps145, hq]; refine (stop_fault h').mono ?_; rintro e1 w1 ⟨rfl, hc, hd⟩; exact ⟨rfl, _, rfl, _, results_none rfl _ _ _, rfl, rfl, (Cel.refl b o 2 w).drew.trans hc, hd⟩
theorem catch_var_idle {w : World} {b o q : Nat} (hq : w.cell? ⟨q, 0, none⟩ = some (.pointer (some ⟨b, o, none⟩))) :
  CallsD Tryz.prog 145 #[.pointer (some ⟨q, 0, none⟩)] .returning w fun e u' w' => e = .returned (.tuple #[]) ∧ u' = .returning ∧ w' = w.drew := by
 refine callsD_of_wpS Tryz.func145 rfl fun c₀ cs hu => ?_
 apply wrd
 intro t; change wpOpsS _ (cOps "dec.go:40") _ (Region.schedule _ (cOps "dec.go:40") t) _ _ _
 rcases c_orders "dec.go:40" (Tryz.prog.follows Departure.mixedOrders) t with e | e
 all_goals
  rw [e]; simp [wpOpsS, cOps, go_sem, recoverD, hu, Tryz.ntmps145, hq]; refine stop_nil.mono ?_; rintro e1 w1 ⟨rfl, rfl⟩; refine ⟨rfl, .returning, ?_, _, results_none rfl _ _ _, rfl, rfl, rfl⟩; cases c₀
  simp_all
theorem dvar_raw {w : World} {b o m : Nat} {s : List Nat} {r : Int} (h : DecR w b o s r) (hl : s.length ≤ 9223372036854775807) :
  Calls Tryz.prog 74 #[.pointer (some ⟨b, o, none⟩), .int .u64 (m : Int)] w fun e w' => match vdec m s with
   | .ok v t => e = .returned (.int .u64 (v : Int)) ∧ Cel b o 2 w w' ∧ DecR w' b o t r
   | .short => e = .returned (.int .u64 0) ∧ Cel b o 2 w w' ∧ DecR w' b o [] (stopR r 30)
   | .form => e = .returned (.int .u64 0) ∧ Cel b o 2 w w' ∧ DecR w' b o [] (stopR r 31) := by
 have hmf : ∀ (fn : Fn) (first cap : Array Value) (w : World), (Instr.makeFunc fn first cap).run Tryz.prog w = .ok (.func fn first cap) w := fun _ _ _ _ => rfl
 obtain ⟨wa, hwa⟩ : ∃ wa, wa = w.alloc (.cells #[.pointer (some ⟨b, o, none⟩)] 73) := ⟨_, rfl⟩; have hba : Below w.heap.size w wa := by rw [hwa]; exact Below.al (Below.refl _ _) _
 have H := hid (h.later hba); have hq : wa.cell? ⟨w.heap.size, 0, none⟩ = some (.pointer (some ⟨b, o, none⟩)) := by rw [hwa]; simp [go_sem]
 have hbl := h.lt; have HWA := hid hwa; clear h hwa; cases hv : vdec m s with
 | ok v t =>
  have HV := hid hv; clear hv; go_enter_defers Tryz.func74, Tryz.ntmps74
  go_wp2_with (rw [← HWA.out]; go_at_call 147; refine (dnumber_any H.out hl).mono ?_; rw [HV.out]; rintro e w1 ⟨rfl, hc, hd⟩)
  have hq1 := hc.cell (.inl (by omega)) hq; refine leaves_cons (f := 145) (args := #[.pointer (some ⟨w.heap.size, 0, none⟩)]) (by simp) (by simp [go_sem]) ?_; refine (catch_var_idle hq1).mono ?_; rintro e u' w2 ⟨rfl, rfl, rfl⟩; refine ⟨.int .u64 v, by simp [results, Tryz.results74, go_sem], rfl, ((Cel.of_below hba).trans hc).drew, ⟨hd.c0, hd.c1, hd.b8, hd.loose⟩⟩
 | short =>
  have HV := hid hv; clear hv; go_enter_defers Tryz.func74, Tryz.ntmps74
  go_wp2_with (rw [← HWA.out]; go_at_call 147; refine (dnumber_any H.out hl).mono ?_; rw [HV.out]; rintro e w1 ⟨rfl, hc, t, hd⟩)
  have hq1 := hc.cell (.inl (by omega)) hq; refine leaves_cons (f := 145) (args := #[.pointer (some ⟨w.heap.size, 0, none⟩)]) (by simp) (by simp [go_sem]) ?_; refine (catch_var_bad hq1 hd).mono ?_; rintro e u' w2 ⟨rfl, rfl, hc2, hd2⟩; refine ⟨.int .u64 0, by simp [results, Tryz.results74, go_sem], rfl, ((Cel.of_below hba).trans hc).trans hc2, hd2⟩
 | form =>
  have HV := hid hv; clear hv; go_enter_defers Tryz.func74, Tryz.ntmps74
  go_wp2_with (rw [← HWA.out]; go_at_call 147; refine (dnumber_any H.out hl).mono ?_; rw [HV.out]; rintro e w1 ⟨rfl, hc, t, hd⟩)
  have hq1 := hc.cell (.inl (by omega)) hq; refine leaves_cons (f := 145) (args := #[.pointer (some ⟨w.heap.size, 0, none⟩)]) (by simp) (by simp [go_sem]) ?_; refine (catch_var_bad hq1 hd).mono ?_; rintro e u' w2 ⟨rfl, rfl, hc2, hd2⟩; refine ⟨.int .u64 0, by simp [results, Tryz.results74, go_sem], rfl, ((Cel.of_below hba).trans hc).trans hc2, hd2⟩
theorem dvar_any {w : World} {b o m : Nat} {d : Ds} (h : DecAt w b o d) (hl : d.left.length ≤ 9223372036854775807) :
  Calls Tryz.prog 74 #[.pointer (some ⟨b, o, none⟩), .int .u64 (m : Int)] w fun e w' => e = .returned (.int .u64 ((tVar m d).1 : Int)) ∧ Cel b o 2 w w' ∧ DecAt w' b o (tVar m d).2 := by
 refine (dvar_raw (m := m) h.raw hl).mono ?_; intro e w'; have hok := h.ok; cases d with
 | stop c =>
  have hc : c ≠ 0 := hok; simp only [Ds.left, Ds.num, vdec, vgo, tVar, stopR, hc, if_false]; rintro ⟨h1, h2, h3⟩; exact ⟨h1, h2, h3, hc⟩
 | «at» s =>
  simp only [Ds.left, Ds.num, tVar, stopR, if_true]; cases vdec m s with
  | ok v t => rintro ⟨h1, h2, h3⟩; exact ⟨h1, h2, h3, trivial⟩
  | short => rintro ⟨h1, h2, h3⟩; exact ⟨h1, h2, h3, show (30 : Int) ≠ 0 by decide⟩
  | form => rintro ⟨h1, h2, h3⟩; exact ⟨h1, h2, h3, show (31 : Int) ≠ 0 by decide⟩
end
end Go.Proofs.YtofpaldolcnmiaaGreat
