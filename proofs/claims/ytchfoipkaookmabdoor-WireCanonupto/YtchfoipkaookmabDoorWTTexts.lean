import Derived.Test.YtchfoipkaookmabDoorWTTexts0
import Derived.Test.YtchfoipkaookmabDoorWTText
namespace Go.Proofs.YtchfoipkaookmabDoor
open Go.RowKit Go.Sort
set_option linter.unusedVariables false

theorem owns_less {w : World} {B C size n : Nat} {e : TypeId} {v : Value} {xs : List Value} (h : w.ownsRow B e size v n xs) (hC : C ≤ B) : w.ownsRow C e size v n xs := by
  obtain ⟨h1, h2 | ⟨g, cap, cur, hv, hg, r⟩⟩ := h
  · exact ⟨h1, .inl h2⟩
  · exact ⟨h1, .inr ⟨g, cap, cur, hv, Nat.le_trans hC hg, r⟩⟩

set_option maxRecDepth 8000 in
set_option maxHeartbeats 2000000 in
theorem dtexts_ok {w : World} {b o : Nat} {m c : Int} {s : List Nat} {r : Int} (h : DecR w b o s r) (hm1 : -9223372036854775808 ≤ m) (hm2 : m ≤ 9223372036854775807) (hk1 : -9223372036854775808 ≤ c) (hk2 : c ≤ 9223372036854775807) (hl : s.length ≤ 1099511627776) {nn : Nat} {q0 : List Nat} (hv : vdec c.toNat s = .ok nn q0) :
    Calls Tryd.prog 24 #[.pointer (some ⟨b, o, none⟩), .int .i64 c, .int .i64 m] w fun e w' => TxEnd b o w.heap.size r w (txAll c.toNat m.toNat s) e w' := by
  have hmf : ∀ (fn : Fn) (first cap : Array Value) (w : World), (Instr.makeFunc fn first cap).run Tryd.prog w = .ok (.func fn first cap) w := fun _ _ _ _ => rfl
  obtain ⟨i0, hi, hz0, hz1, hz2⟩ := info_split Tryd.infoStr
  obtain ⟨wa, hwa⟩ : ∃ wa, wa = w.alloc (.cells #[.pointer (some ⟨b, o, none⟩)] 32) := ⟨_, rfl⟩
  have hba : Below w.heap.size w wa := by rw [hwa]; exact Below.al (Below.refl _ _) _
  have H := hid (h.later hba)
  have hq : wa.cell? ⟨w.heap.size, 0, none⟩ = some (.pointer (some ⟨b, o, none⟩)) := by rw [hwa]; simp [go_sem]
  have hbl := h.lt
  have hwl : wa.heap.size = w.heap.size + 1 := by rw [hwa]; simp
  have HWA := hid hwa
  have HWL := hid hwl
  clear h hwa hwl
  obtain ⟨k, hk⟩ : ∃ k, c.toNat = k := ⟨_, rfl⟩
  have HKN := hid hk
  rw [hk] at hv ⊢
  clear hk
  obtain ⟨n, hn⟩ : ∃ n, m.toNat = n := ⟨_, rfl⟩
  have HMN := hid hn
  rw [hn]
  clear hn
  have hwd : (w.alloc (.cells #[.pointer (some ⟨b, o, none⟩)] 32)).drew = wa.drew := by rw [HWA.out]
  have hres : ∀ (j : Nat) (v : Value), j ≠ 6 → ∀ t : Array Value, results Tryd.f24 (t.setIfInBounds j v) = results Tryd.f24 t := by
    intro j v hj t
    simp [results, Tryd.results24, Array.getElem?_setIfInBounds_ne hj]
  have HRES := hid hres
  clear hres
  have hq0 := vdec_len hv
  have HV := hid hv
  have HQ0 := hid hq0
  clear hv hq0
  have e9 : txAll k n s = txs n nn q0 := by unfold txAll; rw [HV.out]
  rw [e9]
  clear e9
  go_enter_defers Tryd.func24, Tryd.ntmps24
  go_wp2_with fail
  rw [← HWA.out]
  go_cut [12, 13] from 9 to 13 (fun s12 s13 wx => s12 = .int .u64 (nn : Int) ∧ s13 = .int .u64 0 ∧ Hid (Cel b o 2 wa wx ∧ DecR wx b o q0 r))
  case first =>
    refine wp_region_anyD (Checked.mixed Tryd.checked) ?_
    refine wpAny_take (i := 4) (v := .int .u64 0) rfl (by kernel_rfl) (by kernel_rfl) (by kernel_rfl) (fun _ _ _ h => bodyD_put (HRES.out 13 _ (by decide)) h) (Or.inl ⟨rfl, fun w => BigFrame.run_move (Operand.const (.int .u64 0)) rfl w⟩) ?_
    refine wpAny_take (i := 1) (v := .int .i64 c) rfl (by kernel_rfl) (by kernel_rfl) (by kernel_rfl) (fun _ _ _ h => bodyD_put (HRES.out 10 _ (by decide)) h) (Or.inl ⟨rfl, fun w => BigFrame.run_move (Operand.tmp 1) rfl w⟩) ?_
    refine wpAny_br (rs := [0, 2]) (by kernel_rfl) (by simp) ?_
    simp only [List.mem_cons, List.not_mem_nil, or_false, forall_eq_or_imp, forall_eq]
    refine ⟨⟨[2, 3], by kernel_rfl, wpOps_forall (.cons rfl (.cons rfl (.cons rfl .nil))) ?_⟩, ⟨[0, 3], by kernel_rfl, wpOps_forall (.cons rfl (.cons rfl (.cons rfl .nil))) ?_⟩⟩
    all_goals simp only [Act.put, List.getElem_toArray, List.getElem_cons_zero, List.getElem_cons_succ]
    all_goals go_wp2_with (first | (go_at_call 40; refine (nbz_is hk1 hk2 HKN.out).mono ?_; rintro e w1 ⟨rfl, rfl⟩) | (go_at_call 37; refine (dnumber_any H.out.drew (by omega)).mono ?_; rw [HV.out]; rintro e w1 ⟨rfl, hc, hd⟩; have HC := hid hc; have HD := hid hd; clear hc hd))
    all_goals
      go_meet
      exact ⟨rfl, rfl, (Cel.refl _ _ _ _).drew.trans HC.out, HD.out⟩
  case rest =>
    obtain ⟨rfl, rfl, HW⟩ := hcut
    go_wp2_with fail
    go_loopg [7, 13] nn (fun g s7 s13 wr => ∃ (i : Nat) (ts : List (List Nat)) (q : List Nat) (sl : Value), i ≤ nn ∧ g = nn - i ∧ s13 = .int .u64 (i : Int) ∧ sl = s7 ∧ Hid (wr.ownsRow wa.heap.size 9 1 sl i (tvals ts) ∧ ts.length = i ∧ txs n nn q0 = comb ts (txs n (nn - i) q) ∧ Cel b o 2 wa wr ∧ DecR wr b o q r ∧ i + q.length ≤ s.length))
    case atStart =>
      refine ⟨0, [], q0, .slice none 0 0, by omega, by omega, rfl, rfl, ⟨by simp [tvals], .inl ⟨rfl, rfl⟩⟩, rfl, ?_, HW.out.1, HW.out.2, by have := HQ0.out; omega⟩
      cases txs n nn q0 <;> simp [comb]
    case round =>
      obtain ⟨i, ts, q, sl, hin, rfl, rfl, rfl, HH⟩ := hrel
      have hqr : wr.cell? ⟨w.heap.size, 0, none⟩ = some (.pointer (some ⟨b, o, none⟩)) := HH.out.2.2.2.1.cell (.inl (by omega)) hq
      have hqs : q.length ≤ 1099511627776 := by have := HH.out.2.2.2.2.2; omega
      have his : i ≤ 1099511627776 := by have := HH.out.2.2.2.2.2; omega
      by_cases hlt : i < nn
      · have e1 : decide ((i : Int) < (nn : Int)) = true := by simp; omega
        cases hx : txt n q with
        | bad cc =>
          have HX := hid hx
          have HB : Hid (txs n nn q0 = .bad cc) := (by
            have h1 := HH.out.2.2.1
            rw [show nn - i = (nn - i - 1) + 1 by omega, txs_bad hx] at h1
            exact h1)
          clear hx
          go_wp2_with fail
          refine wp_region_anyD (Checked.mixed Tryd.checked) ?_
          refine wpAny_take (i := 0) (v := sl) rfl (by kernel_rfl) (by kernel_rfl) (by kernel_rfl) (fun _ _ _ h => bodyD_put (HRES.out 15 _ (by decide)) h) (Or.inl ⟨rfl, fun w => BigFrame.run_move (Operand.tmp 7) rfl w⟩) ?_
          refine wpAny_take (i := 2) (v := .int .i64 m) rfl (by kernel_rfl) (by kernel_rfl) (by kernel_rfl) (fun _ _ _ h => bodyD_put (HRES.out 17 _ (by decide)) h) (Or.inl ⟨rfl, fun w => BigFrame.run_move (Operand.tmp 2) rfl w⟩) ?_
          refine wpAny_br (rs := [1, 3]) (by kernel_rfl) (by simp) ?_
          simp only [List.mem_cons, List.not_mem_nil, or_false, forall_eq_or_imp, forall_eq]
          refine ⟨⟨[3, 4, 5, 6, 7], by kernel_rfl, wpOps_forall (.cons rfl (.cons rfl (.cons rfl (.cons rfl (.cons rfl (.cons rfl .nil)))))) ?_⟩, ⟨[1, 4, 5, 6, 7], by kernel_rfl, wpOps_forall (.cons rfl (.cons rfl (.cons rfl (.cons rfl (.cons rfl (.cons rfl .nil)))))) ?_⟩⟩
          all_goals simp only [Act.put, List.getElem_toArray, List.getElem_cons_zero, List.getElem_cons_succ]
          all_goals go_wp2_with (first | (go_at_call 40; refine (nbz_is hm1 hm2 HMN.out).mono ?_; rintro e w1 ⟨rfl, rfl⟩) | (go_at_call 39; refine (dtext_any HH.out.2.2.2.2.1.drew (by omega)).mono ?_; rw [HX.out]; rintro e w1 ⟨rfl, hc, q1, hd⟩))
          all_goals
            have hq1 := hc.cell (.inl (by omega)) hqr
            refine leaves_cons (f := 41) (args := #[.pointer (some ⟨w.heap.size, 0, none⟩)]) (by simp) (by simp [go_sem]) ?_
            refine (catch_texts_bad hq1 hd).mono ?_
            rintro e u' w9 ⟨rfl, rfl, hc9, hd9⟩
            refine ⟨.slice none 0 0, by simp [results, Tryd.results24, go_sem], ?_⟩
            rw [HB.out]
            exact ⟨rfl, ((((Cel.of_below hba).trans HH.out.2.2.2.1).drew).trans hc).trans hc9, hd9⟩
        | ok t q1 =>
          have hxl := txt_less hx
          have HX := hid hx
          have HXL := hid hxl
          clear hx hxl
          go_wp2_with fail
          refine wp_region_anyD (Checked.mixed Tryd.checked) ?_
          refine wpAny_take (i := 0) (v := sl) rfl (by kernel_rfl) (by kernel_rfl) (by kernel_rfl) (fun _ _ _ h => bodyD_put (HRES.out 15 _ (by decide)) h) (Or.inl ⟨rfl, fun w => BigFrame.run_move (Operand.tmp 7) rfl w⟩) ?_
          refine wpAny_take (i := 2) (v := .int .i64 m) rfl (by kernel_rfl) (by kernel_rfl) (by kernel_rfl) (fun _ _ _ h => bodyD_put (HRES.out 17 _ (by decide)) h) (Or.inl ⟨rfl, fun w => BigFrame.run_move (Operand.tmp 2) rfl w⟩) ?_
          refine wpAny_br (rs := [1, 3]) (by kernel_rfl) (by simp) ?_
          simp only [List.mem_cons, List.not_mem_nil, or_false, forall_eq_or_imp, forall_eq]
          refine ⟨⟨[3, 4, 5, 6, 7], by kernel_rfl, wpOps_forall (.cons rfl (.cons rfl (.cons rfl (.cons rfl (.cons rfl (.cons rfl .nil)))))) ?_⟩, ⟨[1, 4, 5, 6, 7], by kernel_rfl, wpOps_forall (.cons rfl (.cons rfl (.cons rfl (.cons rfl (.cons rfl (.cons rfl .nil)))))) ?_⟩⟩
          all_goals simp only [Act.put, List.getElem_toArray, List.getElem_cons_zero, List.getElem_cons_succ]
          · go_wp2_with (first | (go_at_call 40; refine (nbz_is hm1 hm2 HMN.out).mono ?_; rintro e w1 ⟨rfl, rfl⟩) | (go_at_call 39; refine (dtext_any HH.out.2.2.2.2.1.drew (by omega)).mono ?_; rw [HX.out]; rintro e w1 ⟨rfl, hc, hd⟩; have HC := hid hc; have HD := hid hd; clear hc hd) | (at_builtin; refine wpList_append_lies _ rfl _ _ 36 rfl wa.heap.size 9 i0 (.string { data := #[] }) 1 16 Tryd.underlying36 hi hz0 hz1 hz2 rfl (by decide) _ i (tvals ts) rfl ?own ⟨w1.heap.size, 0, none⟩ 1 1 [.string (ofNats t)] rfl rfl ?c1 ?c2 (by decide) ?c3 ?c4 ?c5 _ rfl ?_))
            case own => exact owns_al (owns_cel (owns_drew HH.out.1) HC.out (by have := HWL.out; omega)) (Below.al (Below.refl _ _) _)
            case c1 =>
              intro j u hj
              match j, hj with
              | 0, hj => simp at hj; subst hj; simp [Addr.add, go_sem]
            case c2 => intro u hu; simp at hu; subst hu; rfl
            case c3 => unfold maxLen; omega
            case c4 => omega
            case c5 => exact Nat.le_trans (Nat.le_trans HH.out.2.2.2.1.size HC.out.size) (by simp)
            intro g' cap' w2 hown hgrow hat hgl
            have hrow : ∀ g, sl.ownBlock = some g → wa.heap.size ≤ g := fun g hg => (HH.out.1.lt g hg).1
            have HC2 : Hid (Cel b o 2 wa w2) := (((HH.out.2.2.2.1).drew.trans HC.out).al _).grown hgrow hrow
            have HD2 : Hid (DecR w2 b o q1 r) := (HD.out.later (Below.al (Below.refl _ _) _)).grown hgrow (fun g hg => by have := hrow g hg; have := HWL.out; omega)
            have HO2 := hid hown
            clear hown hgrow hat hgl HD HC
            go_wp2_with fail
            go_roundg (nn - (i + 1))
            case measure => omega
            case rel =>
              refine ⟨i + 1, ts ++ [t], q1, _, by omega, rfl, by go_num, rfl, ?_, by simp [HH.out.2.1], ?_, HC2.out, HD2.out, by have := HH.out.2.2.2.2.2; have := HXL.out; omega⟩
              · have := HO2.out
                simpa [tvals] using this
              · have h1 := HH.out.2.2.1
                rw [show nn - i = (nn - (i + 1)) + 1 by omega, txs_step HX.out] at h1
                exact h1
          · go_wp2_with (first | (go_at_call 40; refine (nbz_is hm1 hm2 HMN.out).mono ?_; rintro e w1 ⟨rfl, rfl⟩) | (go_at_call 39; refine (dtext_any HH.out.2.2.2.2.1.drew (by omega)).mono ?_; rw [HX.out]; rintro e w1 ⟨rfl, hc, hd⟩; have HC := hid hc; have HD := hid hd; clear hc hd) | (at_builtin; refine wpList_append_lies _ rfl _ _ 36 rfl wa.heap.size 9 i0 (.string { data := #[] }) 1 16 Tryd.underlying36 hi hz0 hz1 hz2 rfl (by decide) _ i (tvals ts) rfl ?own ⟨w1.heap.size, 0, none⟩ 1 1 [.string (ofNats t)] rfl rfl ?c1 ?c2 (by decide) ?c3 ?c4 ?c5 _ rfl ?_))
            case own => exact owns_al (owns_cel (owns_drew HH.out.1) HC.out (by have := HWL.out; omega)) (Below.al (Below.refl _ _) _)
            case c1 =>
              intro j u hj
              match j, hj with
              | 0, hj => simp at hj; subst hj; simp [Addr.add, go_sem]
            case c2 => intro u hu; simp at hu; subst hu; rfl
            case c3 => unfold maxLen; omega
            case c4 => omega
            case c5 => exact Nat.le_trans (Nat.le_trans HH.out.2.2.2.1.size HC.out.size) (by simp)
            intro g' cap' w2 hown hgrow hat hgl
            have hrow : ∀ g, sl.ownBlock = some g → wa.heap.size ≤ g := fun g hg => (HH.out.1.lt g hg).1
            have HC2 : Hid (Cel b o 2 wa w2) := (((HH.out.2.2.2.1).drew.trans HC.out).al _).grown hgrow hrow
            have HD2 : Hid (DecR w2 b o q1 r) := (HD.out.later (Below.al (Below.refl _ _) _)).grown hgrow (fun g hg => by have := hrow g hg; have := HWL.out; omega)
            have HO2 := hid hown
            clear hown hgrow hat hgl HD HC
            go_wp2_with fail
            go_roundg (nn - (i + 1))
            case measure => omega
            case rel =>
              refine ⟨i + 1, ts ++ [t], q1, _, by omega, rfl, by go_num, rfl, ?_, by simp [HH.out.2.1], ?_, HC2.out, HD2.out, by have := HH.out.2.2.2.2.2; have := HXL.out; omega⟩
              · have := HO2.out
                simpa [tvals] using this
              · have h1 := HH.out.2.2.1
                rw [show nn - i = (nn - (i + 1)) + 1 by omega, txs_step HX.out] at h1
                exact h1
      · obtain rfl : i = nn := by omega
        have HB : Hid (txs n i q0 = .ok ts q) := (by
          have h1 := HH.out.2.2.1
          rw [Nat.sub_self] at h1
          simp only [txs, comb, List.append_nil] at h1
          exact h1)
        clear hlt hin
        go_wp2_with fail
        refine leaves_cons (f := 41) (args := #[.pointer (some ⟨w.heap.size, 0, none⟩)]) (by simp) (by simp [go_sem]) ?_
        refine (catch_texts_idle hqr).mono ?_
        rintro e u' w9 ⟨rfl, rfl, rfl⟩
        refine ⟨sl, by simp [results, Tryd.results24, go_sem], ?_⟩
        rw [HB.out]
        refine ⟨sl, rfl, ?_, ((Cel.of_below hba).trans HH.out.2.2.2.1).drew, HH.out.2.2.2.2.1.drew⟩
        rw [HH.out.2.1]
        exact owns_less HH.out.1 hba.size

theorem tTextN_txs (m : Nat) : ∀ (n : Nat) (q : List Nat), tTextN m n (.at q) = match txs m n q with
    | .ok l r => (l, .at r)
    | .bad c => ([], .stop c)
  | 0, q => rfl
  | n + 1, q => by
    rw [tTextN, tText_txt]
    unfold txs
    cases txt m q with
    | bad c => rfl
    | ok t q' =>
      simp only []
      rw [tTextN_txs m n q']
      cases txs m n q' <;> rfl
theorem tTexts_tx (k m : Nat) (s : List Nat) : tTexts k m (.at s) = match txAll k m s with
    | .ok l r => (l, .at r)
    | .bad c => ([], .stop c) := by
  simp only [tTexts, txAll]
  cases vdec k s with
  | ok n q => exact tTextN_txs m n q
  | short => rfl
  | form => rfl
theorem txs_c {m : Nat} : ∀ {n : Nat} {q : List Nat} {c : Int}, txs m n q = .bad c → c ≠ 0
  | 0, q, c, h => by cases h
  | n + 1, q, c, h => by
    unfold txs at h
    split at h
    · rename_i c' hx; injection h with h; subst h; exact txt_bad hx
    · split at h
      · rename_i c' hx; injection h with h; subst h; exact txs_c hx
      · cases h
theorem txAll_c {k m : Nat} {s : List Nat} {c : Int} (h : txAll k m s = .bad c) : c ≠ 0 := by
  unfold txAll at h
  split at h
  · exact txs_c h
  · injection h with h; subst h; decide
  · injection h with h; subst h; decide

theorem dtexts_raw {w : World} {b o : Nat} {m c : Int} {s : List Nat} {r : Int} (h : DecR w b o s r) (hm1 : -9223372036854775808 ≤ m) (hm2 : m ≤ 9223372036854775807) (hk1 : -9223372036854775808 ≤ c) (hk2 : c ≤ 9223372036854775807) (hl : s.length ≤ 1099511627776) :
    Calls Tryd.prog 24 #[.pointer (some ⟨b, o, none⟩), .int .i64 c, .int .i64 m] w fun e w' => TxEnd b o w.heap.size r w (txAll c.toNat m.toNat s) e w' := by
  cases hv : vdec c.toNat s with
  | ok nn q0 => exact dtexts_ok h hm1 hm2 hk1 hk2 hl hv
  | short => exact dtexts_short h hm1 hm2 hk1 hk2 hl hv
  | form => exact dtexts_form h hm1 hm2 hk1 hk2 hl hv

/-- Texts(c, m): P3.3, P3.4 -/
theorem dtexts_is {w : World} {b o : Nat} {m c : Int} {l : List (List Nat)} {d d' : Ds} (h : DecAt w b o d) (hm1 : -9223372036854775808 ≤ m) (hm2 : m ≤ 9223372036854775807) (hk1 : -9223372036854775808 ≤ c) (hk2 : c ≤ 9223372036854775807) (hl : d.left.length ≤ 1099511627776) (hv : tTexts c.toNat m.toNat d = (l, d')) :
    Calls Tryd.prog 24 #[.pointer (some ⟨b, o, none⟩), .int .i64 c, .int .i64 m] w fun e w' => ∃ v, e = .returned v ∧ w'.ownsRow w.heap.size 9 1 v l.length (tvals l) ∧ Cel b o 2 w w' ∧ DecAt w' b o d' := by
  have hok := h.ok
  refine (dtexts_raw h.raw hm1 hm2 hk1 hk2 hl).mono ?_
  intro e w'
  cases d with
  | stop cc =>
    have hc : cc ≠ 0 := hok
    simp only [tTexts] at hv
    injection hv with h1 h2
    subst h1 h2
    have e1 : stopR (Ds.stop cc).num 30 = cc := if_neg hc
    have e2 : txAll c.toNat m.toNat [] = .bad 30 := rfl
    simp only [Ds.left, e2, TxEnd, e1]
    rintro ⟨h1, h2, h3⟩
    exact ⟨_, h1, ⟨rfl, .inl ⟨rfl, rfl⟩⟩, h2, h3, hc⟩
  | «at» s =>
    rw [tTexts_tx] at hv
    simp only [Ds.left]
    cases hx : txAll c.toNat m.toNat s with
    | ok t' q =>
      rw [hx] at hv
      injection hv with h1 h2
      subst h1 h2
      rintro ⟨v, h1, h2, h3, h4⟩
      exact ⟨v, h1, h2, h3, h4, trivial⟩
    | bad cc =>
      rw [hx] at hv
      injection hv with h1 h2
      subst h1 h2
      rintro ⟨h1, h2, h3⟩
      exact ⟨_, h1, ⟨rfl, .inl ⟨rfl, rfl⟩⟩, h2, h3, txAll_c hx⟩

end Go.Proofs.YtchfoipkaookmabDoor
