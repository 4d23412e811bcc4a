import Derived.Test.YtaknkodjganacaaDoorVStabP
namespace Go.Proofs.YtaknkodjganacaaDoor.Vs
open Go.RowKit Go.Sort
set_option linter.unusedVariables false

/-- what stands while the store is filled -/
structure StI (wx wr : World) (F : Nat → Prop) (p : Nat) (M : Mst) (mk : Sp) (k : Nat) : Prop where
  sto : Sto F wr p M mk
  low : ∀ b, F b → wx.heap.size ≤ b
  cnt : countM M ≤ 1 + 16 * k
  bl : Below wx.heap.size wx wr
theorem StI.later {wx wr w' : World} {F : Nat → Prop} {p : Nat} {M : Mst} {mk : Sp} {k k' : Nat} (h : StI wx wr F p M mk k) (hb : Below wr.heap.size wr w') (hk : k ≤ k') : StI wx w' F p M mk k' :=
  ⟨h.sto.later hb, h.low, Nat.le_trans h.cnt (by omega), Below.on h.bl hb⟩
theorem StI.next {wx W w' : World} {F F' : Nat → Prop} {p : Nat} {M M' : Mst} {mk mk' : Sp} {k k' : Nat} (h : StI wx W F p M mk k) (hs : Sto F' w' p M' mk') (hf : ∀ b, F' b → F b ∨ W.heap.size ≤ b) (ho : Onl F W w') (hc : countM M' ≤ 1 + 16 * k') : StI wx w' F' p M' mk' k' :=
  ⟨hs, fun b hb => (hf b hb).elim (h.low b) (fun h' => Nat.le_trans h.bl.size h'), hc, h.bl.trans (ho.below h.low h.bl.size)⟩
/-- the literal list of one write -/
theorem kv_row (w : World) : RowW (w.alloc (.cells #[.string kB, .bool false, .string vB] 38)) (some ⟨w.heap.size, 0, none⟩) [kv] := fun i hi => by
  have h := World.alloc_heap_new w (.cells #[.string kB, .bool false, .string vB] 38)
  obtain rfl : i = 0 := by simp at hi; exact hi
  exact ⟨w.heap.size, 0, rfl, cell_of_obj h rfl, cell_of_obj h rfl, cell_of_obj h rfl⟩
/-- the call 'Install(roomyWrites(l), t)' on a store -/
theorem install_at {wx W w' : World} {F : Nat → Prop} {p g n : Nat} {M : Mst} {mk t : Sp} {k : Nat} {ws : List Wr} (h : StI wx W F p M mk k) (hb : Below W.heap.size W w') (hr : RowW w' (some ⟨g, 0, none⟩) ws) (hg : W.heap.size ≤ g) (hn : n = ws.length) (hl : ws.length ≤ 1048576) (hk : k ≤ 4194304) :
    Calls Tryd.prog 9 #[pt p, .slice (some ⟨g, 0, none⟩) n (n + 3), sv t] w' fun e w2 => (∃ v0, e = .returned (.int .i64 v0)) ∧ (∃ F', StI wx w2 F' p (instR M ws t) mk (k + 1)) ∧ Onl F w' w2 := by
  subst hn
  refine (install_is (c := ws.length + 3) t (h.sto.later hb) hr (fun b off e hf => ?_) (by omega) (by have := h.cnt; omega)).mono ?_
  · injection e with e; injection e with e1 _
    subst e1
    have := h.sto.lt hf
    omega
  · rintro e w2 ⟨he, F', hs, hf, ho⟩
    refine ⟨⟨_, he⟩, ⟨F', (h.later hb (Nat.le_refl k)).next hs hf ho ?_⟩, ho⟩
    have h1 := instR_count h.sto.good.rising ws t
    have h2 := h.cnt
    omega

/-- the step in its box -/
def SxB (w : World) (b : Nat) (cs : Array Value) : Prop := w.heap[b]? = some (.cells cs 63 (0, 0))
theorem SxB.lt {w : World} {b : Nat} {cs : Array Value} (h : SxB w b cs) : b < w.heap.size := (Array.getElem?_eq_some_iff.1 h).1
theorem SxB.later {w w' : World} {b : Nat} {cs : Array Value} (h : SxB w b cs) (hb : Below w.heap.size w w') : SxB w' b cs := (hb.block b h.lt).trans h
theorem SxB.not {w : World} {b : Nat} {cs : Array Value} {F : Nat → Prop} {p : Nat} {M : Mst} {mk : Sp} (h : SxB w b cs) (hs : Sto F w p M mk) : ¬ F b := hs.not h (by rintro (e | e) <;> exact absurd e (by decide))
/-- what stands at the second loop -/
structure LtI (wx wr : World) (F : Nat → Prop) (p : Nat) (M0 M : Mst) (mk t0 : Sp) (kv : Value) (L : Prs) (k : Nat) : Prop where
  st : StI wx wr F p M mk k
  wm : t0.lt mk = false
  rd : readAll M t0 = readAll M0 t0
  row : OwnP wr wx.heap.size kv L
theorem LtI.later {wx wr w' : World} {F : Nat → Prop} {p : Nat} {M0 M : Mst} {mk t0 : Sp} {kv : Value} {L : Prs} {k k' : Nat} (h : LtI wx wr F p M0 M mk t0 kv L k) (hb : Below wr.heap.size wr w') (hk : k ≤ k') : LtI wx w' F p M0 M mk t0 kv L k' :=
  ⟨h.st.later hb hk, h.wm, h.rd, h.row.later hb⟩
theorem LtI.reads {wx W : World} {F : Nat → Prop} {p nl kc k : Nat} {ka : Option Addr} {M0 M : Mst} {mk t0 : Sp} {L : Prs} {lo hi : ByteArray} (h : LtI wx W F p M0 M mk t0 (.slice ka nl kc) L k) (hL : L = readM M0 lo hi t0) (hn : nl = L.length) (hk : k ≤ 4194304) :
    Calls Tryd.prog 20 #[pt p, .agg #[.string lo, .string hi], sv t0, .slice ka nl kc] W fun e w' => e = .returned (.bool true) ∧ Below W.heap.size W w' := by
  have hr := h.row
  rw [hn] at hr ⊢
  exact reads_is h.st.sto (by have := h.st.cnt; omega) h.wm hr.row (by rw [hL, readM_is, readM_is, h.rd])
theorem LtI.prune {wx W : World} {F : Nat → Prop} {p k : Nat} {kv : Value} {M0 M : Mst} {mk t0 t : Sp} {L : Prs} (h : LtI wx W F p M0 M mk t0 kv L k) (ht : t0.lt t = false) (hk : k ≤ 4194304) :
    Calls Tryd.prog 19 #[pt p, sv t] W fun e w' => (∃ v0, e = .returned (.int .i64 v0)) ∧ ∃ F', LtI wx w' F' p M0 (prM M mk t) (prK mk t) t0 kv L k := by
  refine (prune_is h.st.sto t (by have := h.st.cnt; omega)).mono ?_
  rintro e w' ⟨he, ⟨F', hs, hf⟩, ho⟩
  exact ⟨⟨_, he⟩, F', ⟨h.st.next hs hf ho (by have h1 := prM_count M mk t; have h2 := h.st.cnt; omega), prK_low h.wm ht, by rw [prM_read h.st.sto.good ht, h.rd], h.row.onl h.st.sto ho⟩⟩
theorem LtI.install {wx W w' : World} {F : Nat → Prop} {p g n k : Nat} {kv : Value} {M0 M : Mst} {mk t0 t : Sp} {L : Prs} {ws : List Wr} (h : LtI wx W F p M0 M mk t0 kv L k) (hb : Below W.heap.size W w') (hr : RowW w' (some ⟨g, 0, none⟩) ws) (hg : W.heap.size ≤ g) (hn : n = ws.length) (hl : ws.length ≤ 1048576) (ht : t0.lt t = true) (hk : k ≤ 4194304) :
    Calls Tryd.prog 9 #[pt p, .slice (some ⟨g, 0, none⟩) n (n + 3), sv t] w' fun e w2 => (∃ v0, e = .returned (.int .i64 v0)) ∧ (∃ F', LtI wx w2 F' p M0 (instR M ws t) mk t0 kv L (k + 1)) ∧ Onl F w' w2 := by
  refine (install_at (t := t) h.st hb hr hg hn hl hk).mono ?_
  rintro e w2 ⟨he, ⟨F', hs⟩, ho⟩
  exact ⟨he, ⟨F', hs, h.wm, by rw [instR_read h.st.sto.good.rising ht, h.rd], (h.row.later hb).onl (h.st.sto.later hb) ho⟩, ho⟩

set_option maxHeartbeats 4000000 in
set_option maxRecDepth 16000 in
theorem law_stable {w : World} {a b : Option Addr} {c d : Nat} {ps : List Pt} {ss : List Sx} {lo hi : ByteArray} {t0 : Sp} (h : RowT w a ps) (hl : ps.length ≤ 1048576) (hss : RowS w b ss) (hsl : ss.length ≤ 1048576) (hz : t0.nn) (ht : PowTab w) :
    Calls Tryd.prog 4 #[.agg #[.slice a ps.length c, .string lo, .string hi, .int .u64 t0.a, .int .u32 t0.b, .int .u32 t0.c, .slice b ss.length d]] w fun e w' => e = .returned (.bool true) ∧ Below w.heap.size w w' := by
  obtain ⟨n, hn⟩ : ∃ n, n = ps.length := ⟨_, rfl⟩
  obtain ⟨k, hk⟩ : ∃ k, k = ss.length := ⟨_, rfl⟩
  obtain ⟨wx, hwx⟩ : ∃ wx, wx = w.alloc (.cells #[.slice a n c, .string lo, .string hi, .int .u64 t0.a, .int .u32 t0.b, .int .u32 t0.c, .slice b k d] 55) := ⟨_, rfl⟩
  have hbx : Below w.heap.size w wx := by rw [hwx]; exact Below.al (Below.refl _ _) _
  have kx : wx.heap[w.heap.size]? = some (.cells #[.slice a n c, .string lo, .string hi, .int .u64 t0.a, .int .u32 t0.b, .int .u32 t0.c, .slice b k d] 55 (0, 0)) := by rw [hwx]; exact World.alloc_heap_new _ _
  have HX : Hid (wx.cell? ⟨w.heap.size, 0, none⟩ = some (.slice a n c) ∧ wx.cell? ⟨w.heap.size, 1, none⟩ = some (.string lo) ∧ wx.cell? ⟨w.heap.size, 2, none⟩ = some (.string hi) ∧ wx.cell? ⟨w.heap.size, 3, none⟩ = some (.int .u64 t0.a) ∧ wx.cell? ⟨w.heap.size, 4, none⟩ = some (.int .u32 t0.b) ∧ wx.cell? ⟨w.heap.size, 5, none⟩ = some (.int .u32 t0.c) ∧ wx.cell? ⟨w.heap.size, 6, none⟩ = some (.slice b k d)) :=
    ⟨cell_of_obj kx rfl, cell_of_obj kx rfl, cell_of_obj kx rfl, cell_of_obj kx rfl, cell_of_obj kx rfl, cell_of_obj kx rfl, cell_of_obj kx rfl⟩
  have HA := hid (show RowT wx a ps ∧ PowTab wx ∧ Below w.heap.size w wx ∧ n = ps.length ∧ RowS wx b ss ∧ k = ss.length from ⟨h.later hbx, ht.later hbx, hbx, hn, hss.later hbx, hk⟩)
  have HT0 := hid hz
  have NW := hid (stonew_is wx)
  rw [← hn] at hl ⊢
  rw [← hk] at hsl ⊢
  clear h ht hbx kx hn hz hss hk
  go_enter Tryd.func4, Tryd.ntmps4
  go_upto_region 1 with fail
  rw [← hwx]
  clear hwx
  go_upto_region 2 with (go_at_call 17; refine NW.out.mono ?_; rintro e w1 ⟨p, F0, rfl, s1, f1, hb1⟩)
  have HI1 : Hid (StI wx w1 F0 p [] ⟨0, 0, 0⟩ 0) := ⟨s1, f1, by simp [countM], hb1⟩
  clear NW s1 f1 hb1
  have hok : instE [] [kv] ⟨0, 0, 0⟩ = 0 ∧ instR [] [kv] ⟨0, 0, 0⟩ = [(kB, [⟨⟨0, 0, 0⟩, false, vB⟩])] := by
    have := inst_ok (M := []) (ws := [kv]) (t := ⟨0, 0, 0⟩) kv_ok rfl rfl
    exact ⟨this.1, this.2.trans (kv_inst _)⟩
  have IN0 : Hid (Calls Tryd.prog 9 #[pt p, .slice (some ⟨w1.heap.size, 0, none⟩) 1 1, .agg #[.int .u64 0, .int .u32 0, .int .u32 0]] (w1.alloc (.cells #[.string kB, .bool false, .string vB] 38)) fun e w2 => e = .returned (.int .i64 0) ∧ ∃ F', StI wx w2 F' p [(kB, [⟨⟨0, 0, 0⟩, false, vB⟩])] ⟨0, 0, 0⟩ 0) := by
    have hb : Below w1.heap.size w1 (w1.alloc (.cells #[.string kB, .bool false, .string vB] 38)) := Below.al (Below.refl _ _) _
    have := install_is (c := 1) (ws := [kv]) ⟨0, 0, 0⟩ (HI1.out.sto.later hb) (kv_row w1) (fun b off e hf => by
      injection e with e; injection e with e1 _
      subst e1
      have := HI1.out.sto.lt hf
      omega) (by decide) (by simp [countM])
    rw [hok.1, hok.2] at this
    exact this.mono fun e w2 ⟨he, F', hs, hf, ho⟩ => ⟨he, F', (HI1.out.later hb (Nat.le_refl 0)).next hs hf ho (by simp [countM])⟩
  clear hok
  go_wp2_with (go_at_call 9; refine IN0.out.mono ?_; rintro e w2 ⟨rfl, hF2⟩; have HF2 := hid hF2; clear hF2)
  go_loopg [4] n (fun g s4 wr => ∃ i : Nat, i ≤ n ∧ g = n - i ∧ s4 = .int .i64 i ∧ ∃ (F : Nat → Prop) (M : Mst), Hid (StI wx wr F p M ⟨0, 0, 0⟩ i ∧ (i = 0 → M = [(kB, [⟨⟨0, 0, 0⟩, false, vB⟩])])))
  case atStart =>
    obtain ⟨F', hF'⟩ := HF2.out
    exact ⟨0, by omega, by omega, rfl, F', _, ⟨hF', fun _ => rfl⟩⟩
  case round =>
    obtain ⟨i, hin, rfl, rfl, F, M, HI⟩ := hrel
    clear HF2 IN0 HI1
    have x0 := cell_later HI.out.1.bl HX.out.1
    by_cases hlt : i < n
    · obtain ⟨ba, oa, hab, c0, c1, c2, c3, hrx, hwl, htn⟩ := HA.out.1 i (by rw [← HA.out.2.2.2.1]; exact hlt)
      obtain ⟨q, hq⟩ : ∃ q, q = nthT ps i := ⟨_, rfl⟩
      rw [← hq] at c0 c1 c2 c3 hrx hwl
      replace c0 := cell_later HI.out.1.bl c0
      replace c1 := cell_later HI.out.1.bl c1
      replace c2 := cell_later HI.out.1.bl c2
      replace c3 := cell_later HI.out.1.bl c3
      subst hab
      obtain ⟨qa, qc, ws, t⟩ := q
      simp only at c0 c1 c2 c3 hrx hwl
      obtain ⟨q, hqn⟩ : ∃ q, q = ws.length := ⟨_, rfl⟩
      rw [← hqn] at c0
      have RM : Hid (∀ W, Below wr.heap.size wr W → Calls Tryd.prog 18 #[.slice qa q qc] W fun e w' => ∃ g, e = .returned (.slice (some ⟨g, 0, none⟩) q (q + 3)) ∧ RowW w' (some ⟨g, 0, none⟩) ws ∧ W.heap.size ≤ g ∧ Below W.heap.size W w') := fun W hb => by
        rw [hqn]
        exact (roomy_is (c := qc) (hrx.later (Below.on HI.out.1.bl hb)) (by omega) (HA.out.2.1.later (Below.on HI.out.1.bl hb))).mono fun e w' ⟨g, he, hr⟩ => ⟨g, he, hr.row, hr.low, hr.bl⟩
      have IN : Hid (∀ W g, Below wr.heap.size wr W → RowW W (some ⟨g, 0, none⟩) ws → wr.heap.size ≤ g → _) := fun W g hb hr hg => install_at (t := t) HI.out.1 hb hr hg hqn hwl (by omega)
      have HNF : Hid (¬ F ba ∧ ¬ F w.heap.size) := by
        have h1 : ba < wx.heap.size := by
          obtain ⟨_, _, e, c0', _⟩ := HA.out.1 i (by rw [← HA.out.2.2.2.1]; exact hlt)
          injection e with e; injection e with e1 _
          subst e1
          exact World.block_lt_of_cell? _ _ c0'
        have h2 : w.heap.size < wx.heap.size := World.block_lt_of_cell? _ _ HX.out.1
        exact ⟨fun hf => by have := HI.out.1.low _ hf; omega, fun hf => by have := HI.out.1.low _ hf; omega⟩
      clear hq hrx hwl htn hqn
      go_wp2_with fail
      go_region_held3 (fun w' => w'.cell? ⟨w.heap.size, 0, none⟩ = some (.slice (some ⟨ba, oa, none⟩) n c) ∧ w'.cell? ⟨ba, oa + i * 4, none⟩ = some (.slice qa q qc) ∧ w'.cell? ⟨ba, oa + i * 4 + 1, none⟩ = some (.int .u64 t.a) ∧ w'.cell? ⟨ba, oa + i * 4 + 2, none⟩ = some (.int .u32 t.b) ∧ w'.cell? ⟨ba, oa + i * 4 + 3, none⟩ = some (.int .u32 t.c) ∧ Onl F wr w')
        ((refine (fun (hO : Onl F wr _) => ⟨hO.cell HNF.out.2 x0, hO.cell HNF.out.1 c0, hO.cell HNF.out.1 c1, hO.cell HNF.out.1 c2, hO.cell HNF.out.1 c3, hO⟩) ?_; (repeat (first | exact Onl.refl _ _ | assumption | refine Onl.drew ?_ | refine Onl.al ?_ _))))
        (first
          | (go_at_call 18; refine (RM.out _ (by (repeat (first | exact Below.refl _ _ | assumption | refine Below.drew ?_ | refine Below.al ?_ _ | refine Below.setCell ?_ (by first | exact Nat.le_refl _ | (simp; omega) | (simp; done)) _ | refine Below.on ?_ (by assumption))))).mono ?_; rintro e w4 ⟨g, rfl, hr4, hg4, hb4⟩; have hc4 : Below wr.heap.size wr w4 := (by (repeat (first | exact Below.refl _ _ | assumption | refine Below.drew ?_ | refine Below.al ?_ _ | refine Below.setCell ?_ (by first | exact Nat.le_refl _ | (simp; omega) | (simp; done)) _ | refine Below.on ?_ (by assumption)))); have hO4 : Onl F wr w4 := Onl.of_below hc4)
          | (go_at_call 9; refine (IN.out w4 g hc4 hr4 hg4).mono ?_; rintro e w5 ⟨⟨v0, rfl⟩, hF5, ho5⟩; have hO5 : Onl F wr w5 := hO4.trans ho5))
      have HF5 := hid hF5
      clear RM IN hF5 hr4 hg4 hb4 hc4 hO4 ho5 hO5
      go_wp2_with fail
      go_roundg (n - (i + 1))
      case measure => omega
      case rel =>
        obtain ⟨F', hF'⟩ := HF5.out
        exact ⟨i + 1, by omega, rfl, by go_num, F', _, ⟨hF', fun e => by omega⟩⟩
    · obtain rfl : i = n := by omega
      have hcnt : countM M ≤ 16777217 := by have := HI.out.1.cnt; omega
      have HZ : Hid (t0.lt ⟨0, 0, 0⟩ = false) := Sp.nn_lt HT0.out
      have RD := hid (read_is HI.out.1.sto lo hi t0 (by omega))
      have x1 := cell_later HI.out.1.bl HX.out.2.1
      have x2 := cell_later HI.out.1.bl HX.out.2.2.1
      have x3 := cell_later HI.out.1.bl HX.out.2.2.2.1
      have x4 := cell_later HI.out.1.bl HX.out.2.2.2.2.1
      have x5 := cell_later HI.out.1.bl HX.out.2.2.2.2.2.1
      by_cases h5 : 512 < (readM M lo hi t0).length
      · have hE : rdE M ⟨0, 0, 0⟩ lo hi t0 = 142 := by unfold rdE; rw [HZ.out]; simp [h5]
        have hL : rdL M ⟨0, 0, 0⟩ lo hi t0 = [] := by unfold rdL; rw [hE]; rfl
        rw [hE, hL] at RD
        have hlen := readM_len M HI.out.1.sto.good lo hi t0
        have LN : Hid (∀ W, Below wr.heap.size wr W → _) := fun W hb => stolen_is (HI.out.1.sto.later hb) (by omega)
        have q5 : decide (512 < countM M) = true := decide_eq_true (by omega)
        obtain ⟨cN, hcN⟩ : ∃ cN, cN = countM M := ⟨_, rfl⟩
        rw [← hcN] at LN q5
        have HQ5 : Hid (decide (512 < (cN : Int)) = true) := decide_eq_true (by have := of_decide_eq_true q5; omega)
        have HB0 : Hid (Below w.heap.size w wr) := Below.on HA.out.2.2.1 HI.out.1.bl
        clear hE hL h5 hlen hcN hcnt
        go_wp2_with (first
          | (go_at_call 15; refine RD.out.mono ?_; rintro e w3 ⟨v, rfl, ho, hb3⟩; obtain ⟨va, vc, rfl⟩ := ho.slice)
          | (go_at_call 11; refine (LN.out _ hb3).mono ?_; rintro e w4 ⟨rfl, hb4⟩))
        go_ret
        exact ⟨ret_bool HQ5.out, Below.on HB0.out (Below.on hb3 hb4)⟩
      · have hE : rdE M ⟨0, 0, 0⟩ lo hi t0 = 0 := by unfold rdE; rw [HZ.out]; simp [h5]
        have hL : rdL M ⟨0, 0, 0⟩ lo hi t0 = readM M lo hi t0 := by unfold rdL; rw [hE, if_pos rfl]
        rw [hE, hL] at RD
        obtain ⟨L, hLd⟩ : ∃ L, L = readM M lo hi t0 := ⟨_, rfl⟩
        rw [← hLd] at RD h5
        have HHD : Hid (i = 0 → L = if inS lo hi kB then [(kB, vB)] else []) := fun e => by rw [hLd, HI.out.2 e, kv_read HT0.out]
        have HLD := hid hLd
        obtain ⟨nl, hnl⟩ : ∃ nl, nl = L.length := ⟨_, rfl⟩
        have HNL := hid hnl
        have hnl5 : nl ≤ 512 := by omega
        clear hE hL h5 hLd hnl hcnt
        go_upto_region 11 with (go_at_call 15; refine RD.out.mono ?_; rintro e w3 ⟨v, rfl, ho, hb3⟩; obtain ⟨fa, fc, hv⟩ := ho.slice; rw [← HNL.out] at hv; subst hv)
        have HO3 := hid ho
        have HB3 := hid hb3
        have y0 := cell_later hb3 x0
        have y1 := cell_later hb3 x1
        have y2 := cell_later hb3 x2
        clear x0 x1 x2 x3 x4 x5 RD ho
        go_cut [86] from 66 to 85 (fun s86 wx => s86 = .bool false ∧ Hid (Below w3.heap.size w3 wx))
        case first =>
          by_cases hi0 : i = 0
          · have q0 : ((i : Int) == 0) = true := by rw [hi0]; rfl
            cases hin : inS lo hi kB with
            | false =>
              have INB := hid (fun W => in_is hin W)
              clear hi0 hin
              go_wp2_with (go_at_call 13; refine (INB.out _).mono ?_; rintro e w4 ⟨rfl, hb4⟩)
              go_meet
              exact ⟨rfl, hb4⟩
            | true =>
              have INB := hid (fun W => in_is hin W)
              have hL1 : L = [(kB, vB)] := by rw [HHD.out hi0, if_pos hin]
              have hrow := HO3.out
              have hn1 : nl = 1 := by rw [HNL.out, hL1]; rfl
              rw [hn1, hL1] at hrow
              obtain ⟨fb, fo, hfa, g0, g1⟩ := OwnP.row hrow 0 (by decide)
              have g1' : w3.cell? ⟨fb, fo + 1, none⟩ = some (.string vB) := by simpa [nth2] using g1
              subst hfa
              have qn : ((nl : Int) != 1) = false := by rw [hn1]; rfl
              have hb0 : 0 < nl := by omega
              have HG1 : Hid (∀ W, Below w3.heap.size w3 W → W.cell? ⟨fb, fo + 1, none⟩ = some (.string vB)) := fun W hb => cell_later hb g1'
              clear hi0 hin hL1 hrow g0 g1 g1' hn1
              go_wp2_with (go_at_call 13; refine (INB.out _).mono ?_; rintro e w4 ⟨rfl, hb4⟩; have g4 := HG1.out w4 hb4)
              go_meet
              exact ⟨rfl, hb4⟩
          · have q0 : ((i : Int) == 0) = false := by rw [beq_eq_false_iff_ne]; omega
            clear hi0
            go_wp2_with fail
            go_meet
            exact ⟨rfl, Below.refl _ _⟩
        case rest =>
          obtain ⟨rfl, HBC⟩ := hcut
          have HOC : Hid (OwnP wc wr.heap.size (.slice fa nl fc) L) := HO3.out.later HBC.out
          have HI0 : Hid (StI wx wc F p M ⟨0, 0, 0⟩ i) := HI.out.1.later (Below.on HB3.out HBC.out) (Nat.le_refl i)
          go_upto_region 14 with (at_builtin; refine append_copyP rfl _ _ rfl rfl rfl HNL.out.symm HOC.out (by rw [← HNL.out]; omega) ?_; intro v7 w4 ho7 hb7; obtain ⟨ka, kc, hv7⟩ := ho7.slice; rw [← HNL.out] at hv7; subst hv7)
          have HJ0 : Hid (LtI wx w4 F p M M ⟨0, 0, 0⟩ t0 (.slice ka nl kc) L i) := ⟨HI0.out.later hb7 (Nat.le_refl i), HZ.out, rfl, ho7.base HI0.out.bl.size⟩
          clear ho7 hb7 HOC HI0 HO3 HB3 HBC HHD y0 y1 y2 HI hb3
          go_wp2_with fail
          go_loopg [8] k (fun g s8 wr => ∃ j : Nat, j ≤ k ∧ g = k - j ∧ s8 = .int .i64 j ∧ ∃ (F : Nat → Prop) (M2 : Mst) (mk : Sp), Hid (LtI wx wr F p M M2 mk t0 (.slice ka nl kc) L (i + j)))
          case atStart => exact ⟨0, by omega, by omega, rfl, F, M, _, HJ0⟩
          case round =>
            obtain ⟨j, hjk, rfl, rfl, F, M2, mk, HJ⟩ := hrel
            clear HJ0
            have x6 := cell_later HJ.out.st.bl HX.out.2.2.2.2.2.2
            have x1 := cell_later HJ.out.st.bl HX.out.2.1
            have x2 := cell_later HJ.out.st.bl HX.out.2.2.1
            have x3 := cell_later HJ.out.st.bl HX.out.2.2.2.1
            have x4 := cell_later HJ.out.st.bl HX.out.2.2.2.2.1
            have x5 := cell_later HJ.out.st.bl HX.out.2.2.2.2.2.1
            by_cases hjlt : j < k
            · obtain ⟨ba, oa, hab, c0, c1, c2, c3, c4, c5, c6, c7, c8, hrx, hwl, htn⟩ := HA.out.2.2.2.2.1 j (by rw [← HA.out.2.2.2.2.2]; exact hjlt)
              obtain ⟨y, hy⟩ : ∃ y, y = nthS ss j := ⟨_, rfl⟩
              rw [← hy] at c0 c1 c2 c3 c4 c5 c6 c7 c8 hrx hwl
              replace c0 := cell_later HJ.out.st.bl c0
              replace c1 := cell_later HJ.out.st.bl c1
              replace c2 := cell_later HJ.out.st.bl c2
              replace c3 := cell_later HJ.out.st.bl c3
              replace c4 := cell_later HJ.out.st.bl c4
              replace c5 := cell_later HJ.out.st.bl c5
              replace c6 := cell_later HJ.out.st.bl c6
              replace c7 := cell_later HJ.out.st.bl c7
              replace c8 := cell_later HJ.out.st.bl c8
              subst hab
              obtain ⟨yk, yo, t, yl, yh, qa, qc, ws, va, vn, vc⟩ := y
              simp only at c0 c1 c2 c3 c4 c5 c6 c7 c8 hrx hwl
              obtain ⟨q, hqn⟩ : ∃ q, q = ws.length := ⟨_, rfl⟩
              rw [← hqn] at c7
              have HRX := hid (show RowW wx qa ws ∧ ws.length ≤ 1048576 ∧ q = ws.length from ⟨hrx, hwl, hqn⟩)
              have HBP : Hid (Below wr.heap.size wr (wr.alloc (.cells #[.int .i64 yk, .int .i64 yo, .int .u64 t.a, .int .u32 t.b, .int .u32 t.c, .string yl, .string yh, .slice qa q qc, .slice va vn vc] 63))) := Below.al (Below.refl _ _) _
              have HKP : Hid (SxB (wr.alloc (.cells #[.int .i64 yk, .int .i64 yo, .int .u64 t.a, .int .u32 t.b, .int .u32 t.c, .string yl, .string yh, .slice qa q qc, .slice va vn vc] 63)) wr.heap.size #[.int .i64 yk, .int .i64 yo, .int .u64 t.a, .int .u32 t.b, .int .u32 t.c, .string yl, .string yh, .slice qa q qc, .slice va vn vc]) := World.alloc_heap_new _ _
              have xa1 : (wr.alloc (.cells #[.int .i64 yk, .int .i64 yo, .int .u64 t.a, .int .u32 t.b, .int .u32 t.c, .string yl, .string yh, .slice qa q qc, .slice va vn vc] 63)).cell? ⟨w.heap.size, 1, none⟩ = _ := cell_later HBP.out x1
              have xa2 : (wr.alloc (.cells #[.int .i64 yk, .int .i64 yo, .int .u64 t.a, .int .u32 t.b, .int .u32 t.c, .string yl, .string yh, .slice qa q qc, .slice va vn vc] 63)).cell? ⟨w.heap.size, 2, none⟩ = _ := cell_later HBP.out x2
              have xa3 : (wr.alloc (.cells #[.int .i64 yk, .int .i64 yo, .int .u64 t.a, .int .u32 t.b, .int .u32 t.c, .string yl, .string yh, .slice qa q qc, .slice va vn vc] 63)).cell? ⟨w.heap.size, 3, none⟩ = _ := cell_later HBP.out x3
              have xa4 : (wr.alloc (.cells #[.int .i64 yk, .int .i64 yo, .int .u64 t.a, .int .u32 t.b, .int .u32 t.c, .string yl, .string yh, .slice qa q qc, .slice va vn vc] 63)).cell? ⟨w.heap.size, 4, none⟩ = _ := cell_later HBP.out x4
              have xa5 : (wr.alloc (.cells #[.int .i64 yk, .int .i64 yo, .int .u64 t.a, .int .u32 t.b, .int .u32 t.c, .string yl, .string yh, .slice qa q qc, .slice va vn vc] 63)).cell? ⟨w.heap.size, 5, none⟩ = _ := cell_later HBP.out x5
              clear hy hrx hwl htn hqn x1 x2 x3 x4 x5
              cases hs : t0.lt t with
              | true =>
                by_cases h2 : yk = 2
                · have q2 : (yk == 2) = true := by rw [h2]; rfl
                  have HST := hid hs
                  clear h2
                  have BE := hid (fun W => below_is hs W)
                  clear hs
                  go_wp2_with (go_at_call 14; refine (BE.out _).mono ?_; rintro e w4 ⟨rfl, hb4⟩; have B4 : Hid (Below wr.heap.size wr w4) := Below.on HBP.out hb4; have X4 := Below.on HJ.out.st.bl B4.out; have x1w4 := cell_later X4 HX.out.2.1; have x2w4 := cell_later X4 HX.out.2.2.1; have x3w4 := cell_later X4 HX.out.2.2.2.1; have x4w4 := cell_later X4 HX.out.2.2.2.2.1; have x5w4 := cell_later X4 HX.out.2.2.2.2.2.1; have k4 := HKP.out.later hb4; have b0w4 : w4.cell? ⟨wr.heap.size, 0, none⟩ = some (.int .i64 yk) := cell_of_obj k4 rfl; have b2w4 : w4.cell? ⟨wr.heap.size, 2, none⟩ = some (.int .u64 t.a) := cell_of_obj k4 rfl; have b3w4 : w4.cell? ⟨wr.heap.size, 3, none⟩ = some (.int .u32 t.b) := cell_of_obj k4 rfl; have b4w4 : w4.cell? ⟨wr.heap.size, 4, none⟩ = some (.int .u32 t.c) := cell_of_obj k4 rfl; have b7w4 : w4.cell? ⟨wr.heap.size, 7, none⟩ = some (.slice qa q qc) := cell_of_obj k4 rfl; clear X4 k4)
                  have HJ4 := hid (HJ.out.later B4.out (Nat.le_refl (i + j)))
                  have HK4 := hid (HKP.out.later hb4)
                  have RM : Hid (∀ W, Below w4.heap.size w4 W → Calls Tryd.prog 18 #[.slice qa q qc] W fun e w' => ∃ g, e = .returned (.slice (some ⟨g, 0, none⟩) q (q + 3)) ∧ RowW w' (some ⟨g, 0, none⟩) ws ∧ W.heap.size ≤ g ∧ Below W.heap.size W w') := fun W hb => by
                    rw [HRX.out.2.2]
                    exact (roomy_is (c := qc) (HRX.out.1.later (Below.on HJ4.out.st.bl hb)) (by have := HRX.out.2.1; omega) (HA.out.2.1.later (Below.on HJ4.out.st.bl hb))).mono fun e w' ⟨g, he, hr⟩ => ⟨g, he, hr.row, hr.low, hr.bl⟩
                  have IN : Hid (∀ W g, Below w4.heap.size w4 W → RowW W (some ⟨g, 0, none⟩) ws → w4.heap.size ≤ g → _) := fun W g hb hr hg => HJ4.out.install (t := t) hb hr hg HRX.out.2.2 HRX.out.2.1 HST.out (by omega)
                  have HNF : Hid (¬ F wr.heap.size) := HK4.out.not HJ4.out.st.sto
                  clear x1w4 x2w4 x3w4 x4w4 x5w4
                  go_region_held3 (fun w' => w'.cell? ⟨wr.heap.size, 7, none⟩ = some (.slice qa q qc) ∧ w'.cell? ⟨wr.heap.size, 2, none⟩ = some (.int .u64 t.a) ∧ w'.cell? ⟨wr.heap.size, 3, none⟩ = some (.int .u32 t.b) ∧ w'.cell? ⟨wr.heap.size, 4, none⟩ = some (.int .u32 t.c) ∧ Onl F w4 w')
                    ((refine (fun (hO : Onl F w4 _) => ⟨hO.cell HNF.out b7w4, hO.cell HNF.out b2w4, hO.cell HNF.out b3w4, hO.cell HNF.out b4w4, hO⟩) ?_; (repeat (first | exact Onl.refl _ _ | assumption | refine Onl.drew ?_ | refine Onl.al ?_ _))))
                    (first
                      | (go_at_call 18; refine (RM.out _ (by (repeat (first | exact Below.refl _ _ | assumption | refine Below.drew ?_ | refine Below.al ?_ _ | refine Below.setCell ?_ (by first | exact Nat.le_refl _ | (simp; omega) | (simp; done)) _ | refine Below.on ?_ (by assumption))))).mono ?_; rintro e w5 ⟨g, rfl, hr5, hg5, hb5⟩; have hc5 : Below w4.heap.size w4 w5 := (by (repeat (first | exact Below.refl _ _ | assumption | refine Below.drew ?_ | refine Below.al ?_ _ | refine Below.setCell ?_ (by first | exact Nat.le_refl _ | (simp; omega) | (simp; done)) _ | refine Below.on ?_ (by assumption)))); have hO5 : Onl F w4 w5 := Onl.of_below hc5)
                      | (go_at_call 9; refine (IN.out w5 g hc5 hr5 hg5).mono ?_; rintro e w6 ⟨⟨v0, rfl⟩, hF6, ho6⟩; have hO6 : Onl F w4 w6 := hO5.trans ho6))
                  obtain ⟨F6, hF6⟩ := hF6
                  have HF6 := hid hF6
                  have X6 := HF6.out.st.bl
                  have x1w6 := cell_later X6 HX.out.2.1
                  have x2w6 := cell_later X6 HX.out.2.2.1
                  have x3w6 := cell_later X6 HX.out.2.2.2.1
                  have x4w6 := cell_later X6 HX.out.2.2.2.2.1
                  have x5w6 := cell_later X6 HX.out.2.2.2.2.2.1
                  clear RM IN hF6 hr5 hg5 hb5 hc5 hO5 ho6 hO6 X6
                  go_wp2_with (go_at_call 20; refine (HF6.out.reads HLD.out HNL.out (by omega)).mono ?_; rintro e w9 ⟨rfl, hb9⟩)
                  go_roundg (k - (j + 1))
                  case measure => omega
                  case rel => exact ⟨j + 1, by omega, rfl, by go_num, F6, _, mk, (HF6.out).later hb9 (by omega)⟩
                · have q2 : (yk == 2) = false := by rw [beq_eq_false_iff_ne]; exact h2
                  clear h2
                  by_cases h5 : yk = 5
                  · have q5 : (yk == 5) = true := by rw [h5]; rfl
                    clear h5
                    have BE := hid (fun W => below_is hs W)
                    clear hs
                    go_wp2_with (first | (go_at_call 14; refine (BE.out _).mono ?_; rintro e w4 ⟨rfl, hb4⟩; have B4 : Hid (Below wr.heap.size wr w4) := Below.on HBP.out hb4; have X4 := Below.on HJ.out.st.bl B4.out; have x1w4 := cell_later X4 HX.out.2.1; have x2w4 := cell_later X4 HX.out.2.2.1; have x3w4 := cell_later X4 HX.out.2.2.2.1; have x4w4 := cell_later X4 HX.out.2.2.2.2.1; have x5w4 := cell_later X4 HX.out.2.2.2.2.2.1; have k4 := HKP.out.later hb4; have b0w4 : w4.cell? ⟨wr.heap.size, 0, none⟩ = some (.int .i64 yk) := cell_of_obj k4 rfl; have b2w4 : w4.cell? ⟨wr.heap.size, 2, none⟩ = some (.int .u64 t.a) := cell_of_obj k4 rfl; have b3w4 : w4.cell? ⟨wr.heap.size, 3, none⟩ = some (.int .u32 t.b) := cell_of_obj k4 rfl; have b4w4 : w4.cell? ⟨wr.heap.size, 4, none⟩ = some (.int .u32 t.c) := cell_of_obj k4 rfl; have b7w4 : w4.cell? ⟨wr.heap.size, 7, none⟩ = some (.slice qa q qc) := cell_of_obj k4 rfl; clear X4 k4) | (go_at_call 20; refine ((HJ.out.later B4.out (Nat.le_refl (i + j))).reads HLD.out HNL.out (by omega)).mono ?_; rintro e w9 ⟨rfl, hb9⟩))
                    go_roundg (k - (j + 1))
                    case measure => omega
                    case rel => exact ⟨j + 1, by omega, rfl, by go_num, F, M2, mk, (HJ.out.later B4.out (Nat.le_refl (i + j))).later hb9 (by omega)⟩
                  · have q5 : (yk == 5) = false := by rw [beq_eq_false_iff_ne]; exact h5
                    clear h5 hs
                    go_wp2_with (go_at_call 20; refine ((HJ.out.later HBP.out (Nat.le_refl (i + j))).reads HLD.out HNL.out (by omega)).mono ?_; rintro e w9 ⟨rfl, hb9⟩)
                    go_roundg (k - (j + 1))
                    case measure => omega
                    case rel => exact ⟨j + 1, by omega, rfl, by go_num, F, M2, mk, (HJ.out.later HBP.out (Nat.le_refl (i + j))).later hb9 (by omega)⟩
              | false =>
                by_cases h2 : yk = 2
                · have q2 : (yk == 2) = true := by rw [h2]; rfl
                  have q5 : (yk == 5) = false := by rw [h2]; rfl
                  clear h2
                  have BE := hid (fun W => below_is hs W)
                  clear hs
                  go_wp2_with (first | (go_at_call 14; refine (BE.out _).mono ?_; rintro e w4 ⟨rfl, hb4⟩; have B4 : Hid (Below wr.heap.size wr w4) := Below.on HBP.out hb4; have X4 := Below.on HJ.out.st.bl B4.out; have x1w4 := cell_later X4 HX.out.2.1; have x2w4 := cell_later X4 HX.out.2.2.1; have x3w4 := cell_later X4 HX.out.2.2.2.1; have x4w4 := cell_later X4 HX.out.2.2.2.2.1; have x5w4 := cell_later X4 HX.out.2.2.2.2.2.1; have k4 := HKP.out.later hb4; have b0w4 : w4.cell? ⟨wr.heap.size, 0, none⟩ = some (.int .i64 yk) := cell_of_obj k4 rfl; have b2w4 : w4.cell? ⟨wr.heap.size, 2, none⟩ = some (.int .u64 t.a) := cell_of_obj k4 rfl; have b3w4 : w4.cell? ⟨wr.heap.size, 3, none⟩ = some (.int .u32 t.b) := cell_of_obj k4 rfl; have b4w4 : w4.cell? ⟨wr.heap.size, 4, none⟩ = some (.int .u32 t.c) := cell_of_obj k4 rfl; have b7w4 : w4.cell? ⟨wr.heap.size, 7, none⟩ = some (.slice qa q qc) := cell_of_obj k4 rfl; clear X4 k4) | (go_at_call 20; refine ((HJ.out.later B4.out (Nat.le_refl (i + j))).reads HLD.out HNL.out (by omega)).mono ?_; rintro e w9 ⟨rfl, hb9⟩))
                  go_roundg (k - (j + 1))
                  case measure => omega
                  case rel => exact ⟨j + 1, by omega, rfl, by go_num, F, M2, mk, (HJ.out.later B4.out (Nat.le_refl (i + j))).later hb9 (by omega)⟩
                · have q2 : (yk == 2) = false := by rw [beq_eq_false_iff_ne]; exact h2
                  clear h2
                  by_cases h5 : yk = 5
                  · have q5 : (yk == 5) = true := by rw [h5]; rfl
                    clear h5
                    have BE := hid (fun W => below_is hs W)
                    have HST := hid hs
                    clear hs
                    go_wp2_with (first | (go_at_call 14; refine (BE.out _).mono ?_; rintro e w4 ⟨rfl, hb4⟩; have B4 : Hid (Below wr.heap.size wr w4) := Below.on HBP.out hb4; have X4 := Below.on HJ.out.st.bl B4.out; have x1w4 := cell_later X4 HX.out.2.1; have x2w4 := cell_later X4 HX.out.2.2.1; have x3w4 := cell_later X4 HX.out.2.2.2.1; have x4w4 := cell_later X4 HX.out.2.2.2.2.1; have x5w4 := cell_later X4 HX.out.2.2.2.2.2.1; have k4 := HKP.out.later hb4; have b0w4 : w4.cell? ⟨wr.heap.size, 0, none⟩ = some (.int .i64 yk) := cell_of_obj k4 rfl; have b2w4 : w4.cell? ⟨wr.heap.size, 2, none⟩ = some (.int .u64 t.a) := cell_of_obj k4 rfl; have b3w4 : w4.cell? ⟨wr.heap.size, 3, none⟩ = some (.int .u32 t.b) := cell_of_obj k4 rfl; have b4w4 : w4.cell? ⟨wr.heap.size, 4, none⟩ = some (.int .u32 t.c) := cell_of_obj k4 rfl; have b7w4 : w4.cell? ⟨wr.heap.size, 7, none⟩ = some (.slice qa q qc) := cell_of_obj k4 rfl; clear X4 k4) | (go_at_call 19; refine ((HJ.out.later B4.out (Nat.le_refl (i + j))).prune (t := t) HST.out (by omega)).mono ?_; rintro e w6 ⟨⟨v0, rfl⟩, F6, hF6⟩; have HF6 := hid hF6; have X6 := hF6.st.bl; have x1w6 := cell_later X6 HX.out.2.1; have x2w6 := cell_later X6 HX.out.2.2.1; have x3w6 := cell_later X6 HX.out.2.2.2.1; have x4w6 := cell_later X6 HX.out.2.2.2.2.1; have x5w6 := cell_later X6 HX.out.2.2.2.2.2.1; clear X6 hF6) | (go_at_call 20; refine (HF6.out.reads HLD.out HNL.out (by omega)).mono ?_; rintro e w9 ⟨rfl, hb9⟩))
                    go_roundg (k - (j + 1))
                    case measure => omega
                    case rel => exact ⟨j + 1, by omega, rfl, by go_num, F6, _, _, (HF6.out).later hb9 (by omega)⟩
                  · have q5 : (yk == 5) = false := by rw [beq_eq_false_iff_ne]; exact h5
                    clear h5 hs
                    go_wp2_with (go_at_call 20; refine ((HJ.out.later HBP.out (Nat.le_refl (i + j))).reads HLD.out HNL.out (by omega)).mono ?_; rintro e w9 ⟨rfl, hb9⟩)
                    go_roundg (k - (j + 1))
                    case measure => omega
                    case rel => exact ⟨j + 1, by omega, rfl, by go_num, F, M2, mk, (HJ.out.later HBP.out (Nat.le_refl (i + j))).later hb9 (by omega)⟩
            · obtain rfl : j = k := by omega
              have HBW : Hid (Below w.heap.size w wr) := Below.on HA.out.2.2.1 HJ.out.st.bl
              go_wp2_with fail
              go_ret
              exact ⟨rfl, HBW.out⟩
end Go.Proofs.YtaknkodjganacaaDoor.Vs
