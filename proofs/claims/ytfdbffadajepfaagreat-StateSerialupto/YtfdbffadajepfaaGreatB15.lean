import Derived.Test.YtfdbffadajepfaaGreatB14
namespace Go.Proofs.YtfdbffadajepfaaGreat.Vs
open Go.RowKit Go.Sort
set_option linter.unusedVariables false

theorem setX_len (l : List En) (k : ByteArray) (v : Hd) : (setX l k v).length ≤ l.length + 1 := by
  induction l with
  | nil => simp [setX]
  | cons x l ih =>
    simp only [setX]
    split
    · simp only [List.length_cons]; omega
    · split <;> simp only [List.length_cons] <;> omega

set_option maxHeartbeats 1000000 in
theorem balanced_is {S : Nat → Prop} {b : Nat} {k : ByteArray} {v : Hd} {l r : Tr} {w : World} (hS : ∀ j, w.heap.size ≤ j → S j) (h0 : w.cell? ⟨b, 0, none⟩ = some (.string k)) (h1 : w.cell? ⟨b, 1, none⟩ = some (.slice (some ⟨v.g, 0, none⟩) v.n v.cap))
    (hl : TrIn S w l) (hr : TrIn S w r) (hn : l.n + r.n + 1 ≤ 1152921504606846976) :
    Calls Tryz.prog 211 #[.pointer (some ⟨b, 0, none⟩), .pointer l.pt, .pointer r.pt] w fun e w' => ∃ T' : Tr, e = .returned (.pointer T'.pt) ∧ TrIn S w' T' ∧ T'.list = l.list ++ (k, v) :: r.list ∧ Below w.heap.size w w' := by
  have WL : Hid (Calls Tryz.prog 231 #[.pointer l.pt] w fun e w' => e = .returned (.int .i64 ((l.n : Int) + 1)) ∧ w' = w) := weight_is hl (by omega)
  have WR : Hid (Calls Tryz.prog 231 #[.pointer r.pt] w fun e w' => e = .returned (.int .i64 ((r.n : Int) + 1)) ∧ w' = w) := weight_is hr (by omega)
  have hwl : IntKind.i64.wrap (3 * ((l.n : Int) + 1)) = 3 * ((l.n : Int) + 1) := by rw [IntKind.wrap_i64]; omega
  have hwr : IntKind.i64.wrap (3 * ((r.n : Int) + 1)) = 3 * ((r.n : Int) + 1) := by rw [IntKind.wrap_i64]; omega
  by_cases hA : 3 * (l.n + 1) < r.n + 1
  · have q1 : decide (3 * ((l.n : Int) + 1) < (r.n : Int) + 1) = true := decide_eq_true (by omega)
    cases r with
    | nil => simp only [Tr.n] at hA; omega
    | node rb rk rv i o =>
      have TL := hid (turnedLeft_is hS h0 h1 hl hr (by simp only [Tr.n] at hn; omega))
      obtain ⟨m, hm⟩ : ∃ m, m = (Tr.node rb rk rv i o).n := ⟨_, rfl⟩
      rw [← hm] at q1 hwr WR
      have hmb : m ≤ 1152921504606846976 := by omega
      have hmn : l.n ≤ 1152921504606846976 := by omega
      simp only [Tr.pt] at WR
      show Calls Tryz.prog 211 #[.pointer (some ⟨b, 0, none⟩), .pointer l.pt, .pointer (some ⟨rb, 0, none⟩)] w _
      clear hm hA hn h0 h1 hl hr hS
      go_enter Tryz.func211, Tryz.ntmps211
      go_wp2_with (first
        | (go_at_call_of 231 l.pt; refine WL.out.mono ?_; rintro e w1 ⟨rfl, rfl⟩)
        | (go_at_call 231; refine WR.out.mono ?_; rintro e w1 ⟨rfl, rfl⟩)
        | (go_at_call 232; refine TL.out.mono ?_; rintro e w1 ⟨T', rfl, t1, hT, hb⟩))
      go_ret
      exact ⟨T', rfl, t1, by simp only [Tr.list]; exact hT, hb⟩
  · have q1 : decide (3 * ((l.n : Int) + 1) < (r.n : Int) + 1) = false := decide_eq_false (by omega)
    by_cases hB : 3 * (r.n + 1) < l.n + 1
    · have q2 : decide (3 * ((r.n : Int) + 1) < (l.n : Int) + 1) = true := decide_eq_true (by omega)
      cases l with
      | nil => simp only [Tr.n] at hB; omega
      | node rb rk rv o i =>
        have TL := hid (turnedRight_is hS h0 h1 hr hl (by simp only [Tr.n] at hn; omega))
        obtain ⟨m, hm⟩ : ∃ m, m = (Tr.node rb rk rv o i).n := ⟨_, rfl⟩
        rw [← hm] at q1 q2 hwl WL
        have hmb : m ≤ 1152921504606846976 := by omega
        have hmn : r.n ≤ 1152921504606846976 := by omega
        simp only [Tr.pt] at WL
        show Calls Tryz.prog 211 #[.pointer (some ⟨b, 0, none⟩), .pointer (some ⟨rb, 0, none⟩), .pointer r.pt] w _
        clear hm hA hB hn h0 h1 hl hr hS
        go_enter Tryz.func211, Tryz.ntmps211
        go_wp2_with (first
          | (go_at_call_of 231 r.pt; refine WR.out.mono ?_; rintro e w1 ⟨rfl, rfl⟩)
          | (go_at_call 231; refine WL.out.mono ?_; rintro e w1 ⟨rfl, rfl⟩)
          | (go_at_call 233; refine TL.out.mono ?_; rintro e w1 ⟨T', rfl, t1, hT, hb⟩))
        go_ret
        exact ⟨T', rfl, t1, by simp only [Tr.list]; exact hT, hb⟩
    · have q2 : decide (3 * ((r.n : Int) + 1) < (l.n : Int) + 1) = false := decide_eq_false (by omega)
      have TL := hid (over_is hS h0 h1 hl hr (by omega))
      have hmb : l.n ≤ 1152921504606846976 := by omega
      have hmn : r.n ≤ 1152921504606846976 := by omega
      obtain ⟨pl, hpl⟩ : ∃ p, p = l.pt := ⟨_, rfl⟩
      obtain ⟨pr, hpr⟩ : ∃ p, p = r.pt := ⟨_, rfl⟩
      rw [← hpl] at WL
      rw [← hpr] at WR
      rw [← hpl, ← hpr] at TL ⊢
      clear hpl hpr hA hB hn h0 h1 hl hr hS
      go_enter Tryz.func211, Tryz.ntmps211
      go_wp2_with (first
        | (go_at_call_of 231 pl; refine WL.out.mono ?_; rintro e w1 ⟨rfl, rfl⟩)
        | (go_at_call_of 231 pr; refine WR.out.mono ?_; rintro e w1 ⟨rfl, rfl⟩)
        | (go_at_call 234; refine TL.out.mono ?_; rintro e w1 ⟨b1, rfl, t1, hb⟩))
      go_ret
      exact ⟨_, rfl, t1, rfl, hb⟩


set_option maxHeartbeats 1000000 in
theorem with_is (key : ByteArray) (v : Hd) (T : Tr) : ∀ (S : Nat → Prop) (w : World), (∀ j, w.heap.size ≤ j → S j) → TrIn S w T → Rising T.list → T.n + 1 ≤ 1152921504606846976 →
    Calls Tryz.prog 178 #[.pointer T.pt, .string key, .slice (some ⟨v.g, 0, none⟩) v.n v.cap] w fun e w' => ∃ T' : Tr, e = .returned (.pointer T'.pt) ∧ TrIn S w' T' ∧ T'.list = setX T.list key v ∧ Below w.heap.size w w' := by
  induction T with
  | nil =>
    intro S w hS hT hR hn
    show Calls Tryz.prog 178 #[.pointer none, .string key, .slice (some ⟨v.g, 0, none⟩) v.n v.cap] w _
    have HS := hid hS
    clear hS
    go_enter Tryz.func178, Tryz.ntmps178
    go_wp2_with fail
    obtain ⟨t1, t2⟩ := node_new (S := S) (w := w) (k := key) (v := v) (l := .nil) (r := .nil) (n := 1) rfl trivial trivial (HS.out _ (Nat.le_refl _)) rfl
    go_ret
    exact ⟨_, rfl, t1, rfl, t2⟩
  | node b k u l r ihl ihr =>
    intro S w hS hT hR hn
    obtain ⟨hb, h0, h1, h2, h3, h4, hl, hr⟩ := hT
    obtain ⟨hRl, hRr, hkl, hkr⟩ := rising_parts hR
    simp only [Tr.n] at hn
    have later : ∀ W, Below w.heap.size w W → ∀ j, W.heap.size ≤ j → S j := fun W hb j hj => hS j (Nat.le_trans hb.size hj)
    show Calls Tryz.prog 178 #[.pointer (some ⟨b, 0, none⟩), .string key, .slice (some ⟨v.g, 0, none⟩) v.n v.cap] w _
    rcases lt_tri key k with hk | hk | hk
    · -- the same key
      subst hk
      have q1 : Op.bytesLess key.toList key.toList = false := bless_irrefl _
      have HN : Hid (∀ W, Below w.heap.size w W → TrIn S (W.alloc (.cells #[.string key, .slice (some ⟨v.g, 0, none⟩) v.n v.cap, .pointer l.pt, .pointer r.pt, .int .i64 ((l.n + 1 + r.n : Nat) : Int)] 167)) (.node W.heap.size key v l r)) := fun W hb =>
        (node_new rfl (hl.later hb) (hr.later hb) (later W hb _ (Nat.le_refl _)) rfl).1
      have HX : Hid (setX (Tr.node b key u l r).list key v = l.list ++ (key, v) :: r.list) := setX_mid hkl
      obtain ⟨m, hm⟩ : ∃ m : Int, m = ((l.n + 1 + r.n : Nat) : Int) := ⟨_, rfl⟩
      rw [← hm] at HN h4
      clear hm hn hl hr hR hRl hRr hkl hkr ihl ihr later hS
      go_enter Tryz.func178, Tryz.ntmps178
      go_wp2_with fail
      go_region_held3 (fun w' => w'.cell? ⟨b, 2, none⟩ = some (.pointer l.pt) ∧ w'.cell? ⟨b, 3, none⟩ = some (.pointer r.pt) ∧ w'.cell? ⟨b, 4, none⟩ = some (.int .i64 m) ∧ Below w.heap.size w w')
        ((refine (fun (hB : Below w.heap.size w _) => ⟨cell_later hB h2, cell_later hB h3, cell_later hB h4, hB⟩) ?_; (repeat (first | exact Below.refl _ _ | assumption | refine Below.drew ?_ | refine Below.al ?_ _ | refine Below.setCell ?_ (by first | exact Nat.le_refl _ | (simp; omega) | (simp; done)) _ | refine Below.on ?_ (by assumption)))))
        (fail)
      go_wp2_with fail
      have t1 := HN.out w (Below.refl _ _)
      go_ret
      exact ⟨_, rfl, t1.later (Below.drew (Below.refl _ _)), by rw [HX.out]; rfl, by (repeat (first | exact Below.refl _ _ | assumption | refine Below.drew ?_ | refine Below.al ?_ _ | refine Below.setCell ?_ (by first | exact Nat.le_refl _ | (simp; omega) | (simp; done)) _ | refine Below.on ?_ (by assumption)))⟩
    · have q1 : Op.bytesLess key.toList k.toList = true := hk
      have HW : Hid (∀ W, Below w.heap.size w W → _) := fun W hb => ihl S W (later W hb) (hl.later hb) hRl (by omega)
      have HB : Hid (∀ W (L : Tr), Below w.heap.size w W → TrIn S W L → L.n ≤ l.n + 1 → _) := fun W L hb hL hLn => balanced_is (b := b) (k := k) (v := u) (l := L) (r := r) (later W hb) (cell_later hb h0) (cell_later hb h1) hL (hr.later hb) (by omega)
      have HX : Hid (setX (Tr.node b k u l r).list key v = setX l.list key v ++ (k, u) :: r.list) := setX_left hk
      have HL : Hid (∀ L : Tr, L.list = setX l.list key v → L.n ≤ l.n + 1) := fun L hL => by rw [← Tr.len, hL, ← Tr.len]; exact setX_len _ _ _
      obtain ⟨pl, hpl⟩ : ∃ p, p = l.pt := ⟨_, rfl⟩
      rw [← hpl] at HW h2
      clear hpl hn hl hr hR hRl hRr hkl hkr ihl ihr later hS h1 h4 hk
      go_enter Tryz.func178, Tryz.ntmps178
      go_wp2_with fail
      go_region_held3 (fun w' => w'.cell? ⟨b, 2, none⟩ = some (.pointer pl) ∧ w'.cell? ⟨b, 3, none⟩ = some (.pointer r.pt) ∧ Below w.heap.size w w')
        ((refine (fun (hB : Below w.heap.size w _) => ⟨cell_later hB h2, cell_later hB h3, hB⟩) ?_; (repeat (first | exact Below.refl _ _ | assumption | refine Below.drew ?_ | refine Below.al ?_ _ | refine Below.setCell ?_ (by first | exact Nat.le_refl _ | (simp; omega) | (simp; done)) _ | refine Below.on ?_ (by assumption)))))
        (first
          | (go_at_call 178; refine (HW.out _ ?_).mono ?_; ((repeat (first | exact Below.refl _ _ | assumption | refine Below.drew ?_ | refine Below.al ?_ _ | refine Below.setCell ?_ (by first | exact Nat.le_refl _ | (simp; omega) | (simp; done)) _ | refine Below.on ?_ (by assumption)))); rintro e w1 ⟨L, rfl, t1, hL, hb1⟩)
          | (go_at_call 211; refine (HB.out _ L ?_ t1 (HL.out L hL)).mono ?_; ((repeat (first | exact Below.refl _ _ | assumption | refine Below.drew ?_ | refine Below.al ?_ _ | refine Below.setCell ?_ (by first | exact Nat.le_refl _ | (simp; omega) | (simp; done)) _ | refine Below.on ?_ (by assumption)))); rintro e w2 ⟨T', rfl, t2, hT', hb2⟩))
      go_wp2_with fail
      go_ret
      exact ⟨T', rfl, t2, by rw [hT', HX.out, hL], by (repeat (first | exact Below.refl _ _ | assumption | refine Below.drew ?_ | refine Below.al ?_ _ | refine Below.setCell ?_ (by first | exact Nat.le_refl _ | (simp; omega) | (simp; done)) _ | refine Below.on ?_ (by assumption)))⟩
    · have q1 : Op.bytesLess key.toList k.toList = false := lt_asymm hk
      have q2 : (key.toList == k.toList) = false := toList_beq' (decide_eq_false (fun e => lt_ne hk e.symm))
      have HW : Hid (∀ W, Below w.heap.size w W → _) := fun W hb => ihr S W (later W hb) (hr.later hb) hRr (by omega)
      have HB : Hid (∀ W (L : Tr), Below w.heap.size w W → TrIn S W L → L.n ≤ r.n + 1 → _) := fun W L hb hL hLn => balanced_is (b := b) (k := k) (v := u) (l := l) (r := L) (later W hb) (cell_later hb h0) (cell_later hb h1) (hl.later hb) hL (by omega)
      have HX : Hid (setX (Tr.node b k u l r).list key v = l.list ++ (k, u) :: setX r.list key v) := setX_right hkl hk
      have HL : Hid (∀ L : Tr, L.list = setX r.list key v → L.n ≤ r.n + 1) := fun L hL => by rw [← Tr.len, hL, ← Tr.len]; exact setX_len _ _ _
      obtain ⟨pr, hpr⟩ : ∃ p, p = r.pt := ⟨_, rfl⟩
      rw [← hpr] at HW h3
      clear hpr hn hl hr hR hRl hRr hkl hkr ihl ihr later hS h1 h4 hk
      go_enter Tryz.func178, Tryz.ntmps178
      go_wp2_with fail
      go_region_held3 (fun w' => w'.cell? ⟨b, 2, none⟩ = some (.pointer l.pt) ∧ w'.cell? ⟨b, 3, none⟩ = some (.pointer pr) ∧ Below w.heap.size w w')
        ((refine (fun (hB : Below w.heap.size w _) => ⟨cell_later hB h2, cell_later hB h3, hB⟩) ?_; (repeat (first | exact Below.refl _ _ | assumption | refine Below.drew ?_ | refine Below.al ?_ _ | refine Below.setCell ?_ (by first | exact Nat.le_refl _ | (simp; omega) | (simp; done)) _ | refine Below.on ?_ (by assumption)))))
        (first
          | (go_at_call 178; refine (HW.out _ ?_).mono ?_; ((repeat (first | exact Below.refl _ _ | assumption | refine Below.drew ?_ | refine Below.al ?_ _ | refine Below.setCell ?_ (by first | exact Nat.le_refl _ | (simp; omega) | (simp; done)) _ | refine Below.on ?_ (by assumption)))); rintro e w1 ⟨L, rfl, t1, hL, hb1⟩)
          | (go_at_call 211; refine (HB.out _ L ?_ t1 (HL.out L hL)).mono ?_; ((repeat (first | exact Below.refl _ _ | assumption | refine Below.drew ?_ | refine Below.al ?_ _ | refine Below.setCell ?_ (by first | exact Nat.le_refl _ | (simp; omega) | (simp; done)) _ | refine Below.on ?_ (by assumption)))); rintro e w2 ⟨T', rfl, t2, hT', hb2⟩))
      go_wp2_with fail
      go_ret
      exact ⟨T', rfl, t2, by rw [hT', HX.out, hL], by (repeat (first | exact Below.refl _ _ | assumption | refine Below.drew ?_ | refine Below.al ?_ _ | refine Below.setCell ?_ (by first | exact Nat.le_refl _ | (simp; omega) | (simp; done)) _ | refine Below.on ?_ (by assumption)))⟩

theorem has_left {l r : List En} {k key : ByteArray} {v : Hd} (h : Rising (l ++ (k, v) :: r)) (hk : lt key k = true) (hg : (getX (l ++ (k, v) :: r) key).isSome = true) : (getX l key).isSome = true := by rwa [getX_left h hk] at hg
theorem has_right {l r : List En} {k key : ByteArray} {v : Hd} (h : Rising (l ++ (k, v) :: r)) (hk : lt k key = true) (hg : (getX (l ++ (k, v) :: r) key).isSome = true) : (getX r key).isSome = true := by rwa [getX_right h hk] at hg
theorem delX_len (l : List En) (k : ByteArray) : (delX l k).length ≤ l.length := List.length_filter_le _ _

set_option maxHeartbeats 2000000 in
theorem without_is (T : Tr) : ∀ (key : ByteArray) (S : Nat → Prop) (w : World), (∀ j, w.heap.size ≤ j → S j) → TrIn S w T → Rising T.list → T.n + 1 ≤ 1152921504606846976 → (getX T.list key).isSome = true →
    Calls Tryz.prog 176 #[.pointer T.pt, .string key] w fun e w' => ∃ T' : Tr, e = .returned (.pointer T'.pt) ∧ TrIn S w' T' ∧ T'.list = delX T.list key ∧ Below w.heap.size w w' := by
  induction T with
  | nil => intro key S w hS hT hR hn hg; cases hg
  | node b k u l r ihl ihr =>
    intro key S w hS hT hR hn hg
    obtain ⟨hb, h0, h1, h2, h3, h4, hl, hr⟩ := hT
    obtain ⟨hRl, hRr, hkl, hkr⟩ := rising_parts hR
    simp only [Tr.n] at hn
    have later : ∀ W, Below w.heap.size w W → ∀ j, W.heap.size ≤ j → S j := fun W hb j hj => hS j (Nat.le_trans hb.size hj)
    show Calls Tryz.prog 176 #[.pointer (some ⟨b, 0, none⟩), .string key] w _
    rcases lt_tri key k with hk | hk | hk
    · -- this key
      subst hk
      have q1 : Op.bytesLess key.toList key.toList = false := bless_irrefl _
      have HX : Hid (delX (Tr.node b key u l r).list key = l.list ++ r.list) := delX_mid hkl hkr
      cases l with
      | nil =>
        simp only [Tr.pt] at h2
        have HR := hid hr
        clear hn hl hr hR hRl hRr hkl hkr ihl ihr later hS h1 h4 hg
        go_enter Tryz.func176, Tryz.ntmps176
        go_wp2_with fail
        go_ret
        exact ⟨r, rfl, HR.out, by rw [HX.out]; rfl, Below.refl _ _⟩
      | node lb lk lv ll lr =>
        have h2' : w.cell? ⟨b, 2, none⟩ = some (.pointer (some ⟨lb, 0, none⟩)) := h2
        clear h2
        cases r with
        | nil =>
          have h3' : w.cell? ⟨b, 3, none⟩ = some (.pointer none) := h3
          have HL := hid hl
          clear hn hl hr hR hRl hRr hkl hkr ihl ihr later hS h1 h3 h4 hg
          go_enter Tryz.func176, Tryz.ntmps176
          go_wp2_with fail
          go_ret
          exact ⟨.node lb lk lv ll lr, rfl, HL.out, by rw [HX.out]; simp [Tr.list], Below.refl _ _⟩
        | node rb rk rv rl rr =>
          have h3' : w.cell? ⟨b, 3, none⟩ = some (.pointer (some ⟨rb, 0, none⟩)) := h3
          have HLe := hid (least_is hr (fun e => by cases e))
          obtain ⟨nb, nk, nv, nl, nr, hle, rest, hrest⟩ := Tr.least_spec (.node rb rk rv rl rr) (fun e => by cases e)
          have hnd := hr.least
          rw [hle] at HLe hnd
          simp only [Tr.pt] at HLe
          have n0 := hnd.2.1
          have n1 := hnd.2.2.1
          have hgr : (getX (Tr.node rb rk rv rl rr).list nk).isSome = true := by rw [hrest]; simp [getX]
          have hdr : delX (Tr.node rb rk rv rl rr).list nk = rest := by
            have h5 := hRr
            rw [hrest] at h5 ⊢
            have h6 := List.pairwise_cons.1 h5
            exact (delX_mid (l := []) (fun e he => by cases he) (fun e he => h6.1 e he)).trans rfl
          have HW : Hid (∀ W, Below w.heap.size w W → Calls Tryz.prog 176 #[.pointer (some ⟨rb, 0, none⟩), .string nk] W fun e w' => ∃ T' : Tr, e = .returned (.pointer T'.pt) ∧ TrIn S w' T' ∧ T'.list = rest ∧ Below W.heap.size W w') := fun W hb => by
            have := ihr nk S W (later W hb) (hr.later hb) hRr (by omega) hgr
            rw [hdr] at this
            exact this
          have HB : Hid (∀ W (R : Tr), Below w.heap.size w W → TrIn S W R → R.list = rest → Calls Tryz.prog 211 #[.pointer (some ⟨nb, 0, none⟩), .pointer (some ⟨lb, 0, none⟩), .pointer R.pt] W fun e w' => ∃ T' : Tr, e = .returned (.pointer T'.pt) ∧ TrIn S w' T' ∧ T'.list = (Tr.node lb lk lv ll lr).list ++ (nk, nv) :: R.list ∧ Below W.heap.size W w') := fun W R hb hR' hRl' =>
            balanced_is (b := nb) (k := nk) (v := nv) (l := .node lb lk lv ll lr) (r := R) (later W hb) (cell_later hb n0) (cell_later hb n1) (hl.later hb) hR' (by
              have e1 : R.n = rest.length := by rw [← Tr.len, hRl']
              have e2 : (Tr.node rb rk rv rl rr).n = rest.length + 1 := by rw [← Tr.len, hrest]; rfl
              omega)
          have HE : Hid ((Tr.node rb rk rv rl rr).list = (nk, nv) :: rest) := hrest
          clear hn hl hr hR hRl hRr hkl hkr ihl ihr later hS h1 h4 hg h3 hle hnd n1 hgr hdr hrest
          go_enter Tryz.func176, Tryz.ntmps176
          go_wp2_with (go_at_call 212; refine HLe.out.mono ?_; rintro e w1 ⟨rfl, rfl⟩)
          go_region_held3 (fun w' => w'.cell? ⟨b, 2, none⟩ = some (.pointer (some ⟨lb, 0, none⟩)) ∧ w'.cell? ⟨b, 3, none⟩ = some (.pointer (some ⟨rb, 0, none⟩)) ∧ w'.cell? ⟨nb, 0, none⟩ = some (.string nk) ∧ Below w1.heap.size w1 w')
            ((refine (fun (hB : Below w1.heap.size w1 _) => ⟨cell_later hB h2', cell_later hB h3', cell_later hB n0, hB⟩) ?_; (repeat (first | exact Below.refl _ _ | assumption | refine Below.drew ?_ | refine Below.al ?_ _ | refine Below.setCell ?_ (by first | exact Nat.le_refl _ | (simp; omega) | (simp; done)) _ | refine Below.on ?_ (by assumption)))))
            (first
              | (go_at_call 176; refine (HW.out _ ?_).mono ?_; ((repeat (first | exact Below.refl _ _ | assumption | refine Below.drew ?_ | refine Below.al ?_ _ | refine Below.setCell ?_ (by first | exact Nat.le_refl _ | (simp; omega) | (simp; done)) _ | refine Below.on ?_ (by assumption)))); rintro e w2 ⟨R, rfl, t1, hR, hb1⟩)
              | (go_at_call 211; refine (HB.out _ R ?_ t1 hR).mono ?_; ((repeat (first | exact Below.refl _ _ | assumption | refine Below.drew ?_ | refine Below.al ?_ _ | refine Below.setCell ?_ (by first | exact Nat.le_refl _ | (simp; omega) | (simp; done)) _ | refine Below.on ?_ (by assumption)))); rintro e w3 ⟨T', rfl, t2, hT', hb2⟩))
          go_wp2_with fail
          go_ret
          exact ⟨T', rfl, t2, by rw [hT', HX.out, hR, HE.out], by (repeat (first | exact Below.refl _ _ | assumption | refine Below.drew ?_ | refine Below.al ?_ _ | refine Below.setCell ?_ (by first | exact Nat.le_refl _ | (simp; omega) | (simp; done)) _ | refine Below.on ?_ (by assumption)))⟩
    · have q1 : Op.bytesLess key.toList k.toList = true := hk
      have HW : Hid (∀ W, Below w.heap.size w W → _) := fun W hb => ihl key S W (later W hb) (hl.later hb) hRl (by omega) (has_left hR hk hg)
      have HB : Hid (∀ W (L : Tr), Below w.heap.size w W → TrIn S W L → L.n ≤ l.n → _) := fun W L hb hL hLn => balanced_is (b := b) (k := k) (v := u) (l := L) (r := r) (later W hb) (cell_later hb h0) (cell_later hb h1) hL (hr.later hb) (by omega)
      have HX : Hid (delX (Tr.node b k u l r).list key = delX l.list key ++ (k, u) :: r.list) := delX_left hkr hk
      have HL : Hid (∀ L : Tr, L.list = delX l.list key → L.n ≤ l.n) := fun L hL => by rw [← Tr.len, hL, ← Tr.len]; exact delX_len _ _
      obtain ⟨pl, hpl⟩ : ∃ p, p = l.pt := ⟨_, rfl⟩
      rw [← hpl] at HW h2
      clear hpl hn hl hr hR hRl hRr hkl hkr ihl ihr later hS h1 h4 hk hg
      go_enter Tryz.func176, Tryz.ntmps176
      go_wp2_with fail
      go_region_held3 (fun w' => w'.cell? ⟨b, 2, none⟩ = some (.pointer pl) ∧ w'.cell? ⟨b, 3, none⟩ = some (.pointer r.pt) ∧ Below w.heap.size w w')
        ((refine (fun (hB : Below w.heap.size w _) => ⟨cell_later hB h2, cell_later hB h3, hB⟩) ?_; (repeat (first | exact Below.refl _ _ | assumption | refine Below.drew ?_ | refine Below.al ?_ _ | refine Below.setCell ?_ (by first | exact Nat.le_refl _ | (simp; omega) | (simp; done)) _ | refine Below.on ?_ (by assumption)))))
        (first
          | (go_at_call 176; refine (HW.out _ ?_).mono ?_; ((repeat (first | exact Below.refl _ _ | assumption | refine Below.drew ?_ | refine Below.al ?_ _ | refine Below.setCell ?_ (by first | exact Nat.le_refl _ | (simp; omega) | (simp; done)) _ | refine Below.on ?_ (by assumption)))); rintro e w1 ⟨L, rfl, t1, hL, hb1⟩)
          | (go_at_call 211; refine (HB.out _ L ?_ t1 (HL.out L hL)).mono ?_; ((repeat (first | exact Below.refl _ _ | assumption | refine Below.drew ?_ | refine Below.al ?_ _ | refine Below.setCell ?_ (by first | exact Nat.le_refl _ | (simp; omega) | (simp; done)) _ | refine Below.on ?_ (by assumption)))); rintro e w2 ⟨T', rfl, t2, hT', hb2⟩))
      go_wp2_with fail
      go_ret
      exact ⟨T', rfl, t2, by rw [hT', HX.out, hL], by (repeat (first | exact Below.refl _ _ | assumption | refine Below.drew ?_ | refine Below.al ?_ _ | refine Below.setCell ?_ (by first | exact Nat.le_refl _ | (simp; omega) | (simp; done)) _ | refine Below.on ?_ (by assumption)))⟩
    · have q1 : Op.bytesLess key.toList k.toList = false := lt_asymm hk
      have q2 : (key.toList == k.toList) = false := toList_beq' (decide_eq_false (fun e => lt_ne hk e.symm))
      have HW : Hid (∀ W, Below w.heap.size w W → _) := fun W hb => ihr key S W (later W hb) (hr.later hb) hRr (by omega) (has_right hR hk hg)
      have HB : Hid (∀ W (L : Tr), Below w.heap.size w W → TrIn S W L → L.n ≤ r.n → _) := fun W L hb hL hLn => balanced_is (b := b) (k := k) (v := u) (l := l) (r := L) (later W hb) (cell_later hb h0) (cell_later hb h1) (hl.later hb) hL (by omega)
      have HX : Hid (delX (Tr.node b k u l r).list key = l.list ++ (k, u) :: delX r.list key) := delX_right hkl hk
      have HL : Hid (∀ L : Tr, L.list = delX r.list key → L.n ≤ r.n) := fun L hL => by rw [← Tr.len, hL, ← Tr.len]; exact delX_len _ _
      obtain ⟨pr, hpr⟩ : ∃ p, p = r.pt := ⟨_, rfl⟩
      rw [← hpr] at HW h3
      clear hpr hn hl hr hR hRl hRr hkl hkr ihl ihr later hS h1 h4 hk hg
      go_enter Tryz.func176, Tryz.ntmps176
      go_wp2_with fail
      go_region_held3 (fun w' => w'.cell? ⟨b, 2, none⟩ = some (.pointer l.pt) ∧ w'.cell? ⟨b, 3, none⟩ = some (.pointer pr) ∧ Below w.heap.size w w')
        ((refine (fun (hB : Below w.heap.size w _) => ⟨cell_later hB h2, cell_later hB h3, hB⟩) ?_; (repeat (first | exact Below.refl _ _ | assumption | refine Below.drew ?_ | refine Below.al ?_ _ | refine Below.setCell ?_ (by first | exact Nat.le_refl _ | (simp; omega) | (simp; done)) _ | refine Below.on ?_ (by assumption)))))
        (first
          | (go_at_call 176; refine (HW.out _ ?_).mono ?_; ((repeat (first | exact Below.refl _ _ | assumption | refine Below.drew ?_ | refine Below.al ?_ _ | refine Below.setCell ?_ (by first | exact Nat.le_refl _ | (simp; omega) | (simp; done)) _ | refine Below.on ?_ (by assumption)))); rintro e w1 ⟨L, rfl, t1, hL, hb1⟩)
          | (go_at_call 211; refine (HB.out _ L ?_ t1 (HL.out L hL)).mono ?_; ((repeat (first | exact Below.refl _ _ | assumption | refine Below.drew ?_ | refine Below.al ?_ _ | refine Below.setCell ?_ (by first | exact Nat.le_refl _ | (simp; omega) | (simp; done)) _ | refine Below.on ?_ (by assumption)))); rintro e w2 ⟨T', rfl, t2, hT', hb2⟩))
      go_wp2_with fail
      go_ret
      exact ⟨T', rfl, t2, by rw [hT', HX.out, hL], by (repeat (first | exact Below.refl _ _ | assumption | refine Below.drew ?_ | refine Below.al ?_ _ | refine Below.setCell ?_ (by first | exact Nat.le_refl _ | (simp; omega) | (simp; done)) _ | refine Below.on ?_ (by assumption)))⟩

end Go.Proofs.YtfdbffadajepfaaGreat.Vs
