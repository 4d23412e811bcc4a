import Derived.Test.YtmbmagfdeadibaaEDisk
/- The program's disk: its calls that change it. -/
namespace Go.Proofs.Ytmbmagfdeadibaa
open Go.RowKit Go.Sort Go.Lib
set_option linter.unusedVariables false

theorem Moved.then {R : World → (Nat → Prop) → Nat → Dk → Prop} {w w1 w2 : World} {F : Nat → Prop} {p : Nat} {d1 d2 : Dk} (h : Moved R w w1 F p d1) (k : ∀ F1, R w1 F1 p d1 → Moved R w1 w2 F1 p d2) : Moved R w w2 F p d2 := by
  obtain ⟨F1, h1, h2, h3⟩ := h
  obtain ⟨F2, k1, k2, k3⟩ := k F1 h1
  refine ⟨F2, k1, h2.fresh k2 h3, fun k hk => ?_⟩
  rcases k3 k hk with e | e
  · exact h3 k e
  · exact .inr (Nat.le_trans h2.size e)

set_option maxHeartbeats 2000000 in
theorem p_append {w : World} {F : Nat → Prop} {p : Nat} {d : Dk} (h : RP w F p d) (s : Int) {t : List Nat} (ht : B8 t) : Calls Try.prog 12 #[ptr p, .int .i64 s, .string (ofNats t)] w fun e w' => e = .returned (.int .i64 (d.appE s t)) ∧ Moved RP w w' F p (d.app s t) := by
  have ok2 := h.ok.app s ht
  have hu := h.ok.used
  have hcp := h.ok.cap
  have hsz : ((ofNats t).size : Int) = (t.length : Int) := by rw [ofNats_size]
  by_cases hs : s = 0 ∨ s = 1
  · by_cases hf : t.length ≤ d.free
    · have hg : decide (d.free < t.length) = false := decide_eq_false (by omega)
      have hlen : d.used + t.length ≤ 1048576 := by unfold Dk.free at hf; unfold Dk.used at *; omega
      have hlx : d.x.b.length ≤ d.used := by unfold Dk.used; omega
      have hly : d.y.b.length ≤ d.used := by unfold Dk.used; omega
      rcases hs with rfl | rfl
      · have eE : d.appE 0 t = 0 := by simp [Dk.appE, hf]
        have eD : d.app 0 t = { d with x := d.x.app t } := by simp [Dk.app, hf]
        rw [eD] at ok2
        rw [eE, eD]
        have H := hid h
        have OK := hid ok2
        clear h ok2 eE eD hf hu
        go_enter Try.func12, Try.ntmps12
        go_wp2_with fail
        refine (pright_is (u := true) rfl _).mono ?_
        rintro e w1 ⟨rfl, rfl⟩
        go_wp2_with fail
        refine (p_free H.out).mono ?_
        rintro e w2 ⟨rfl, hb⟩
        have HB := hid hb
        obtain ⟨v0, v1, rfl, h2⟩ := H.out.later hb
        have H2 := hid h2
        clear hb h2
        go_wp2_with fail
        refine (slot_add H2.out.s0 ht (by omega)).mono ?_
        rintro e w3 ⟨rfl, v', h3⟩
        have HM := hid ((H2.out.moved0 h3 OK.out).from HB.out)
        clear h3
        go_wp2_with fail
        go_ret
        exact ⟨rfl, HM.out⟩
      · have eE : d.appE 1 t = 0 := by simp [Dk.appE, hf]
        have eD : d.app 1 t = { d with y := d.y.app t } := by simp [Dk.app, hf]
        rw [eD] at ok2
        rw [eE, eD]
        have H := hid h
        have OK := hid ok2
        clear h ok2 eE eD hf hu
        go_enter Try.func12, Try.ntmps12
        go_wp2_with fail
        refine (pright_is (u := true) rfl _).mono ?_
        rintro e w1 ⟨rfl, rfl⟩
        go_wp2_with fail
        refine (p_free H.out).mono ?_
        rintro e w2 ⟨rfl, hb⟩
        have HB := hid hb
        obtain ⟨v0, v1, rfl, h2⟩ := H.out.later hb
        have H2 := hid h2
        clear hb h2
        go_wp2_with fail
        refine (slot_add H2.out.s1 ht (by omega)).mono ?_
        rintro e w3 ⟨rfl, v', h3⟩
        have HM := hid ((H2.out.moved1 h3 OK.out).from HB.out)
        clear h3
        go_wp2_with fail
        go_ret
        exact ⟨rfl, HM.out⟩
    · have hg : decide (d.free < t.length) = true := decide_eq_true (by omega)
      have eE : d.appE s t = 60 := by simp [Dk.appE, hf, hs]
      have eD : d.app s t = d := by simp [Dk.app, hf]
      have hr : decide (s = 0 ∨ s = 1) = true := decide_eq_true hs
      rw [eE, eD]
      have H := hid h
      clear h ok2 eE eD hf hu hs
      go_enter Try.func12, Try.ntmps12
      go_wp2_with fail
      refine (pright_is (u := true) hr _).mono ?_
      rintro e w1 ⟨rfl, rfl⟩
      go_wp2_with fail
      refine (p_free H.out).mono ?_
      rintro e w2 ⟨rfl, hb⟩
      have HB := hid hb
      clear hb
      go_wp2_with fail
      go_ret
      exact ⟨rfl, H.out.still HB.out⟩
  · have eE : d.appE s t = 61 := by simp [Dk.appE, hs]
    have eD : d.app s t = d := by
      unfold Dk.app
      rw [if_neg (fun e => hs (.inl e)), if_neg (fun e => hs (.inr e))]
      split <;> rfl
    have hr : decide (s = 0 ∨ s = 1) = false := decide_eq_false hs
    rw [eE, eD]
    have H := hid h
    clear h ok2 eE eD hu hs
    go_enter Try.func12, Try.ntmps12
    go_wp2_with fail
    refine (pright_is (u := false) hr _).mono ?_
    rintro e w1 ⟨rfl, rfl⟩
    go_wp2_with fail
    go_ret
    exact ⟨rfl, H.out.still (Below.refl _ _)⟩

/-- the first k slots are synced -/
def Dk.syncK (d : Dk) (k : Nat) : Dk := if k = 0 then d else if k = 1 then { d with x := d.x.sync } else d.sync
set_option maxHeartbeats 2000000 in
theorem p_sync {w : World} {F : Nat → Prop} {p : Nat} {d : Dk} (h : RP w F p d) : Calls Try.prog 14 #[ptr p] w fun e w' => e = .returned (.tuple #[]) ∧ Moved RP w w' F p d.sync := by
  have ok1 : ({ d with x := d.x.sync } : Dk).ok := ⟨h.ok.bx, h.ok.by', Nat.le_refl _, h.ok.sy, h.ok.used, h.ok.cap⟩
  have OK1 := hid ok1
  have OK := hid h.ok.sync
  have HM0 : Hid (Moved RP w w F p d) := h.still (Below.refl _ _)
  clear h ok1
  go_enter Try.func14, Try.ntmps14
  go_wp2_with fail
  go_loopg [3] 2 (fun g s3 wr => ∃ k : Nat, k ≤ 2 ∧ g = 2 - k ∧ s3 = .int .i64 k ∧ Hid (Moved RP w wr F p (d.syncK k)))
  case atStart => exact ⟨0, by omega, rfl, rfl, HM0⟩
  case round =>
    obtain ⟨k, hk, rfl, rfl, HM⟩ := hrel
    obtain rfl | rfl | rfl : k = 0 ∨ k = 1 ∨ k = 2 := by omega
    · obtain ⟨F1, ⟨v0, v1, rfl, h1⟩, ho, hn⟩ := HM.out
      have H1 : Hid (PD wr p v0 v1 d ∧ Onl F w wr ∧ ∀ k, hasP p v0 v1 k → F k ∨ w.heap.size ≤ k) := ⟨h1, ho, hn⟩
      clear h1 ho hn HM HM0
      go_wp2_with fail
      refine (slot_sync H1.out.1.s0).mono ?_
      rintro e w2 ⟨rfl, h2⟩
      have HM : Hid (Moved RP w w2 F p (d.syncK 1)) := by
        obtain ⟨F2, r1, r2, r3⟩ := H1.out.1.moved0 h2 OK1.out
        refine ⟨F2, r1, H1.out.2.1.fresh r2 H1.out.2.2, fun k hk => ?_⟩
        rcases r3 k hk with e | e
        · exact H1.out.2.2 k e
        · exact .inr (Nat.le_trans H1.out.2.1.size e)
      clear h2
      go_wp2_with fail
      go_roundg 1
      case measure => omega
      case rel => exact ⟨1, by omega, rfl, rfl, HM⟩
    · obtain ⟨F1, ⟨v0, v1, rfl, h1⟩, ho, hn⟩ := HM.out
      have H1 : Hid (PD wr p v0 v1 { d with x := d.x.sync } ∧ Onl F w wr ∧ ∀ k, hasP p v0 v1 k → F k ∨ w.heap.size ≤ k) := ⟨h1, ho, hn⟩
      clear h1 ho hn HM HM0
      go_wp2_with fail
      refine (slot_sync H1.out.1.s1).mono ?_
      rintro e w2 ⟨rfl, h2⟩
      have HM : Hid (Moved RP w w2 F p (d.syncK 2)) := by
        obtain ⟨F2, r1, r2, r3⟩ := H1.out.1.moved1 h2 OK.out
        refine ⟨F2, r1, H1.out.2.1.fresh r2 H1.out.2.2, fun k hk => ?_⟩
        rcases r3 k hk with e | e
        · exact H1.out.2.2 k e
        · exact .inr (Nat.le_trans H1.out.2.1.size e)
      clear h2
      go_wp2_with fail
      go_roundg 0
      case measure => omega
      case rel => exact ⟨2, by omega, rfl, rfl, HM⟩
    · go_wp2_with fail
      go_end0
      exact ⟨rfl, HM.out⟩

set_option maxHeartbeats 4000000 in
theorem p_cut {w : World} {F : Nat → Prop} {p : Nat} {d : Dk} (h : RP w F p d) (s n : Int) : Calls Try.prog 24 #[ptr p, .int .i64 s, .int .i64 n] w fun e w' => e = .returned (.int .i64 (d.cutE s n)) ∧ Moved RP w w' F p (d.cut s n) := by
  have ok2 := h.ok.cut s n
  by_cases hs : s = 0 ∨ s = 1
  · by_cases hn : 0 ≤ n
    · obtain ⟨m, rfl⟩ := Int.eq_ofNat_of_zero_le hn
      rcases hs with rfl | rfl
      · by_cases hl : m ≤ d.x.b.length
        · have hg : decide (d.x.b.length < m) = false := decide_eq_false (by omega)
          have eE : d.cutE 0 m = 0 := by unfold Dk.cutE Dk.bytes; simp [hl]
          have eD : d.cut 0 m = { d with x := d.x.cut m } := by unfold Dk.cut Dk.bytes; simp [hl]
          rw [eD] at ok2
          rw [eE, eD]
          have OK := hid ok2
          obtain ⟨v0, v1, rfl, h⟩ := h
          have H := hid h
          have c1 := h.s0.c0
          obtain ⟨a, c, rfl, hc⟩ := h.s0.row.slice
          clear h ok2 eE eD hn
          go_enter Try.func24, Try.ntmps24
          go_wp2_with fail
          refine (pright_is (u := true) rfl _).mono ?_
          rintro e w1 ⟨rfl, rfl⟩
          go_wp2_with fail
          refine (slot_cut H.out.s0 hl).mono ?_
          rintro e w3 ⟨rfl, v', h3⟩
          have HM := hid (H.out.moved0 h3 OK.out)
          clear h3
          go_wp2_with fail
          go_ret
          exact ⟨rfl, HM.out⟩
        · have hg : decide (d.x.b.length < m) = true := decide_eq_true (by omega)
          have eE : d.cutE 0 m = 61 := by unfold Dk.cutE Dk.bytes; simp; omega
          have eD : d.cut 0 m = d := by unfold Dk.cut Dk.bytes; simp; omega
          rw [eE, eD]
          have HM := hid (h.still (Below.refl _ _))
          obtain ⟨v0, v1, rfl, h⟩ := h
          have c1 := h.s0.c0
          obtain ⟨a, c, rfl, hc⟩ := h.s0.row.slice
          clear h ok2 eE eD hn
          go_enter Try.func24, Try.ntmps24
          go_wp2_with fail
          refine (pright_is (u := true) rfl _).mono ?_
          rintro e w1 ⟨rfl, rfl⟩
          go_wp2_with fail
          go_ret
          exact ⟨rfl, HM.out⟩
      · by_cases hl : m ≤ d.y.b.length
        · have hg : decide (d.y.b.length < m) = false := decide_eq_false (by omega)
          have eE : d.cutE 1 m = 0 := by unfold Dk.cutE Dk.bytes; simp [hl]
          have eD : d.cut 1 m = { d with y := d.y.cut m } := by unfold Dk.cut Dk.bytes; simp [hl]
          rw [eD] at ok2
          rw [eE, eD]
          have OK := hid ok2
          obtain ⟨v0, v1, rfl, h⟩ := h
          have H := hid h
          have c1 := h.s1.c0
          obtain ⟨a, c, rfl, hc⟩ := h.s1.row.slice
          clear h ok2 eE eD hn
          go_enter Try.func24, Try.ntmps24
          go_wp2_with fail
          refine (pright_is (u := true) rfl _).mono ?_
          rintro e w1 ⟨rfl, rfl⟩
          go_wp2_with fail
          refine (slot_cut H.out.s1 hl).mono ?_
          rintro e w3 ⟨rfl, v', h3⟩
          have HM := hid (H.out.moved1 h3 OK.out)
          clear h3
          go_wp2_with fail
          go_ret
          exact ⟨rfl, HM.out⟩
        · have hg : decide (d.y.b.length < m) = true := decide_eq_true (by omega)
          have eE : d.cutE 1 m = 61 := by unfold Dk.cutE Dk.bytes; simp; omega
          have eD : d.cut 1 m = d := by unfold Dk.cut Dk.bytes; simp; omega
          rw [eE, eD]
          have HM := hid (h.still (Below.refl _ _))
          obtain ⟨v0, v1, rfl, h⟩ := h
          have c1 := h.s1.c0
          obtain ⟨a, c, rfl, hc⟩ := h.s1.row.slice
          clear h ok2 eE eD hn
          go_enter Try.func24, Try.ntmps24
          go_wp2_with fail
          refine (pright_is (u := true) rfl _).mono ?_
          rintro e w1 ⟨rfl, rfl⟩
          go_wp2_with fail
          go_ret
          exact ⟨rfl, HM.out⟩
    · have hg : decide (n < 0) = true := decide_eq_true (by omega)
      have eE : d.cutE s n = 61 := by unfold Dk.cutE; rw [if_neg]; rintro ⟨_, h1, _⟩; exact hn h1
      have eD : d.cut s n = d := by unfold Dk.cut; rw [if_neg]; rintro ⟨h1, _⟩; exact hn h1
      have hr : decide (s = 0 ∨ s = 1) = true := decide_eq_true hs
      rw [eE, eD]
      have HM := hid (h.still (Below.refl _ _))
      clear h ok2 eE eD hn hs
      go_enter Try.func24, Try.ntmps24
      go_wp2_with fail
      refine (pright_is (u := true) hr _).mono ?_
      rintro e w1 ⟨rfl, rfl⟩
      go_wp2_with fail
      go_ret
      exact ⟨rfl, HM.out⟩
  · have eE : d.cutE s n = 61 := by unfold Dk.cutE; rw [if_neg]; rintro ⟨h1, _⟩; exact hs h1
    have eD : d.cut s n = d := by
      unfold Dk.cut
      rw [if_neg (fun e => hs (.inl e)), if_neg (fun e => hs (.inr e))]
      split <;> rfl
    have hr : decide (s = 0 ∨ s = 1) = false := decide_eq_false hs
    rw [eE, eD]
    have HM := hid (h.still (Below.refl _ _))
    clear h ok2 eE eD hs
    go_enter Try.func24, Try.ntmps24
    go_wp2_with fail
    refine (pright_is (u := false) hr _).mono ?_
    rintro e w1 ⟨rfl, rfl⟩
    go_wp2_with fail
    go_ret
    exact ⟨rfl, HM.out⟩

set_option maxHeartbeats 1000000 in
theorem p_remove {w : World} {F : Nat → Prop} {p : Nat} {d : Dk} (h : RP w F p d) (s : Int) : Calls Try.prog 25 #[ptr p, .int .i64 s] w fun e w' => e = .returned (.int .i64 (d.cutE s 0)) ∧ Moved RP w w' F p (d.cut s 0) := by
  have H := hid h
  clear h
  go_enter Try.func25, Try.ntmps25
  go_wp2_with fail
  refine (p_cut H.out s 0).mono ?_
  rintro e w' ⟨rfl, hm⟩
  have HM := hid hm
  clear hm
  go_wp2_with fail
  go_ret
  exact ⟨rfl, HM.out⟩

theorem Dk.ok.crash0 {d : Dk} (h : d.ok) (k : Int) : ({ d with x := d.x.crash k } : Dk).ok := by
  have h1 := h.used; have h2 := h.sx; have h3 := h.sy
  refine ⟨h.bx.take _, h.by', ?_, h.sy, ?_, h.cap⟩
  · simp only [Sl.crash, List.length_take]; unfold left; omega
  · simp only [Sl.crash, List.length_take]; unfold left; omega
set_option maxHeartbeats 2000000 in
theorem p_crash {w : World} {F : Nat → Prop} {p : Nat} {d : Dk} (h : RP w F p d) {k0 k1 : Int} (hk0 : I64 k0) (hk1 : I64 k1) : Calls Try.prog 18 #[ptr p, .int .i64 k0, .int .i64 k1] w fun e w' => e = .returned (.tuple #[]) ∧ Moved RP w w' F p (d.crash k0 k1) := by
  have OK := hid (h.ok.crash k0 k1)
  have OK0 := hid (h.ok.crash0 k0)
  obtain ⟨v0, v1, rfl, h⟩ := h
  have H := hid h
  have HK0 := hid hk0
  have HK1 := hid hk1
  clear h hk0 hk1
  go_enter Try.func18, Try.ntmps18
  go_wp2_with fail
  refine (slot_crash H.out.s0 H.out.ok.sx HK0.out).mono ?_
  rintro e w1 ⟨rfl, v', h1⟩
  obtain ⟨q1, q2, q3⟩ := H.out.put0 h1 OK0.out
  have H1 : Hid (PD w1 p v' v1 { d with x := d.x.crash k0 } ∧ Onl (hasP p v0 v1) w w1 ∧ ∀ k, hasP p v' v1 k → hasP p v0 v1 k ∨ w.heap.size ≤ k) := ⟨q1, q2, q3⟩
  clear h1 q1 q2 q3
  go_wp2_with fail
  refine (slot_crash H1.out.1.s1 H1.out.1.ok.sy HK1.out).mono ?_
  rintro e w2 ⟨rfl, v2, h2⟩
  have HM : Hid (Moved RP w w2 (hasP p v0 v1) p (d.crash k0 k1)) := by
    obtain ⟨F2, r1, r2, r3⟩ := H1.out.1.moved1 h2 OK.out
    refine ⟨F2, r1, H1.out.2.1.fresh r2 H1.out.2.2, fun k hk => ?_⟩
    rcases r3 k hk with e | e
    · exact H1.out.2.2 k e
    · exact .inr (Nat.le_trans H1.out.2.1.size e)
  clear h2
  go_wp2_with fail
  go_end0
  exact ⟨rfl, HM.out⟩

/-- a disk that is being cloned -/
structure Cp (w wr : World) (q : Nat) (u0 u1 : Value) (d : Dk) : Prop where
  at' : PD wr q u0 u1 d
  bl : Below w.heap.size w wr
  new : ∀ k, hasP q u0 u1 k → w.heap.size ≤ k
def Dk.copied (d : Dk) (k : Nat) : Dk := if k = 0 then ⟨d.cap, ⟨[], 0⟩, ⟨[], 0⟩⟩ else if k = 1 then ⟨d.cap, d.x, ⟨[], 0⟩⟩ else d
theorem SlAt.lay {w w1 : World} {p o : Nat} {v v' : Value} {s s' : Sl} (h : SlAt w p o v s) (hb : Below w.heap.size w w1) (hr : BRow w1 v' s'.b) (hn : ∀ g, v'.ownBlock = some g → w.heap.size ≤ g) (hl : s'.b.length ≤ 1048576) :
    SlTo w ((w1.setCell ⟨p, o, none⟩ v').setCell ⟨p, o + 1, none⟩ (.int .i64 (s'.s : Int))) p o v v' s' := by
  have h1 := h.setRow (Onl.of_below hb) (s' := ⟨s'.b, s.s⟩) hr (fun g hg => .inr (hn g hg)) rfl hl
  exact h1.trans (h1.at'.setSync (n := s'.s))
theorem Dk.ok.none {d : Dk} (h : d.ok) : (d.copied 0).ok := ⟨B8.nil, B8.nil, Nat.le_refl _, Nat.le_refl _, Nat.zero_le _, h.cap⟩
theorem Dk.ok.one {d : Dk} (h : d.ok) : (d.copied 1).ok := ⟨h.bx, B8.nil, h.sx, Nat.le_refl _, by have := h.used; show d.x.b.length + 0 ≤ d.cap; omega, h.cap⟩
set_option maxHeartbeats 8000000 in
theorem p_clone {w : World} {F : Nat → Prop} {p : Nat} {d : Dk} (h : RP w F p d) : Calls Try.prog 19 #[ptr p] w fun e w' => ∃ q G, e = .returned (ptr q) ∧ RP w' G q d ∧ (∀ k, G k → w.heap.size ≤ k) ∧ Below w.heap.size w w' := by
  obtain ⟨v0, v1, rfl, h⟩ := h
  have c0 := h.c0
  have H := hid h
  have OK1 := hid h.ok.one
  have OK2 := hid h.ok
  have H0 : Hid (Cp w (w.alloc (.cells #[.int .i64 (d.cap : Int), .slice none 0 0, .int .i64 0, .slice none 0 0, .int .i64 0] 58)) w.heap.size (.slice none 0 0) (.slice none 0 0) (d.copied 0)) :=
    ⟨⟨by simp [go_sem]; rfl, ⟨by simp [go_sem], by simp [go_sem]; rfl, BRow.nil _, fun o => by simp [go_sem], by simp [Value.ownBlock], Nat.zero_le _⟩, ⟨by simp [go_sem], by simp [go_sem]; rfl, BRow.nil _, fun o => by simp [go_sem], by simp [Value.ownBlock], Nat.zero_le _⟩, fun g hg => by simp [Value.ownBlock] at hg, h.ok.none⟩, Below.al (Below.refl _ _) _, fun k hk => by
      rcases hk with e | e | e
      · exact Nat.le_of_eq e.symm
      · simp [Value.ownBlock] at e
      · simp [Value.ownBlock] at e⟩
  clear h
  obtain ⟨q, hq⟩ : ∃ q, q = w.heap.size := ⟨_, rfl⟩
  go_enter Try.func19, Try.ntmps19
  go_wp2_with fail
  rw [← hq] at H0 ⊢
  clear hq
  go_loopg [11] 2 (fun g s4 wr => ∃ s : Nat, s ≤ 2 ∧ g = 2 - s ∧ s4 = .int .i64 s ∧ ∃ u0 u1, Hid (Cp w wr q u0 u1 (d.copied s)))
  case atStart => exact ⟨0, by omega, by omega, rfl, _, _, H0⟩
  case round =>
    obtain ⟨s, hs, rfl, rfl, u0, u1, HY⟩ := hrel
    have hc : s = 0 ∨ s = 1 ∨ s = 2 := by omega
    rcases hc with rfl | rfl | rfl
    · have hX := H.out.later HY.out.bl
      have HX := hid hX
      obtain ⟨a3, c3, rfl, -⟩ := HY.out.at'.s0.row.slice
      have ct := HY.out.at'.s0.c0
      have ct2 := HY.out.at'.s0.c1
      have hf : ∀ o, wr.frozen? ⟨q, o, none⟩ = false := HY.out.at'.s0.loose
      have hlt := HY.out.at'.lt
      clear hX
      go_wp2_with fail
      go_region_with (first | (go_at_call 30; refine (slot_clone (HX.out.s0.later (Below.drew (Below.refl _ _)))).mono ?_; rintro e w2 ⟨v, rfl, hrow, hnew, hb⟩; obtain ⟨a2, c2, rfl, -⟩ := hrow.slice; have HB : Hid (Below wr.heap.size wr w2) := (by refine Below.on ?_ hb; (repeat (first | exact Below.refl _ _ | assumption | refine Below.drew ?_ | refine Below.al ?_ _ | refine Below.setCell ?_ (by first | exact Nat.le_refl _ | (simp; omega) | (simp; done)) _ | refine Below.on ?_ (by assumption)))); have HO := hid hrow; have HN := hid hnew; have kc := cell_later HB.out ct; have kc2 := cell_later HB.out ct2; have kf : ∀ o, w2.frozen? ⟨q, o, none⟩ = false := (fun o => (HB.out.frozen (p := ⟨q, o, none⟩) hlt).trans (hf o)); clear hb hrow hnew))
      all_goals (try go_wp2_with fail)
      all_goals
        obtain ⟨k1, k2, k3⟩ := HY.out.at'.put0 (HY.out.at'.s0.lay HB.out HO.out HN.out HX.out.s0.len) OK1.out
        have HZ : Hid (Cp w _ q _ _ (d.copied 1)) := ⟨k1, HY.out.bl.trans (k2.below HY.out.new HY.out.bl.size), fun k hk => by
          rcases k3 k hk with h1 | h1
          · exact HY.out.new k h1
          · exact Nat.le_trans HY.out.bl.size h1⟩
        clear k1 k2 k3
        go_roundg (2 - (0 + 1))
        case measure => omega
        case rel => exact ⟨0 + 1, by omega, rfl, by go_num, _, _, HZ⟩
    · have hX := H.out.later HY.out.bl
      have HX := hid hX
      obtain ⟨a3, c3, rfl, -⟩ := HY.out.at'.s1.row.slice
      have ct := HY.out.at'.s1.c0
      have ct2 := HY.out.at'.s1.c1
      have hf : ∀ o, wr.frozen? ⟨q, o, none⟩ = false := HY.out.at'.s0.loose
      have hlt := HY.out.at'.lt
      clear hX
      go_wp2_with fail
      go_region_with (first | (go_at_call 30; refine (slot_clone (HX.out.s1.later (Below.drew (Below.refl _ _)))).mono ?_; rintro e w2 ⟨v, rfl, hrow, hnew, hb⟩; obtain ⟨a2, c2, rfl, -⟩ := hrow.slice; have HB : Hid (Below wr.heap.size wr w2) := (by refine Below.on ?_ hb; (repeat (first | exact Below.refl _ _ | assumption | refine Below.drew ?_ | refine Below.al ?_ _ | refine Below.setCell ?_ (by first | exact Nat.le_refl _ | (simp; omega) | (simp; done)) _ | refine Below.on ?_ (by assumption)))); have HO := hid hrow; have HN := hid hnew; have kc := cell_later HB.out ct; have kc2 := cell_later HB.out ct2; have kf : ∀ o, w2.frozen? ⟨q, o, none⟩ = false := (fun o => (HB.out.frozen (p := ⟨q, o, none⟩) hlt).trans (hf o)); clear hb hrow hnew))
      all_goals (try go_wp2_with fail)
      all_goals
        obtain ⟨k1, k2, k3⟩ := HY.out.at'.put1 (HY.out.at'.s1.lay HB.out HO.out HN.out HX.out.s1.len) OK2.out
        have HZ : Hid (Cp w _ q _ _ (d.copied 2)) := ⟨k1, HY.out.bl.trans (k2.below HY.out.new HY.out.bl.size), fun k hk => by
          rcases k3 k hk with h1 | h1
          · exact HY.out.new k h1
          · exact Nat.le_trans HY.out.bl.size h1⟩
        clear k1 k2 k3
        go_roundg (2 - (1 + 1))
        case measure => omega
        case rel => exact ⟨1 + 1, by omega, rfl, by go_num, _, _, HZ⟩
    · go_wp2_with fail
      go_ret
      exact ⟨q, _, rfl, ⟨_, _, rfl, HY.out.at'⟩, HY.out.new, HY.out.bl⟩

theorem face : Face RP where
  lt := RP.lt
  keep := RP.keep
  ok := RP.ok
  new := fun c w hc => p_new c w hc
  used := p_used
  free := p_free
  bytes := fun h s _ => p_bytes h s
  synced := fun h s _ => p_synced h s
  append := fun h s _ _ ht => p_append h s ht
  sync := p_sync
  cut := fun h s n _ _ => p_cut h s n
  remove := fun h s _ => p_remove h s
  crash := fun h _ _ h0 h1 => p_crash h h0 h1
  clone := p_clone

end Go.Proofs.Ytmbmagfdeadibaa
