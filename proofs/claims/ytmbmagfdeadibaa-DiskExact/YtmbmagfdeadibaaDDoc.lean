import Derived.Test.YtmbmagfdeadibaaDRow
/- The document's disk, told as a Dk. -/
namespace Go.Proofs.Ytmbmagfdeadibaa
open Go.RowKit Go.Sort
set_option linter.unusedVariables false

theorem Dk.ok.app {d : Dk} (h : d.ok) (s : Int) {t : List Nat} (ht : B8 t) : (d.app s t).ok := by
  unfold Dk.app Dk.free Dk.used
  have h1 := h.used; have h2 := h.sx; have h3 := h.sy
  split
  · split
    · exact ⟨h.bx.append ht, h.by', by simp only [Sl.app, List.length_append]; omega, h.sy, by simp only [Sl.app, List.length_append]; omega, h.cap⟩
    · split
      · exact ⟨h.bx, h.by'.append ht, h.sx, by simp only [Sl.app, List.length_append]; omega, by simp only [Sl.app, List.length_append]; omega, h.cap⟩
      · exact h
  · exact h
theorem Dk.ok.sync {d : Dk} (h : d.ok) : d.sync.ok := ⟨h.bx, h.by', Nat.le_refl _, Nat.le_refl _, h.used, h.cap⟩
theorem Dk.ok.cut {d : Dk} (h : d.ok) (s n : Int) : (d.cut s n).ok := by
  unfold Dk.cut
  have h1 := h.used; have h2 := h.sx; have h3 := h.sy
  split
  · split
    · exact ⟨h.bx.take _, h.by', by simp only [Sl.cut, List.length_take]; omega, h.sy, by simp only [Sl.cut, List.length_take]; omega, h.cap⟩
    · split
      · exact ⟨h.bx, h.by'.take _, h.sx, by simp only [Sl.cut, List.length_take]; omega, by simp only [Sl.cut, List.length_take]; omega, h.cap⟩
      · exact h
  · exact h
theorem Dk.ok.crash {d : Dk} (h : d.ok) (k0 k1 : Int) : (d.crash k0 k1).ok := by
  have h1 := h.used; have h2 := h.sx; have h3 := h.sy
  refine ⟨h.bx.take _, h.by'.take _, ?_, ?_, ?_, h.cap⟩
  · simp only [Dk.crash, Sl.crash, List.length_take]; unfold left; omega
  · simp only [Dk.crash, Sl.crash, List.length_take]; unfold left; omega
  · simp only [Dk.crash, Sl.crash, List.length_take]; unfold left; omega
theorem fit_le (c : Int) : fit c ≤ 1048576 := by unfold fit; omega
theorem Dk.new_ok (c : Int) : (Dk.new c).ok := ⟨B8.nil, B8.nil, Nat.le_refl _, Nat.le_refl _, Nat.zero_le _, fit_le c⟩

/-- the document's disk d at p, of the blocks F -/
def RD (w : World) (F : Nat → Prop) (p : Nat) (d : Dk) : Prop := ∃ r : Rf, r.p = p ∧ F = r.has ∧ r.cap = d.cap ∧ r.r 0 = rowC d.x.b d.x.s ∧ r.r 1 = rowC d.y.b d.y.s ∧ RefD w r ∧ d.ok
/-- behind a call: only its blocks were written, and what it has now is that or new -/
def Moved (R : World → (Nat → Prop) → Nat → Dk → Prop) (w w' : World) (F : Nat → Prop) (p : Nat) (d : Dk) : Prop := ∃ F', R w' F' p d ∧ Onl F w w' ∧ ∀ k, F' k → F k ∨ w.heap.size ≤ k
theorem RD.lt {w : World} {F : Nat → Prop} {p : Nat} {d : Dk} (h : RD w F p d) : ∀ k, F k → k < w.heap.size := by
  obtain ⟨r, rfl, rfl, _, _, _, hr, _⟩ := h; exact hr.has_lt
theorem RD.self {w : World} {F : Nat → Prop} {p : Nat} {d : Dk} (h : RD w F p d) : F p := by
  obtain ⟨r, rfl, rfl, _⟩ := h; exact .inl rfl
theorem RD.keep {w w' : World} {F G : Nat → Prop} {p : Nat} {d : Dk} (h : RD w F p d) (ho : Onl G w w') (hF : ∀ k, F k → ¬ G k) : RD w' F p d := by
  obtain ⟨r, e1, rfl, e2, e3, e4, hr, hd⟩ := h; exact ⟨r, e1, rfl, e2, e3, e4, hr.keep ho hF, hd⟩
theorem RD.later {w w' : World} {F : Nat → Prop} {p : Nat} {d : Dk} (h : RD w F p d) (hb : Below w.heap.size w w') : RD w' F p d := h.keep (G := fun _ => False) (Onl.of_below hb) (fun _ _ => id)
theorem RD.still {w w' : World} {F : Nat → Prop} {p : Nat} {d : Dk} (h : RD w F p d) (hb : Below w.heap.size w w') : Moved RD w w' F p d := ⟨F, h.later hb, Onl.of_below hb, fun k hk => .inl hk⟩
theorem RD.ok {w : World} {F : Nat → Prop} {p : Nat} {d : Dk} (h : RD w F p d) : d.ok := by obtain ⟨r, _, _, _, _, _, _, hd⟩ := h; exact hd

theorem rd_new (c : Int) (w : World) :
    Calls Try.prog 21 #[.int .i64 c] w fun e w' => ∃ p F, e = .returned (.pointer (some ⟨p, 0, none⟩)) ∧ RD w' F p (Dk.new c) ∧ (∀ k, F k → w.heap.size ≤ k) ∧ Below w.heap.size w w' := by
  refine (rnew_is c w).mono ?_
  rintro e w' ⟨p, rfl, hp, hr, hb⟩
  refine ⟨p, _, rfl, ⟨Rf.new p c, rfl, rfl, rfl, rfl, rfl, hr, Dk.new_ok c⟩, ?_, hb⟩
  rintro k (e | e | e)
  · exact e ▸ hp
  · simp [Rf.new, Value.ownBlock] at e
  · simp [Rf.new, Value.ownBlock] at e
theorem rd_used {w : World} {F : Nat → Prop} {p : Nat} {d : Dk} (h : RD w F p d) :
    Calls Try.prog 38 #[.pointer (some ⟨p, 0, none⟩)] w fun e w' => e = .returned (.int .i64 (d.used : Int)) ∧ Below w.heap.size w w' := by
  obtain ⟨r, rfl, rfl, e2, e3, e4, hr, hd⟩ := h
  have := rused_is hr
  rw [e3, e4, rowC_length, rowC_length] at this
  exact this
theorem rd_free {w : World} {F : Nat → Prop} {p : Nat} {d : Dk} (h : RD w F p d) :
    Calls Try.prog 39 #[.pointer (some ⟨p, 0, none⟩)] w fun e w' => e = .returned (.int .i64 (d.free : Int)) ∧ Below w.heap.size w w' := by
  obtain ⟨r, rfl, rfl, e2, e3, e4, hr, hd⟩ := h
  have := rfree_is hr
  rw [e2, e3, e4, rowC_length, rowC_length] at this
  exact this
theorem rd_bytes {w : World} {F : Nat → Prop} {p : Nat} {d : Dk} (h : RD w F p d) (s : Int) :
    Calls Try.prog 34 #[.pointer (some ⟨p, 0, none⟩), .int .i64 s] w fun e w' => e = .returned (.string (ofNats (d.bytes s))) ∧ Below w.heap.size w w' := by
  obtain ⟨r, rfl, rfl, e2, e3, e4, hr, hd⟩ := h
  unfold Dk.bytes
  by_cases h0 : s = 0
  · subst h0
    have := rbytes0 hr
    rw [e3, rowC_bytes] at this
    exact this
  · by_cases h1 : s = 1
    · subst h1
      have := rbytes1 hr
      rw [e4, rowC_bytes] at this
      exact this
    · rw [if_neg h0, if_neg h1]
      exact rbytes_no (by simp [h0, h1])
theorem rd_synced {w : World} {F : Nat → Prop} {p : Nat} {d : Dk} (h : RD w F p d) (s : Int) :
    Calls Try.prog 35 #[.pointer (some ⟨p, 0, none⟩), .int .i64 s] w fun e w' => e = .returned (.int .i64 (d.synced s : Int)) ∧ Below w.heap.size w w' := by
  obtain ⟨r, rfl, rfl, e2, e3, e4, hr, hd⟩ := h
  unfold Dk.synced
  by_cases h0 : s = 0
  · subst h0
    have := rsynced0 hr
    rw [e3, rowC_sures hd.sx] at this
    exact this
  · by_cases h1 : s = 1
    · subst h1
      have := rsynced1 hr
      rw [e4, rowC_sures hd.sy] at this
      exact this
    · rw [if_neg h0, if_neg h1]
      exact rsynced_no (by simp [h0, h1])
theorem Then.rd {w w' : World} {x y : Rf} {r0 r1 : List Cc} {d : Dk} (h : Then w w' x y r0 r1) (ec : x.cap = d.cap) (e0 : r0 = rowC d.x.b d.x.s) (e1 : r1 = rowC d.y.b d.y.s) (hd : d.ok) : Moved RD w w' x.has x.p d :=
  ⟨y.has, ⟨y, h.p, rfl, h.cap.trans ec, h.r0.trans e0, h.r1.trans e1, h.at', hd⟩, h.onl, h.new⟩
theorem rd_append {w : World} {F : Nat → Prop} {p : Nat} {d : Dk} (h : RD w F p d) (s : Int) {t : List Nat} (ht : B8 t) :
    Calls Try.prog 32 #[.pointer (some ⟨p, 0, none⟩), .int .i64 s, .string (ofNats t)] w fun e w' => e = .returned (.int .i64 (d.appE s t)) ∧ Moved RD w w' F p (d.app s t) := by
  have hst := fun (w' : World) (hb : Below w.heap.size w w') => h.still hb
  obtain ⟨r, rfl, rfl, e2, e3, e4, hr, hd⟩ := h
  have ok2 := hd.app s ht
  have hfr : r.cap - ((r.r 0).length + (r.r 1).length) = d.free := by rw [e2, e3, e4, rowC_length, rowC_length]; rfl
  by_cases h0 : s = 0
  · subst h0
    by_cases hf : t.length ≤ d.free
    · have eE : d.appE 0 t = 0 := by simp [Dk.appE, hf]
      have eD : d.app 0 t = { d with x := d.x.app t } := by simp [Dk.app, hf]
      rw [eD] at ok2
      rw [eE, eD]
      refine (rapp0 hr (by rw [hfr]; exact hf) ht).mono ?_
      rintro e w' ⟨rfl, y, hy⟩
      exact ⟨rfl, hy.rd e2 (by rw [e3]; exact rowC_append hd.sx) e4 ok2⟩
    · have eE : d.appE 0 t = 60 := by simp [Dk.appE, hf]
      have eD : d.app 0 t = d := by simp [Dk.app, hf]
      rw [eE, eD]
      refine (rapp_full0 hr (by rw [hfr]; omega)).mono ?_
      rintro e w' ⟨rfl, hb⟩
      exact ⟨rfl, hst _ hb⟩
  · by_cases h1 : s = 1
    · subst h1
      by_cases hf : t.length ≤ d.free
      · have eE : d.appE 1 t = 0 := by simp [Dk.appE, hf]
        have eD : d.app 1 t = { d with y := d.y.app t } := by simp [Dk.app, hf]
        rw [eD] at ok2
        rw [eE, eD]
        refine (rapp1 hr (by rw [hfr]; exact hf) ht).mono ?_
        rintro e w' ⟨rfl, y, hy⟩
        exact ⟨rfl, hy.rd e2 e3 (by rw [e4]; exact rowC_append hd.sy) ok2⟩
      · have eE : d.appE 1 t = 60 := by simp [Dk.appE, hf]
        have eD : d.app 1 t = d := by simp [Dk.app, hf]
        rw [eE, eD]
        refine (rapp_full1 hr (by rw [hfr]; omega)).mono ?_
        rintro e w' ⟨rfl, hb⟩
        exact ⟨rfl, hst _ hb⟩
    · have eE : d.appE s t = 61 := by simp [Dk.appE, h0, h1]
      have eD : d.app s t = d := by simp [Dk.app, h0, h1]
      rw [eE, eD]
      refine (rapp_no (by simp [h0, h1])).mono ?_
      rintro e w' ⟨rfl, hb⟩
      exact ⟨rfl, hst _ hb⟩
theorem rd_sync {w : World} {F : Nat → Prop} {p : Nat} {d : Dk} (h : RD w F p d) :
    Calls Try.prog 33 #[.pointer (some ⟨p, 0, none⟩)] w fun e w' => e = .returned (.tuple #[]) ∧ Moved RD w w' F p d.sync := by
  obtain ⟨r, rfl, rfl, e2, e3, e4, hr, hd⟩ := h
  refine (rsync_is hr (e3.trans (rowC_mk _ _).symm) (e4.trans (rowC_mk _ _).symm) hd.sx hd.sy).mono ?_
  rintro e w' ⟨rfl, y, hy⟩
  exact ⟨rfl, hy.rd e2 (rowC_full _) (rowC_full _) hd.sync⟩
theorem rd_cut {w : World} {F : Nat → Prop} {p : Nat} {d : Dk} (h : RD w F p d) (s n : Int) :
    Calls Try.prog 36 #[.pointer (some ⟨p, 0, none⟩), .int .i64 s, .int .i64 n] w fun e w' => e = .returned (.int .i64 (d.cutE s n)) ∧ Moved RD w w' F p (d.cut s n) := by
  have hst := fun (w' : World) (hb : Below w.heap.size w w') => h.still hb
  obtain ⟨r, rfl, rfl, e2, e3, e4, hr, hd⟩ := h
  have ok2 := hd.cut s n
  by_cases h0 : s = 0
  · subst h0
    have hb0 : d.bytes 0 = d.x.b := rfl
    by_cases hn : 0 ≤ n ∧ n ≤ (d.x.b.length : Int)
    · have eE : d.cutE 0 n = 0 := by simp [Dk.cutE, hb0, hn]
      have eD : d.cut 0 n = { d with x := d.x.cut n.toNat } := by simp [Dk.cut, hb0, hn]
      rw [eD] at ok2
      rw [eE, eD]
      obtain ⟨k, rfl⟩ := Int.eq_ofNat_of_zero_le hn.1
      have hk : k ≤ d.x.b.length := by omega
      refine (rtrunc0 hr (n := k) (by rw [e3, rowC_length]; exact hk)).mono ?_
      rintro e w' ⟨rfl, v, h1, h2, h3⟩
      exact ⟨rfl, _, ⟨r.put 0 v (List.take k (r.r 0)), rfl, rfl, e2, by show List.take k (r.r 0) = _; rw [e3]; exact rowC_take hk, e4, h1, ok2⟩, h2, h3⟩
    · have eE : d.cutE 0 n = 61 := by simp only [Dk.cutE, hb0]; rw [if_neg]; intro h; exact hn h.2
      have eD : d.cut 0 n = d := by simp only [Dk.cut, hb0]; rw [if_neg hn]
      rw [eE, eD]
      refine (rtrunc_out0 hr (by rw [e3, rowC_length]; omega)).mono ?_
      rintro e w' ⟨rfl, hb⟩
      exact ⟨rfl, hst _ hb⟩
  · by_cases h1 : s = 1
    · subst h1
      have hb0 : d.bytes 1 = d.y.b := rfl
      by_cases hn : 0 ≤ n ∧ n ≤ (d.y.b.length : Int)
      · have eE : d.cutE 1 n = 0 := by simp [Dk.cutE, hb0, hn]
        have eD : d.cut 1 n = { d with y := d.y.cut n.toNat } := by simp [Dk.cut, hb0, hn]
        rw [eD] at ok2
        rw [eE, eD]
        obtain ⟨k, rfl⟩ := Int.eq_ofNat_of_zero_le hn.1
        have hk : k ≤ d.y.b.length := by omega
        refine (rtrunc1 hr (n := k) (by rw [e4, rowC_length]; exact hk)).mono ?_
        rintro e w' ⟨rfl, v, h1, h2, h3⟩
        exact ⟨rfl, _, ⟨r.put 1 v (List.take k (r.r 1)), rfl, rfl, e2, e3, by show List.take k (r.r 1) = _; rw [e4]; exact rowC_take hk, h1, ok2⟩, h2, h3⟩
      · have eE : d.cutE 1 n = 61 := by simp only [Dk.cutE, hb0]; rw [if_neg]; intro h; exact hn h.2
        have eD : d.cut 1 n = d := by simp only [Dk.cut, hb0]; rw [if_neg hn]
        rw [eE, eD]
        refine (rtrunc_out1 hr (by rw [e4, rowC_length]; omega)).mono ?_
        rintro e w' ⟨rfl, hb⟩
        exact ⟨rfl, hst _ hb⟩
    · have eE : d.cutE s n = 61 := by simp only [Dk.cutE]; rw [if_neg]; rintro ⟨h | h, _⟩ <;> contradiction
      have eD : d.cut s n = d := by simp [Dk.cut, h0, h1]
      rw [eE, eD]
      refine (rtrunc_no (by simp [h0, h1])).mono ?_
      rintro e w' ⟨rfl, hb⟩
      exact ⟨rfl, hst _ hb⟩
set_option maxHeartbeats 1000000 in
theorem rd_remove {w : World} {F : Nat → Prop} {p : Nat} {d : Dk} (h : RD w F p d) (s : Int) :
    Calls Try.prog 37 #[.pointer (some ⟨p, 0, none⟩), .int .i64 s] w fun e w' => e = .returned (.int .i64 (d.cutE s 0)) ∧ Moved RD w w' F p (d.cut s 0) := by
  have H := hid h
  clear h
  go_enter Try.func37, Try.ntmps37
  go_wp2_with fail
  refine (rd_cut H.out s 0).mono ?_
  rintro e w' ⟨rfl, hm⟩
  have HM := hid hm
  clear hm
  go_wp2_with fail
  go_ret
  exact ⟨rfl, HM.out⟩
theorem rd_crash {w : World} {F : Nat → Prop} {p : Nat} {d : Dk} (h : RD w F p d) {k0 k1 : Int} (h0 : -9223372036854775808 ≤ k0 ∧ k0 ≤ 9223372036854775807) (h1 : -9223372036854775808 ≤ k1 ∧ k1 ≤ 9223372036854775807) :
    Calls Try.prog 40 #[.pointer (some ⟨p, 0, none⟩), .int .i64 k0, .int .i64 k1] w fun e w' => e = .returned (.tuple #[]) ∧ Moved RD w w' F p (d.crash k0 k1) := by
  obtain ⟨r, rfl, rfl, e2, e3, e4, hr, hd⟩ := h
  refine (rcrash_is hr h0.1 h0.2 h1.1 h1.2).mono ?_
  rintro e w' ⟨rfl, v, u, k1', k2, k3⟩
  refine ⟨rfl, _, ⟨(r.put 0 v (keptF k0 (r.r 0)).1).put 1 u (keptF k1 (r.r 1)).1, rfl, rfl, e2, ?_, ?_, k1', hd.crash k0 k1⟩, k2, k3⟩
  · show (keptF k0 (r.r 0)).1 = _; rw [e3]; exact rowC_kept hd.sx k0
  · show (keptF k1 (r.r 1)).1 = _; rw [e4]; exact rowC_kept hd.sy k1
theorem rd_clone {w : World} {F : Nat → Prop} {p : Nat} {d : Dk} (h : RD w F p d) :
    Calls Try.prog 22 #[.pointer (some ⟨p, 0, none⟩)] w fun e w' => ∃ q G, e = .returned (.pointer (some ⟨q, 0, none⟩)) ∧ RD w' G q d ∧ (∀ k, G k → w.heap.size ≤ k) ∧ Below w.heap.size w w' := by
  obtain ⟨r, rfl, rfl, e2, e3, e4, hr, hd⟩ := h
  refine (rclone_is hr).mono ?_
  rintro e w' ⟨q, y, rfl, hc⟩
  exact ⟨q, y.has, rfl, ⟨y, hc.p, rfl, hc.cap.trans e2, hc.r0.trans e3, hc.r1.trans e4, hc.at', hd⟩, hc.new, hc.bl⟩

end Go.Proofs.Ytmbmagfdeadibaa
