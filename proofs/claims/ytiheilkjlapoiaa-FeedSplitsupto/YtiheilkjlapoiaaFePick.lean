import Derived.Test.YtiheilkjlapoiaaFeSmall
/- The law's pick. -/
namespace Go.Proofs.Ytiheilkjlapoiaa.Lg
open Go.RowKit Go.Sort Go.Shelf Go.Lib Lk
set_option linter.unusedVariables false

/-- a result with its lists -/
structure Rs where
  r : Rv
  E : List Ev
  M : List En
abbrev Rv.zero : Rv := ⟨0, 0, 0, none, 0, 0, 0, 0, 0, none, 0, 0, none, 0, 0, none, 0, 0, none, 0, 0, 0, 0⟩
abbrev Rs.zero : Rs := ⟨Rv.zero, [], []⟩
structure ResAt (w : World) (x : Rs) : Prop where
  ev : RowEv w x.r.ea x.E
  el : x.E.length = x.r.en
  co : RowE w x.r.ca x.M
  cl : x.M.length = x.r.cn
  eb : x.r.en ≤ 1048576
  cb : x.r.cn ≤ 1048576
theorem ResAt.later {w w' : World} {x : Rs} (h : ResAt w x) (hb : Below w.heap.size w w') : ResAt w' x := ⟨h.ev.later hb, h.el, h.co.later hb, h.cl, h.eb, h.cb⟩
theorem ResAt.zero (w : World) : ResAt w Rs.zero := ⟨fun i hi => absurd hi (by simp), rfl, fun i hi => absurd hi (by simp), rfl, by decide, by decide⟩
def nthX (xs : List Rs) (i : Nat) : Rs := (xs[i]?).getD Rs.zero
def RowR (w : World) (a : Option Addr) (xs : List Rs) : Prop :=
  ∀ i, i < xs.length → ∃ b off, a = some ⟨b, off, none⟩ ∧ (∀ j v, (nthX xs i).r.cs[j]? = some v → w.cell? ⟨b, off + i * 13 + j, none⟩ = some v) ∧ ResAt w (nthX xs i)
theorem RowR.later {w w' : World} {a : Option Addr} {xs : List Rs} (h : RowR w a xs) (hb : Below w.heap.size w w') : RowR w' a xs := fun i hi => by
  obtain ⟨b, off, e, hc, hr⟩ := h i hi
  exact ⟨b, off, e, fun j v hj => cell_later hb (hc j v hj), hr.later hb⟩
theorem szRe : (Try.prog.info? 41).map (·.size) = some 13 := by kernel_rfl
theorem re_all (r : Rv) : (r.cs.toArray).all (·.oneCell') = true := by simp [Value.oneCell']
set_option maxRecDepth 100000 in
set_option maxHeartbeats 1000000 in
theorem pick_is {ra sa : Option Addr} {rn rc sn sc : Nat} {i : Int} {Xs : List Rs} {w : World} (h : RowR w ra Xs) (hn : Xs.length = rn) (hl : rn ≤ 1048576) :
    Calls Try.prog 5 #[.agg #[.slice ra rn rc, .slice sa sn sc], .int .i64 i] w fun e w' => ∃ x : Rs, e = .returned x.r.val ∧ Hid (ResAt w x) ∧ Below w.heap.size w w' := by
  by_cases h0 : rn = 0
  · subst h0
    clear h hn
    go_enter Try.func5, Try.ntmps5
    go_wp2_with fail
    refine bodyPost_ret (v := Rv.zero.val) (results_cell_row rfl _ _ (w.heap.size + 1) 41 Rv.zero.cs.toArray (0, 0) _ rfl ?_ Try.underlying41 rfl (by kernel_rfl)) rfl ⟨Rs.zero, rfl, hid (ResAt.zero _), by (repeat (first | with_reducible exact Below.refl _ _ | with_reducible assumption | with_reducible refine Below.drew ?_ | with_reducible refine Below.al ?_ _ | with_reducible refine Below.setCell ?_ (by first | exact Nat.le_refl _ | (simp; omega) | (simp; done)) _ | with_reducible refine Below.on ?_ (by assumption)))⟩
    have := (MapKept.heap_alloc (w.alloc (.cells #[.slice ra 0 rc, .slice sa sn sc] 25)) (.cells Rv.zero.cs.toArray 41)).1
    simpa using this
  · have h0' : ((rn : Int) == 0) = false := by simp; omega
    have hrn : (0 : Int) < rn := by omega
    have z1 : i.tmod rn < rn := Int.tmod_lt_of_pos _ hrn
    have z2 : -(rn : Int) < i.tmod rn := Int.lt_tmod_of_pos _ hrn
    by_cases hz : i.tmod rn < 0
    · obtain ⟨k, hk⟩ : ∃ k : Nat, i.tmod rn + rn = (k : Int) := ⟨(i.tmod rn + rn).toNat, by omega⟩
      have hkl : k < rn := by omega
      obtain ⟨b, off, ea, hcs, hres⟩ := h k (by omega)
      obtain ⟨x, hx⟩ : ∃ x, x = nthX Xs k := ⟨_, rfl⟩
      rw [← hx] at hcs hres
      have HRES := hid hres
      subst ea
      have hx13 : ∀ j v, ([.int .i64 x.r.st, .int .i64 x.r.sh, .int .i64 x.r.cl, .slice x.r.pa x.r.pn x.r.pc, .int .i64 x.r.cap, .int .i64 x.r.park, .int .u64 x.r.win, .slice x.r.ea x.r.en x.r.ec, .slice x.r.wa x.r.wn x.r.wc, .slice x.r.ca x.r.cn x.r.cc, .slice x.r.ha x.r.hn x.r.hc, .int .i64 x.r.fl, .int .i64 x.r.ss] : List Value)[j]? = some v → ((w.alloc (.cells #[.slice (some ⟨b, off, none⟩) rn rc, .slice sa sn sc] 25)).alloc (.cells Rv.zero.cs.toArray 41)).cell? ((⟨b, off + k * 13, none⟩ : Addr).add j) = some v := fun j v hj => by
        rw [Addr.add_lit]
        exact cell_later (Below.al (Below.al (Below.refl _ _) _) _) (hcs j v hj)
      clear h hn hcs hres hx
      go_enter Try.func5, Try.ntmps5
      go_wp2_with (first | (refine wpList_load_at (by rfl) 41 _ (by rfl) ⟨b, off + k * 13, none⟩ (by rfl) [.int .i64 x.r.st, .int .i64 x.r.sh, .int .i64 x.r.cl, .slice x.r.pa x.r.pn x.r.pc, .int .i64 x.r.cap, .int .i64 x.r.park, .int .u64 x.r.win, .slice x.r.ea x.r.en x.r.ec, .slice x.r.wa x.r.wn x.r.wc, .slice x.r.ca x.r.cn x.r.cc, .slice x.r.ha x.r.hn x.r.hc, .int .i64 x.r.fl, .int .i64 x.r.ss] _ hx13 Try.underlying41 rfl szRe ?_) | (refine wpList_store_new (by rfl) 41 _ _ (by rfl) #[.int .i64 x.r.st, .int .i64 x.r.sh, .int .i64 x.r.cl, .slice x.r.pa x.r.pn x.r.pc, .int .i64 x.r.cap, .int .i64 x.r.park, .int .u64 x.r.win, .slice x.r.ea x.r.en x.r.ec, .slice x.r.wa x.r.wn x.r.wc, .slice x.r.ca x.r.cn x.r.cc, .slice x.r.ha x.r.hn x.r.hc, .int .i64 x.r.fl, .int .i64 x.r.ss] _ 41 (by rw [World.size_alloc]; rfl) (by rfl) szRe (by rfl) (re_all x.r) ?_))
      refine bodyPost_ret (v := x.r.val) (results_cell_row rfl _ _ (w.heap.size + 1) 41 x.r.cs.toArray (0, 0) _ rfl ?_ Try.underlying41 rfl (by kernel_rfl)) rfl ⟨x, rfl, HRES, by (repeat (first | with_reducible exact Below.refl _ _ | with_reducible assumption | with_reducible refine Below.drew ?_ | with_reducible refine Below.al ?_ _ | with_reducible refine Below.setCell ?_ (by first | exact Nat.le_refl _ | (simp; omega) | (simp; done)) _ | with_reducible refine Below.on ?_ (by assumption)))⟩
      have := (MapKept.heap_alloc (w.alloc (.cells #[.slice (some ⟨b, off, none⟩) rn rc, .slice sa sn sc] 25)) (.cells x.r.cs.toArray 41)).1
      simpa using this
    · obtain ⟨k, hk⟩ : ∃ k : Nat, i.tmod rn = (k : Int) := ⟨(i.tmod rn).toNat, by omega⟩
      have hkl : k < rn := by omega
      obtain ⟨b, off, ea, hcs, hres⟩ := h k (by omega)
      obtain ⟨x, hx⟩ : ∃ x, x = nthX Xs k := ⟨_, rfl⟩
      rw [← hx] at hcs hres
      have HRES := hid hres
      subst ea
      have hx13 : ∀ j v, ([.int .i64 x.r.st, .int .i64 x.r.sh, .int .i64 x.r.cl, .slice x.r.pa x.r.pn x.r.pc, .int .i64 x.r.cap, .int .i64 x.r.park, .int .u64 x.r.win, .slice x.r.ea x.r.en x.r.ec, .slice x.r.wa x.r.wn x.r.wc, .slice x.r.ca x.r.cn x.r.cc, .slice x.r.ha x.r.hn x.r.hc, .int .i64 x.r.fl, .int .i64 x.r.ss] : List Value)[j]? = some v → ((w.alloc (.cells #[.slice (some ⟨b, off, none⟩) rn rc, .slice sa sn sc] 25)).alloc (.cells Rv.zero.cs.toArray 41)).cell? ((⟨b, off + k * 13, none⟩ : Addr).add j) = some v := fun j v hj => by
        rw [Addr.add_lit]
        exact cell_later (Below.al (Below.al (Below.refl _ _) _) _) (hcs j v hj)
      clear h hn hcs hres hx
      go_enter Try.func5, Try.ntmps5
      go_wp2_with (first | (refine wpList_load_at (by rfl) 41 _ (by rfl) ⟨b, off + k * 13, none⟩ (by rfl) [.int .i64 x.r.st, .int .i64 x.r.sh, .int .i64 x.r.cl, .slice x.r.pa x.r.pn x.r.pc, .int .i64 x.r.cap, .int .i64 x.r.park, .int .u64 x.r.win, .slice x.r.ea x.r.en x.r.ec, .slice x.r.wa x.r.wn x.r.wc, .slice x.r.ca x.r.cn x.r.cc, .slice x.r.ha x.r.hn x.r.hc, .int .i64 x.r.fl, .int .i64 x.r.ss] _ hx13 Try.underlying41 rfl szRe ?_) | (refine wpList_store_new (by rfl) 41 _ _ (by rfl) #[.int .i64 x.r.st, .int .i64 x.r.sh, .int .i64 x.r.cl, .slice x.r.pa x.r.pn x.r.pc, .int .i64 x.r.cap, .int .i64 x.r.park, .int .u64 x.r.win, .slice x.r.ea x.r.en x.r.ec, .slice x.r.wa x.r.wn x.r.wc, .slice x.r.ca x.r.cn x.r.cc, .slice x.r.ha x.r.hn x.r.hc, .int .i64 x.r.fl, .int .i64 x.r.ss] _ 41 (by rw [World.size_alloc]; rfl) (by rfl) szRe (by rfl) (re_all x.r) ?_))
      refine bodyPost_ret (v := x.r.val) (results_cell_row rfl _ _ (w.heap.size + 1) 41 x.r.cs.toArray (0, 0) _ rfl ?_ Try.underlying41 rfl (by kernel_rfl)) rfl ⟨x, rfl, HRES, by (repeat (first | with_reducible exact Below.refl _ _ | with_reducible assumption | with_reducible refine Below.drew ?_ | with_reducible refine Below.al ?_ _ | with_reducible refine Below.setCell ?_ (by first | exact Nat.le_refl _ | (simp; omega) | (simp; done)) _ | with_reducible refine Below.on ?_ (by assumption)))⟩
      have := (MapKept.heap_alloc (w.alloc (.cells #[.slice (some ⟨b, off, none⟩) rn rc, .slice sa sn sc] 25)) (.cells x.r.cs.toArray 41)).1
      simpa using this
end Go.Proofs.Ytiheilkjlapoiaa.Lg
