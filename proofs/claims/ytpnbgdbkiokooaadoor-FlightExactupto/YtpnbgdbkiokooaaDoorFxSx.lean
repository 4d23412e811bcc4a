import Derived.Test.YtpnbgdbkiokooaaDoorFxSt
import Derived.Test.YtpnbgdbkiokooaaDoorFxKeep
import Derived.Test.YtpnbgdbkiokooaaDoorFlScr
/- The calls at the state, beside a step in its box. -/
namespace Go.Proofs.YtpnbgdbkiokooaaDoor.Fl
open Go.RowKit Go.Sort Go.Proofs.YtpnbgdbkiokooaaDoor
set_option linter.unusedVariables false

/-- a step in its box, of a colour of its own -/
structure Bx2 (w : World) (c : Nat → Nat) (b0 : Nat) (t : Sp) : Prop where
  x0 : w.cell? ⟨b0, 0, none⟩ = some (.int .i64 t.k)
  x2 : w.cell? ⟨b0, 2, none⟩ = some (.int .i64 t.i)
  x3 : w.cell? ⟨b0, 3, none⟩ = some t.v
  col : c b0 = 12
theorem Bx2.onl {w w' : World} {c c' : Nat → Nat} {b0 : Nat} {t : Sp} {S : Nat → Prop} (h : Bx2 w c b0 t) (ho : Onl (fun k => S (c k)) w w') (hS : ¬ S 12) (hc : ∀ k, k < w.heap.size → c k = 12 → c' k = 12) : Bx2 w' c' b0 t := by
  have hn : ¬ S (c b0) := by rw [h.col]; exact hS
  exact ⟨ho.cell hn h.x0, ho.cell hn h.x2, ho.cell hn h.x3, hc b0 (World.block_lt_of_cell? _ _ h.x0) h.col⟩
def Sx (W w : World) (p r : Nat → Nat) (P R : Nat → List ByteArray) (b : Nat) (s : Bv) (E : List Ent3) (b0 : Nat) (t : Sp) : Prop := ∃ c v u, St W w c p r v u P R b s E ∧ Bx2 w c b0 t
section
variable {W w w' : World} {p r : Nat → Nat} {P R : Nat → List ByteArray} {b : Nat} {s : Bv} {E : List Ent3} {b0 : Nat} {t : Sp} {j : Nat}
theorem Sx.bl (h : Sx W w p r P R b s E b0 t) : Below W.heap.size W w := by
  obtain ⟨c, v, u, h, _⟩ := h
  exact h.bl
theorem Sx.box (h : Sx W w p r P R b s E b0 t) : w.cell? ⟨b0, 0, none⟩ = some (.int .i64 t.k) ∧ w.cell? ⟨b0, 2, none⟩ = some (.int .i64 t.i) ∧ w.cell? ⟨b0, 3, none⟩ = some t.v := by
  obtain ⟨c, v, u, _, h⟩ := h
  exact ⟨h.x0, h.x2, h.x3⟩
theorem Sx.later (h : Sx W w p r P R b s E b0 t) (hb : Below w.heap.size w w') : Sx W w' p r P R b s E b0 t := by
  obtain ⟨c, v, u, h, hx⟩ := h
  exact ⟨_, v, u, h.later hb 12, hx.onl (S := fun _ => False) (Onl.of_below hb) (fun h => h) (fun k hk e => by rw [ext_old hk]; exact e)⟩
theorem Sx.fly {c : Nat → Nat} {v u : Nat → Value} (h : St W w c p r v u P R b s E) (hx : Bx2 w c b0 t) (hj : j < 2) {v' : Value} {ys : List ByteArray} (m : Mv w w' W.heap.size (p j) (v j) v' ys) : Sx W w' p r (upd P j ys) R b s E b0 t :=
  ⟨_, _, u, h.fly hj m, hx.onl (S := fun q => q = j) (m.onl.mono fun k hk => h.cf j hj k hk) (fun e => by omega) (fun k hk e => by rw [ext_old hk]; exact e)⟩
theorem Sx.rfy {c : Nat → Nat} {v u : Nat → Value} (h : St W w c p r v u P R b s E) (hx : Bx2 w c b0 t) (hj : j < 2) {u' : Value} {ys : List ByteArray} (m : Mw w w' W.heap.size (r j) (u j) u' ys) : Sx W w' p r P (upd R j ys) b s E b0 t :=
  ⟨_, v, _, h.rfy hj m, hx.onl (S := fun q => q = 2 + j) (m.onl.mono fun k hk => h.cr j hj k hk) (fun e => by omega) (fun k hk e => by rw [ext_old hk]; exact e)⟩
theorem Sx.rd (h : Sx W w p r P R b s E b0 t) {e : Ent3} (he : e ∈ E) : Rd w e.2.1 e.2.2 := by
  obtain ⟨c, v, u, h, hx⟩ := h
  exact (h.ex e he).1.1.rd
theorem below_not {B g q : Nat} {u : Value} {xs : List ByteArray} {w : World} (h : Rf w B q u xs) (hg : g < B) : ¬ ItF q u g := fun hk => by
  have := (h.its hk).1
  omega

theorem Sx.plen (h : Sx W w p r P R b s E b0 t) (hj : j < 2) : Calls Tryd.prog 9 #[pt (p j)] w fun e w' => e = .returned (.int .i64 ((P j).length : Int)) ∧ w' = w := by
  obtain ⟨c, v, u, h, hx⟩ := h
  exact Fl.len_is (h.fl j hj)
theorem Sx.plook_in (h : Sx W w p r P R b s E b0 t) (hj : j < 2) (i : Nat) (hi : i < (P j).length) : Calls Tryd.prog 10 #[pt (p j), .int .i64 (i : Int)] w fun e w' => e = .returned (lookV (nthT (P j) i) 0) ∧ w' = w := by
  obtain ⟨c, v, u, h, hx⟩ := h
  exact Fl.look_in (h.fl j hj) i hi
theorem Sx.plook_out (h : Sx W w p r P R b s E b0 t) (hj : j < 2) (i : Int) (hi : i < 0 ∨ ((P j).length : Int) ≤ i) : Calls Tryd.prog 10 #[pt (p j), .int .i64 i] w fun e w' => e = .returned (lookV mt 150) ∧ w' = w := by
  obtain ⟨c, v, u, h, hx⟩ := h
  exact Fl.look_out (h.fl j hj) i hi
theorem Sx.ptake_in (h : Sx W w p r P R b s E b0 t) (hj : j < 2) (i : Nat) (hi : i < (P j).length) (hl : (P j).length ≤ 1073741824) : Calls Tryd.prog 11 #[pt (p j), .int .i64 (i : Int)] w fun e w' => e = .returned (lookV (nthT (P j) i) 0) ∧ Hid (Sx W w' p r (upd P j ((P j).eraseIdx i)) R b s E b0 t) := by
  obtain ⟨c, v, u, h, hx⟩ := h
  refine (Fl.take_in (h.fl j hj) i hi).mono ?_
  rintro e w' ⟨rfl, v', m⟩
  exact ⟨rfl, Sx.fly h hx hj m⟩
theorem Sx.ptake_out (h : Sx W w p r P R b s E b0 t) (hj : j < 2) (i : Int) (hi : i < 0 ∨ ((P j).length : Int) ≤ i) : Calls Tryd.prog 11 #[pt (p j), .int .i64 i] w fun e w' => e = .returned (lookV mt 150) ∧ w' = w := by
  obtain ⟨c, v, u, h, hx⟩ := h
  exact Fl.take_out (h.fl j hj) i hi
theorem Sx.pdrop_in (h : Sx W w p r P R b s E b0 t) (hj : j < 2) (i : Nat) (hi : i < (P j).length) (hl : (P j).length ≤ 1073741824) : Calls Tryd.prog 25 #[pt (p j), .int .i64 (i : Int)] w fun e w' => e = .returned (.int .i64 0) ∧ Hid (Sx W w' p r (upd P j ((P j).eraseIdx i)) R b s E b0 t) := by
  obtain ⟨c, v, u, h, hx⟩ := h
  refine (Fl.drop_in (h.fl j hj) i hi).mono ?_
  rintro e w' ⟨rfl, v', m⟩
  exact ⟨rfl, Sx.fly h hx hj m⟩
theorem Sx.pdrop_out (h : Sx W w p r P R b s E b0 t) (hj : j < 2) (i : Int) (hi : i < 0 ∨ ((P j).length : Int) ≤ i) : Calls Tryd.prog 25 #[pt (p j), .int .i64 i] w fun e w' => e = .returned (.int .i64 150) ∧ w' = w := by
  obtain ⟨c, v, u, h, hx⟩ := h
  exact Fl.drop_out (h.fl j hj) i hi
theorem Sx.pcopy_in (h : Sx W w p r P R b s E b0 t) (hj : j < 2) (i : Nat) (hi : i < (P j).length) (hl : (P j).length ≤ 1073741824) : Calls Tryd.prog 27 #[pt (p j), .int .i64 (i : Int)] w fun e w' => e = .returned (.int .i64 0) ∧ Hid (Sx W w' p r (upd P j ((P j) ++ [nthT (P j) i])) R b s E b0 t) := by
  obtain ⟨c, v, u, h, hx⟩ := h
  refine (Fl.copy_in (h.fl j hj) i hi (by omega) h.bl.size).mono ?_
  rintro e w' ⟨rfl, v', m⟩
  exact ⟨rfl, Sx.fly h hx hj m⟩
theorem Sx.pcopy_out (h : Sx W w p r P R b s E b0 t) (hj : j < 2) (i : Int) (hi : i < 0 ∨ ((P j).length : Int) ≤ i) : Calls Tryd.prog 27 #[pt (p j), .int .i64 i] w fun e w' => e = .returned (.int .i64 150) ∧ w' = w := by
  obtain ⟨c, v, u, h, hx⟩ := h
  exact Fl.copy_out (h.fl j hj) i hi
theorem Sx.pall (h : Sx W w p r P R b s E b0 t) (hj : j < 2) (hl : (P j).length ≤ 1073741824) (q : Nat) (hq : 10 ≤ q ∧ q < 20 ∧ q ≠ 12) : Calls Tryd.prog 29 #[pt (p j)] w fun e w' => ∃ a k, e = .returned (.slice a (P j).length k) ∧ Hid (Sx W w' p r P R b s ((q, .slice a (P j).length k, (P j)) :: E) b0 t) := by
  obtain ⟨c, v, u, h, hx⟩ := h
  refine (Fl.all_is (h.fl j hj) (by omega)).mono ?_
  rintro e w' ⟨z, rfl, hr, hb⟩
  obtain ⟨a, k, rfl, _, _⟩ := hr.out.slice
  exact ⟨a, k, rfl, _, v, u, h.add hb.out ⟨hq.1, hq.2.1⟩ hr.out, hx.onl (S := fun _ => False) (Onl.of_below hb.out) (fun h => h) (fun k hk e => by rw [ext_old hk]; exact e)⟩
theorem Sx.pdrain (h : Sx W w p r P R b s E b0 t) (hj : j < 2) (i : Int) (hl : (P j).length ≤ 1073741824) (q : Nat) (hq : 10 ≤ q ∧ q < 20 ∧ q ≠ 12) : Calls Tryd.prog 8 #[pt (p j), .int .i64 i] w fun e w' => ∃ a k, e = .returned (.slice a (P j).length k) ∧ Hid (Sx W w' p r (upd P j []) R b s ((q, .slice a (P j).length k, rot (P j) i) :: E) b0 t) := by
  obtain ⟨c, v, u, h, hx⟩ := h
  refine (Fl.drain_is (h.fl j hj) i (by omega)).mono ?_
  rintro e w' ⟨z, rfl, hr, v', hv', m⟩
  obtain ⟨a, k, e, _, _⟩ := hr.out.slice
  rw [rot_len] at e
  subst e
  refine ⟨a, k, rfl, ext w c q, upd v j v', u, ?_, hx.onl (S := fun q => q = j) (m.onl.mono fun k hk => h.cf j hj k hk) (fun e => by omega) (fun k hk e => by rw [ext_old hk]; exact e)⟩
  have h1 := h.fly hj m
  have hnb : ∀ k, w.heap.size ≤ k → ∀ i, i < 2 → ¬ ItF (p i) (upd v j v' i) k := fun k hk i hi hkk => by
    by_cases e : i = j
    · subst e
      rw [upd_same] at hkk
      rcases hkk with e2 | e2
      · have := (h.fl i hi).lt; omega
      · rw [hv'] at e2; cases e2
    · rw [upd_other _ _ e] at hkk
      have := ((h.fl i hi).its hkk).2
      omega
  exact h1.recol (fun k hk => by rw [ext_old hk, ext_old hk]) m.onl.size hnb (fun k hk i hi hkk => by have := ((h.rf i hi).its hkk).2; omega) (h.bk.onl (S := fun q => q = j) (m.onl.mono fun k hk => h.cf j hj k hk) (fun q h1 h2 h3 => by omega) (fun q h1 h3 => by omega) (fun k hk _ => ext_old hk)) (fun e he => by
    rcases List.mem_cons.1 he with rfl | he
    · exact ⟨⟨hr.out.base h.bl.size, fun g hg => ext_new (hr.out.lt g hg).1⟩, hq.1, hq.2.1⟩
    · obtain ⟨h2, h3, h4⟩ := h.ex e he
      exact ⟨h2.onl (S := fun q => q = j) (m.onl.mono fun k hk => h.cf j hj k hk) (fun e => by omega) (fun k hk e => by rw [ext_old hk]; exact e), h3, h4⟩)

theorem Sx.rlen (h : Sx W w p r P R b s E b0 t) (hj : j < 2) : Calls Tryd.prog 22 #[pt (r j)] w fun e w' => e = .returned (.int .i64 ((R j).length : Int)) ∧ w' = w := by
  obtain ⟨c, v, u, h, hx⟩ := h
  exact Fl.rlen_is (h.rf j hj)
theorem Sx.rlook_in (h : Sx W w p r P R b s E b0 t) (hj : j < 2) (i : Nat) (hi : i < (R j).length) : Calls Tryd.prog 23 #[pt (r j), .int .i64 (i : Int)] w fun e w' => e = .returned (lookV (nthT (R j) i) 0) ∧ w' = w := by
  obtain ⟨c, v, u, h, hx⟩ := h
  exact Fl.rlook_in (h.rf j hj) i hi
theorem Sx.rlook_out (h : Sx W w p r P R b s E b0 t) (hj : j < 2) (i : Int) (hi : i < 0 ∨ ((R j).length : Int) ≤ i) : Calls Tryd.prog 23 #[pt (r j), .int .i64 i] w fun e w' => e = .returned (lookV mt 150) ∧ w' = w := by
  obtain ⟨c, v, u, h, hx⟩ := h
  exact Fl.rlook_out (h.rf j hj) i hi
theorem Sx.rtake_in (h : Sx W w p r P R b s E b0 t) (hj : j < 2) (i : Nat) (hi : i < (R j).length) (hl : (R j).length ≤ 1073741824) : Calls Tryd.prog 24 #[pt (r j), .int .i64 (i : Int)] w fun e w' => e = .returned (lookV (nthT (R j) i) 0) ∧ Hid (Sx W w' p r P (upd R j ((R j).eraseIdx i)) b s E b0 t) := by
  obtain ⟨c, v, u, h, hx⟩ := h
  refine (Fl.rtake_in (h.rf j hj) i hi (by omega) h.bl.size).mono ?_
  rintro e w' ⟨rfl, v', m⟩
  exact ⟨rfl, Sx.rfy h hx hj m⟩
theorem Sx.rtake_out (h : Sx W w p r P R b s E b0 t) (hj : j < 2) (i : Int) (hi : i < 0 ∨ ((R j).length : Int) ≤ i) : Calls Tryd.prog 24 #[pt (r j), .int .i64 i] w fun e w' => e = .returned (lookV mt 150) ∧ w' = w := by
  obtain ⟨c, v, u, h, hx⟩ := h
  exact Fl.rtake_out (h.rf j hj) i hi
theorem Sx.rdrop_in (h : Sx W w p r P R b s E b0 t) (hj : j < 2) (i : Nat) (hi : i < (R j).length) (hl : (R j).length ≤ 1073741824) : Calls Tryd.prog 26 #[pt (r j), .int .i64 (i : Int)] w fun e w' => e = .returned (.int .i64 0) ∧ Hid (Sx W w' p r P (upd R j ((R j).eraseIdx i)) b s E b0 t) := by
  obtain ⟨c, v, u, h, hx⟩ := h
  refine (Fl.rdrop_in (h.rf j hj) i hi (by omega) h.bl.size).mono ?_
  rintro e w' ⟨rfl, v', m⟩
  exact ⟨rfl, Sx.rfy h hx hj m⟩
theorem Sx.rdrop_out (h : Sx W w p r P R b s E b0 t) (hj : j < 2) (i : Int) (hi : i < 0 ∨ ((R j).length : Int) ≤ i) : Calls Tryd.prog 26 #[pt (r j), .int .i64 i] w fun e w' => e = .returned (.int .i64 150) ∧ w' = w := by
  obtain ⟨c, v, u, h, hx⟩ := h
  exact Fl.rdrop_out (h.rf j hj) i hi
theorem Sx.rcopy_in (h : Sx W w p r P R b s E b0 t) (hj : j < 2) (i : Nat) (hi : i < (R j).length) (hl : (R j).length ≤ 1073741824) : Calls Tryd.prog 28 #[pt (r j), .int .i64 (i : Int)] w fun e w' => e = .returned (.int .i64 0) ∧ Hid (Sx W w' p r P (upd R j ((R j) ++ [nthT (R j) i])) b s E b0 t) := by
  obtain ⟨c, v, u, h, hx⟩ := h
  refine (Fl.rcopy_in (h.rf j hj) i hi (by omega) h.bl.size).mono ?_
  rintro e w' ⟨rfl, v', m⟩
  exact ⟨rfl, Sx.rfy h hx hj m⟩
theorem Sx.rcopy_out (h : Sx W w p r P R b s E b0 t) (hj : j < 2) (i : Int) (hi : i < 0 ∨ ((R j).length : Int) ≤ i) : Calls Tryd.prog 28 #[pt (r j), .int .i64 i] w fun e w' => e = .returned (.int .i64 150) ∧ w' = w := by
  obtain ⟨c, v, u, h, hx⟩ := h
  exact Fl.rcopy_out (h.rf j hj) i hi
theorem Sx.rall (h : Sx W w p r P R b s E b0 t) (hj : j < 2) (hl : (R j).length ≤ 1073741824) (q : Nat) (hq : 10 ≤ q ∧ q < 20 ∧ q ≠ 12) : Calls Tryd.prog 30 #[pt (r j)] w fun e w' => ∃ a k, e = .returned (.slice a (R j).length k) ∧ Hid (Sx W w' p r P R b s ((q, .slice a (R j).length k, (R j)) :: E) b0 t) := by
  obtain ⟨c, v, u, h, hx⟩ := h
  refine (Fl.rall_is (h.rf j hj) (by omega)).mono ?_
  rintro e w' ⟨z, rfl, hr, hb⟩
  obtain ⟨a, k, rfl, _, _⟩ := hr.out.slice
  exact ⟨a, k, rfl, _, v, u, h.add hb.out ⟨hq.1, hq.2.1⟩ hr.out, hx.onl (S := fun _ => False) (Onl.of_below hb.out) (fun h => h) (fun k hk e => by rw [ext_old hk]; exact e)⟩
theorem Sx.rdrain (h : Sx W w p r P R b s E b0 t) (hj : j < 2) (i : Int) (hl : (R j).length ≤ 1073741824) : Calls Tryd.prog 33 #[pt (r j), .int .i64 i] w fun e w' => ∃ a k, e = .returned (.slice a (R j).length k) ∧ Hid (Rd w' (.slice a (R j).length k) (rot (R j) i)) ∧ Hid (Sx W w' p r P (upd R j []) b s E b0 t) := by
  obtain ⟨c, v, u, h, hx⟩ := h
  refine (Fl.rdrain_is (h.rf j hj) i (by omega) h.bl.size).mono ?_
  rintro e w' ⟨z, rfl, hr, v', m⟩
  obtain ⟨a, k, e, _, _⟩ := hr.out.slice
  rw [rot_len] at e
  subst e
  exact ⟨a, k, rfl, hr.out.rd, Sx.rfy h hx hj m⟩

theorem Sx.rsend (h : Sx W w p r P R b s E b0 t) (hj : j < 2) (hu : Rd W t.v t.l) (hl : (R j).length ≤ 1073741824) (hy : t.l.length ≤ 1073741824) : Calls Tryd.prog 13 #[pt (r j), t.v] w fun e w' => e = .returned (.tuple #[]) ∧ Hid (Sx W w' p r P (upd R j (R j ++ t.l)) b s E b0 t) := by
  obtain ⟨c, v, u, h, hx⟩ := h
  refine (rsend_is' (h.rf j hj) hu h.bl (by omega)).mono ?_
  rintro e w' ⟨rfl, v', m⟩
  exact ⟨rfl, Sx.rfy h hx hj m⟩
theorem Sx.psend (h : Sx W w p r P R b s E b0 t) (hj : j < 2) (hP : PowTab W) {a : Option Addr} {n k : Nat} (hv : t.v = .slice a n k) (hu : Rd W t.v t.l) (hl : (P j).length ≤ 1073741824) (hy : t.l.length ≤ 1073741824) : Calls Tryd.prog 7 #[pt (p j), t.v] w fun e w' => e = .returned (.bool true) ∧ Hid (Sx W w' p r (upd P j (P j ++ t.l)) R b s E b0 t) := by
  obtain ⟨c, v, u, h, hx⟩ := h
  rw [hv] at hu ⊢
  have hn := hu.len
  refine (sends_is hP (h.fl j hj) h.bl hu hn hl (by omega)).mono ?_
  rintro e w' ⟨rfl, v', m⟩
  exact ⟨rfl, Sx.fly h hx hj m⟩
theorem Sx.keep {q : Nat} {z : Value} {xs : List ByteArray} (h : Sx W w p r P R b s ((q, z, xs) :: E) b0 t) (hq : ∀ e ∈ E, e.1 ≠ q) (hq12 : q ≠ 12) (hl : xs.length ≤ 1073741824) (hF : s.F.length ≤ 1073741824) : Calls Tryd.prog 32 #[pt b, z] w fun e w' => e = .returned (.tuple #[]) ∧ Hid (∃ s', Sx W w' p r P R b s' E b0 t ∧ s'.X = s.X ++ [xs] ∧ s'.Y = s.Y ++ [xs] ∧ s'.N = s.N ∧ s'.L = s.L ∧ s'.F.length = s.F.length + 1) := by
  obtain ⟨c, v, u, h, hx⟩ := h
  obtain ⟨h1, h2, h3⟩ := h.ex (q, z, xs) List.mem_cons_self
  refine (keep_is (q := q) (z := z) (xs := xs) h.bk h1 ⟨h2, h3⟩ h.bl.size (by omega) (by omega)).mono ?_
  rintro e w' ⟨rfl, c', s', hk⟩
  have ho : Onl (fun k => (fun q => q = 4 ∨ q = 5 ∨ q = 8) (c k)) w w' := hk.onl
  have hB : Below W.heap.size W w' := h.bl.trans hk.bl
  refine ⟨rfl, s', ⟨c', v, u, h.book (hk.onl.mono fun k hc => by omega) (fun k hkk hc => hk.col k hkk (by omega)) hk.bk (fun e he => ?_) hB, hx.onl (S := fun q => q = 4 ∨ q = 5 ∨ q = 8) ho (by omega) (fun k hkk e => by rw [hk.col k hkk (by omega)]; exact e)⟩, hk.X, hk.Y, hk.N, hk.L, hk.F⟩
  obtain ⟨h4, h5, h6⟩ := h.ex e (List.mem_cons_of_mem _ he)
  have hne := hq e he
  exact ⟨h4.onl (S := fun q => q = 4 ∨ q = 5 ∨ q = 8) ho (by omega) (fun k hkk e1 => by rw [hk.col k hkk (by omega)]; exact e1), h5, h6⟩
end
end Go.Proofs.YtpnbgdbkiokooaaDoor.Fl
