import Derived.Test.YtpnbgdbkiokooaaDoorFrCall
import Derived.Test.YtpnbgdbkiokooaaDoorFlAll
import Derived.Deep.RegionLaw
/- The document's flight: Send, Take, All, Drain. -/
namespace Go.Proofs.YtpnbgdbkiokooaaDoor.Fl
open Go.RowKit Go.Sort Go.Proofs.YtpnbgdbkiokooaaDoor
set_option linter.unusedVariables false

/-- an append whose run is known, as one step of a region that draws -/
theorem step_append_runF {P : Program} {ops : Array Oper} {o : Oper} {a : Act} {w : World} {K : Act → World → Prop} {Q : Exit → Act → World → Prop} {E : Prop}
    (hg : o.guard = none) (s x : Operand) (dT sT : TypeId) (hop : o.op = Op.call { callee := Callee.builtin Builtin.append, args := #[s, x], argTypes := #[dT, sT] })
    (v u : Value) (hd : a.eval s = v) (hx : a.eval x = u) {v' : Value} {w' : World} (hr : (Builtin.append_ #[dT, sT] o.type #[v, u]).run P w = .ok v' w') (hK : K (a.put o.dst v') w') :
    if Region.wanted o (yielded ops a.tmps) = true then Oper.wp P o a w K Q else E := by
  have hw : Region.wanted o (yielded ops a.tmps) = true := by simp [Region.wanted, hg]
  rw [if_pos hw]
  unfold Oper.wp
  simp [execOp, hop, resolve, invoke, builtin, hd, hx, hr, Result.andThen]
  exact hK
theorem rd_at {w : World} {q : Nat} {t : ByteArray} (hq : w.heap[q]? = some (.cells #[.string t] 9 (0, 0))) : Rd w (.slice (some ⟨q, 0, none⟩) 1 1) [t] := by
  refine ⟨_, _, rfl, fun i u e => ⟨_, _, rfl, ?_⟩⟩
  match i, e with
  | 0, e =>
    simp at e
    subst e
    exact cell_obj hq rfl
  | i + 1, e => simp at e
/-- one text more at the row's end -/
theorem run_one {w wx : World} {B q : Nat} {v : Value} {xs : List ByteArray} (h : RowF w B v xs) (t : ByteArray) (hb : Below w.heap.size w wx) (hq : wx.heap[q]? = some (.cells #[.string t] 9 (0, 0))) (hl : (xs.length + 1) * 64 ≤ 140737488355328) (hB : B ≤ w.heap.size) :
    ∃ a n c w', (Builtin.append_ #[22, 22] 22 #[v, .slice (some ⟨q, 0, none⟩) 1 1]).run Tryd.prog wx = .ok (.slice a n c) w' ∧ n = xs.length + 1 ∧ Hid (RowF w' B (.slice a n c) (xs ++ [t])) ∧ Hid (w.grownBy w' v.ownBlock) ∧ Hid (∀ k, (Value.slice a n c).ownBlock = some k → v.ownBlock = some k ∨ w.heap.size ≤ k) := by
  obtain ⟨i0, hi0, hz0, hz1, hz2⟩ := info_ofF infoStr
  obtain ⟨v', w', hr, hrow, hg, hn⟩ := run_append_F (h.later hb) (rd_at hq) 22 hi0 hz0 hz1 hz2 (by simpa using hl) (Nat.le_trans hB hb.size)
  obtain ⟨a, c, rfl, _, _⟩ := hrow.slice
  refine ⟨a, _, c, w', hr, by simp, hrow, ⟨hg.os.trans hb.os, hg.tape.trans hb.tape, hg.output.trans hb.output, Nat.le_trans hb.size hg.size, fun k hk hne => (hg.block k (Nat.lt_of_lt_of_le hk hb.size) hne).trans (hb.block k hk)⟩, fun k e => (hn k e).imp id (Nat.le_trans hb.size)⟩
theorem grown_below {w w' : World} {B : Nat} {v : Value} {xs : List ByteArray} (h : RowF w B v xs) (hg : w.grownBy w' v.ownBlock) (hB : B ≤ w.heap.size) : Below B w w' := (grown_onl hg).below (fun k e => (h.lt k e).1) hB

set_option maxHeartbeats 4000000 in
theorem rsend_is {w : World} {B p : Nat} {v u : Value} {xs ys : List ByteArray} (h : Rf w B p v xs) (hu : Rd w u ys) (hun : 0 < ys.length → ∀ g, u.ownBlock = some g → ¬ ItF p v g) (hB : B ≤ w.heap.size) (hl : (xs.length + ys.length) * 64 ≤ 140737488355328) :
    Calls Tryd.prog 13 #[pt p, u] w fun e w' => e = .returned (.tuple #[]) ∧ Hid (∃ v', Mw w w' B p v v' (xs ++ ys)) := by
  obtain ⟨a, c, rfl, hrd⟩ := hu
  have HRD := hid hrd
  have HF := hid h
  have HB := hid hB
  have HUN : Hid (0 < ys.length → ∀ g off, a = some ⟨g, off, none⟩ → ¬ ItF p v g) := fun h0 g off e => hun h0 g (by rw [e]; rfl)
  have HL := hid hl
  obtain ⟨n, hn⟩ : ∃ n, n = ys.length := ⟨_, rfl⟩
  have HN := hid hn
  rw [← hn]
  have hn63 : n ≤ 4611686018427387904 := by omega
  clear h hB hl hrd hn hun
  go_enter Tryd.func13, Tryd.ntmps13
  go_wp2_with fail
  go_loopg [4] n (fun g s4 wr => ∃ i : Nat, i ≤ n ∧ g = n - i ∧ s4 = .int .i64 i ∧ Hid (∃ v', Mw w wr B p v v' (xs ++ ys.take i)))
  case atStart => exact ⟨0, by omega, by omega, rfl, v, by rw [List.take_zero, List.append_nil]; exact Mw.refl HF.out (Below.refl _ _)⟩
  case round =>
    obtain ⟨i, hi, rfl, rfl, HI⟩ := hrel
    by_cases hlt : i < n
    · obtain ⟨v', m⟩ := HI.out
      have hlt' : i < ys.length := by rw [← HN.out]; exact hlt
      have hbr : B ≤ wr.heap.size := Nat.le_trans HB.out m.onl.size
      obtain ⟨g, off, rfl, y0⟩ := HRD.out i _ (nthT_get hlt')
      have y0 := m.onl.cell (HUN.out (by omega) g off rfl) y0
      have c0 := m.fl.cell
      have hba : Below wr.heap.size wr (wr.alloc (.cells #[.string (nthT ys i)] 9)) := Below.al (Below.refl _ _) _
      obtain ⟨a1, n1, c1, w1, hr, hn1, hrow, hg, hnw⟩ := run_one (wx := (wr.alloc (.cells #[.string (nthT ys i)] 9)).drew) (q := wr.heap.size) m.fl.row (nthT ys i) (Below.drew hba) (World.alloc_heap_new _ _) (by rw [List.length_append, List.length_take]; have := HL.out; omega) hbr
      have hg' := hg.out
      have ca := cell_later hba c0
      have ya := cell_later hba y0
      have hM := m.trans (m.fl.put hg' hrow.out hnw.out)
      have e3 : (xs ++ ys.take i) ++ [nthT ys i] = xs ++ ys.take (i + 1) := by rw [List.append_assoc, List.take_add_one, nthT_get hlt']; rfl
      rw [e3] at hM
      have HM := hid hM
      have hp : w1.heap[p]? = wr.heap[p]? := hg'.block p m.fl.lt (fun e => (m.fl.apart (m.fl.row.ty p e.symm)) rfl)
      have c1' : w1.cell? ⟨p, 0, none⟩ = some v' := (World.cell?_of_block (a := ⟨p, 0, none⟩) hp).trans c0
      have f1' : w1.frozen? ⟨p, 0, none⟩ = false := (World.frozen?_of_block (a := ⟨p, 0, none⟩) hp).trans (m.fl.loose 0)
      obtain ⟨a', c', hv', _, _⟩ := m.fl.row.slice
      generalize (xs ++ ys.take i).length = q at hv'
      subst hv'
      generalize nthT ys i = t at y0 ya ca hr
      have HR := hid hr
      clear m hrow hg hg' hnw hM e3 hp hr hn1 HI hba
      go_wp2_with fail
      go_region_law (refine step_append_runF rfl (.tmp 15) (.tmp 20) 22 22 rfl (.slice a' q c') (.slice (some ⟨wr.heap.size, 0, none⟩) 1 1) (by simp [Act.eval]) (by simp [Act.eval]) HR.out ?_)
      all_goals (try go_wp2_with fail)
      all_goals go_roundg (n - (i + 1))
      all_goals first | omega | exact ⟨i + 1, by omega, rfl, by go_num, _, HM.out⟩
    · obtain rfl : n = i := by omega
      clear hlt hi
      go_wp2_with fail
      go_end0
      obtain ⟨v', m⟩ := HI.out
      rw [HN.out, List.take_of_length_le (Nat.le_refl _)] at m
      exact ⟨rfl, v', m⟩

/-- a list that was handed over at the outset -/
theorem rsend_is' {W w : World} {p : Nat} {v u : Value} {xs ys : List ByteArray} (h : Rf w W.heap.size p v xs) (hu : Rd W u ys) (hb : Below W.heap.size W w) (hl : (xs.length + ys.length) * 64 ≤ 140737488355328) :
    Calls Tryd.prog 13 #[pt p, u] w fun e w' => e = .returned (.tuple #[]) ∧ Hid (∃ v', Mw w w' W.heap.size p v v' (xs ++ ys)) := by
  refine rsend_is h (hu.later hb) (fun h0 g hg hk => ?_) hb.size hl
  obtain ⟨a, c, rfl, hr⟩ := hu
  obtain ⟨b, o, e, hc⟩ := hr 0 _ (nthT_get h0)
  subst e
  injection hg with hg
  have hg : b = g := hg
  subst hg
  have h1 := World.block_lt_of_cell? _ _ hc
  have h2 := (h.its hk).1
  have h1 : b < W.heap.size := h1
  omega
/-- a row of the call's own, one text more -/
theorem RowF.one {w0 w wx : World} {q : Nat} {v : Value} {xs : List ByteArray} (h : RowF w w0.heap.size v xs) (hw : Below w0.heap.size w0 w) (t : ByteArray) (hb : Below w.heap.size w wx) (hq : wx.heap[q]? = some (.cells #[.string t] 9 (0, 0))) (hl : (xs.length + 1) * 64 ≤ 140737488355328) :
    ∃ a n c w', (Builtin.append_ #[22, 22] 22 #[v, .slice (some ⟨q, 0, none⟩) 1 1]).run Tryd.prog wx = .ok (.slice a n c) w' ∧ Hid (RowF w' w0.heap.size (.slice a n c) (xs ++ [t])) ∧ Hid (Below w0.heap.size w0 w') := by
  obtain ⟨a, n, c, w', hr, _, hrow, hg, _⟩ := run_one h t hb hq hl hw.size
  exact ⟨a, n, c, w', hr, hrow, hw.trans (grown_below h hg.out hw.size)⟩
theorem Rf.at {w wr : World} {B p : Nat} {v : Value} {xs : List ByteArray} (h : Rf w B p v xs) (hb : Below w.heap.size w wr) {i : Nat} (hi : i < xs.length) : ∃ g off c, v = .slice (some ⟨g, off, none⟩) xs.length c ∧ xs.length ≤ c ∧ wr.cell? ⟨p, 0, none⟩ = some v ∧ wr.cell? ⟨g, off + i, none⟩ = some (.string (nthT xs i)) := by
  have h' := h.later hb
  rcases h'.row with ⟨_, e0⟩ | ⟨g, off, c, e, _, hr⟩
  · rw [e0] at hi; simp at hi
  · exact ⟨g, off, c, e, hr.le, h'.cell, hr.at_ i _ (nthT_get hi)⟩
set_option maxHeartbeats 4000000 in
theorem rall_is {w : World} {B p : Nat} {v : Value} {xs : List ByteArray} (h : Rf w B p v xs) (hl : xs.length * 64 ≤ 140737488355328) :
    Calls Tryd.prog 30 #[pt p] w fun e w' => ∃ u, e = .returned u ∧ Hid (RowF w' w.heap.size u xs) ∧ Hid (Below w.heap.size w w') := by
  have HF := hid h
  have HL := hid hl
  obtain ⟨a, c, hv, hc, hm⟩ := h.row.slice
  obtain ⟨n, hn⟩ : ∃ n, n = xs.length := ⟨_, rfl⟩
  have HN := hid hn
  rw [← hn] at hv hc
  unfold maxLen at hm
  have hn63 : n ≤ 9223372036854775807 := by omega
  have HC : Hid (∀ wr, Below w.heap.size w wr → wr.cell? ⟨p, 0, none⟩ = some (.slice a n c)) := fun wr hb => by rw [← hv]; exact (h.later hb).cell
  have HV := hid hv
  clear h hl hn hv
  go_enter Tryd.func30, Tryd.ntmps30
  go_wp2_with fail
  go_loopg [3, 4] n (fun g s3 s4 wr => ∃ i : Nat, i ≤ n ∧ g = n - i ∧ s4 = .int .i64 i ∧ Hid (RowF wr w.heap.size s3 (xs.take i)) ∧ Hid (Below w.heap.size w wr))
  case atStart => exact ⟨0, by omega, by omega, rfl, by rw [List.take_zero]; exact RowF.nil _ _, Below.refl _ _⟩
  case round =>
    obtain ⟨i, hi, rfl, rfl, HR, HB⟩ := hrel
    have c0 := HC.out wr HB.out
    by_cases hlt : i < n
    · have hlt' : i < xs.length := by rw [← HN.out]; exact hlt
      obtain ⟨g, off, c2, e, -, -, y0⟩ := HF.out.at HB.out hlt'
      rw [HV.out] at e
      injection e with e1 e2 e3
      subst e1
      obtain ⟨a1, n1, c1, w1, hr, hrow, hb1⟩ := HR.out.one HB.out (nthT xs i) (wx := wr.alloc (.cells #[.string (nthT xs i)] 9)) (q := wr.heap.size) (Below.al (Below.refl _ _) _) (World.alloc_heap_new _ _) (by rw [List.length_take]; have := HL.out; omega)
      have e4 : xs.take i ++ [nthT xs i] = xs.take (i + 1) := by rw [List.take_add_one, nthT_get hlt']; rfl
      rw [e4] at hrow
      obtain ⟨a3, c3, hv3, _, _⟩ := HR.out.slice
      generalize (xs.take i).length = q3 at hv3
      subst hv3
      generalize nthT xs i = t at y0 hr
      have HRR := hid hr
      clear e2 e3 e4 hr HR
      go_wp2_with (at_builtin; refine Lib.wpList_append_run _ rfl _ _ _ _ rfl _ _ rfl rfl _ _ HRR.out ?_)
      go_roundg (n - (i + 1))
      case measure => omega
      case rel => exact ⟨i + 1, by omega, rfl, by go_num, hrow.out, hb1.out⟩
    · obtain rfl : n = i := by omega
      rw [HN.out, List.take_of_length_le (Nat.le_refl _)] at HR
      obtain ⟨a3, c3, hv3, _, _⟩ := HR.out.slice
      subst hv3
      clear hlt hi
      go_wp2_with fail
      go_ret
      exact ⟨_, rfl, HR.out, HB.out⟩
end Go.Proofs.YtpnbgdbkiokooaaDoor.Fl
