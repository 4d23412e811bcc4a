import Derived.Test.YtfkiccdjffhhhaaGreatDoorRdStep
/- All lines, taken. -/
namespace Go.Proofs.YtfkiccdjffhhhaaGreatDoor.Rt
open Go.RowKit Go.Sort Go.Stop Go.Extern.Stop
set_option linter.unusedVariables false

def nthB (ls : List ByteArray) (i : Nat) : ByteArray := ls.getD i ⟨#[]⟩
/-- what the lines behind the first k come to is what all come to -/
theorem run_at {ls : List ByteArray} {d0 d : Dr} {k : Nat} (hk : k < ls.length) (h : runL ((ls.drop k).map (·.data.toList)) d false = runL (ls.map (·.data.toList)) d0 false) (h0 : (takeL d (nthB ls k).data.toList).1 = 0) :
    runL ((ls.drop (k + 1)).map (·.data.toList)) (takeL d (nthB ls k).data.toList).2 false = runL (ls.map (·.data.toList)) d0 false := by
  rw [← h, List.drop_eq_getElem_cons hk]
  have e : nthB ls k = ls[k] := by simp [nthB, hk]
  rw [List.map_cons, runL, ← e, if_pos h0]
theorem run_bad {ls : List ByteArray} {d0 d : Dr} {k : Nat} (hk : k < ls.length) (h : runL ((ls.drop k).map (·.data.toList)) d false = runL (ls.map (·.data.toList)) d0 false) (h1 : (takeL d (nthB ls k).data.toList).1 = 1) :
    (runL (ls.map (·.data.toList)) d0 false).1 = 1 := by
  rw [← h, List.drop_eq_getElem_cons hk]
  have e : nthB ls k = ls[k] := by simp [nthB, hk]
  rw [List.map_cons, runL, ← e, if_neg (by rw [h1]; decide), if_neg (by rw [h1]; decide)]
theorem run_end {ls : List ByteArray} {d0 d : Dr} (h : runL ((ls.drop ls.length).map (·.data.toList)) d false = runL (ls.map (·.data.toList)) d0 false) :
    runL (ls.map (·.data.toList)) d0 false = (if d.whole then 0 else 1, d) := by
  rw [← h, List.drop_length, List.map_nil, runL]
  simp
/-- how it ends: well, with the draft; or with a fault of the form -/
def AllP (wg wl : World) (p : Nat) (a : Addr) (r : Nat × Dr) (e : Ending) (w' : World) : Prop := (r.1 = 0 ∧ e = .returned .nilIface ∧ ∃ v, StD wg wl w' p r.2 v) ∨ (r.1 = 1 ∧ ∃ l, e = .returned (fltV l (errV a)) ∧ Below wg.heap.size wg w' ∧ Onl (fun k => k = p) wl w')
/-- behind a line -/
structure Lp (wg wl wr : World) (p k : Nat) (d0 : Dr) (ls : List ByteArray) (d : Dr) (v : Value) : Prop where
  st : StD wg wl wr p d v
  eq : runL ((ls.drop k).map (·.data.toList)) d false = runL (ls.map (·.data.toList)) d0 false
  le : d.sp.length ≤ d0.sp.length + k
set_option maxRecDepth 16000 in
set_option maxHeartbeats 4000000 in
theorem takeAll_is {wg w : World} {p g : Nat} {d0 : Dr} {v0 : Value} {a b : Addr} {ls : List ByteArray} (hg : Gl wg a b) (h : StD wg w w p d0 v0) (hG : ∀ l ∈ ls, Gd l.data.toList ∧ l.size ≤ 1000) (hl : ls.length + d0.sp.length ≤ 1000)
    (hr : ∀ i, i < ls.length → w.cell? ⟨g, i, none⟩ = some (.string (nthB ls i))) (hgp : g ≠ p) :
    Calls Tryz.prog 26 #[.pointer (some ⟨p, 0, none⟩), .slice (some ⟨g, 0, none⟩) ls.length ls.length] w (AllP wg w p a (runL (ls.map (·.data.toList)) d0 false)) := by
  have HG := hid hg
  have HL := hid hG
  have HR := hid hr
  have HS : Hid (Lp wg w w p 0 d0 ls d0 v0) := hid ⟨h, rfl, Nat.le_refl _⟩
  have HN := hid hl
  have hl' : ls.length ≤ 1000 := by omega
  clear hg hG hr h hl
  go_enter Tryz.func26, Tryz.ntmps26
  go_wp2_with fail
  go_loopg [5, 11] ls.length (fun gg s5 s11 wr => ∃ k : Nat, k ≤ ls.length ∧ gg = ls.length - k ∧ s5 = .nilIface ∧ s11 = .int .i64 k ∧ ∃ d v, Hid (Lp wg w wr p k d0 ls d v))
  case atStart => exact ⟨0, by omega, by omega, rfl, rfl, d0, v0, HS⟩
  case round =>
    obtain ⟨k, hk, rfl, rfl, rfl, d, v, HQ⟩ := hrel
    by_cases hlt : k < ls.length
    · have c0 : wr.cell? ⟨g, k, none⟩ = some (.string (nthB ls k)) := HQ.out.st.onl.cell hgp (HR.out k hlt)
      obtain ⟨L, hL⟩ : ∃ L, L = nthB ls k := ⟨_, rfl⟩
      have hmem : nthB ls k ∈ ls := by simp [nthB, hlt]
      have hGL := HL.out _ hmem
      have HT := hid (take_is HG.out HQ.out.st hGL.1 hGL.2 (by have := HQ.out.le; have := HN.out; omega))
      have HZ := hid (run_at hlt HQ.out.eq)
      have HB := hid (run_bad hlt HQ.out.eq)
      have HD := hid (gd_01 (d := d) hGL.1)
      have HE := hid (gd_len (d := d) hGL.1)
      rw [← hL] at c0 HT HZ HB HD HE
      have HX := hid hL
      clear hL hmem hGL
      rcases HD.out with h0 | h1
      · rw [h0] at HT
        have HK := hid h0
        clear h0
        go_wp2_with (go_at_call 37; refine HT.out.mono ?_; rintro e w2 ⟨rfl, v2, hs2⟩; have HS2 := hid hs2; clear hs2; simp only [rOf, if_true])
        go_roundg (ls.length - (k + 1))
        case measure => omega
        case rel => exact ⟨k + 1, by omega, rfl, rfl, by go_num, _, v2, hid ⟨HS2.out, HZ.out HK.out, by have := HE.out; have := HQ.out.le; omega⟩⟩
      · rw [h1] at HT
        have HK := hid (HB.out h1)
        clear h1
        go_wp2_with (first | (go_at_call 37; refine HT.out.mono ?_; rintro e w2 ⟨rfl, v2, hs2⟩; have HS2 := hid hs2; have hE := (HG.out.later hs2.bel).errs; have g1 := hE.limit; have HE2 := hid hE; clear hs2 hE; simp only [rOf, Nat.one_ne_zero, if_false]) | (go_at_call 30; obtain ⟨ca, ta, ha⟩ := HE2.out.rowA; obtain ⟨cb, tb, hB⟩ := HE2.out.rowB; refine (is_flt_other _ a b ca cb ta tb _ HE2.out.ne ha hB).mono ?_; rintro e w3 ⟨rfl, hb3⟩))
        go_ret
        exact .inr ⟨HK.out, _, rfl, Below.on HS2.out.bel hb3, HS2.out.onl.on hb3⟩
    · have hkk : k = ls.length := by omega
      have HE : Hid (runL (ls.map (·.data.toList)) d0 false = (if d.whole then 0 else 1, d)) := hid (run_end (by have := HQ.out.eq; rw [hkk] at this; exact this))
      have HW := hid (whole_is HQ.out.st.box)
      have HG2 := hid (HG.out.later HQ.out.st.bel)
      subst hkk
      cases hw : d.whole
      · rw [hw] at HW HE
        go_wp2_with (go_at_call 38; refine HW.out.mono ?_; rintro e w2 ⟨rfl, hb2⟩; have g0 := (HG2.out.later hb2).errs.form)
        go_ret
        exact .inr ⟨by rw [HE.out]; rfl, _, rfl, Below.on HQ.out.st.bel hb2, HQ.out.st.onl.on hb2⟩
      · rw [hw] at HW HE
        go_wp2_with (go_at_call 38; refine HW.out.mono ?_; rintro e w2 ⟨rfl, hb2⟩)
        go_ret
        exact .inl ⟨by rw [HE.out]; rfl, rfl, v, by rw [HE.out]; exact HQ.out.st.later hb2⟩
end Go.Proofs.YtfkiccdjffhhhaaGreatDoor.Rt
