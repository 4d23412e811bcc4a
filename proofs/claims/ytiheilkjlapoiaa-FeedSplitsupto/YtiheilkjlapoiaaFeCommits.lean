import Derived.Test.YtiheilkjlapoiaaFeSorted
/- feed.commits: the iterator over the commits, in turn. -/
namespace Go.Proofs.Ytiheilkjlapoiaa.Lg
open Go.RowKit Go.Sort Go.Shelf Go.Lib Lk
set_option linter.unusedVariables false
attribute [local go_sem] Oper.semAt_some

abbrev COMS1 : Nat := 14
/-- is it a commit? -/
def com (e : En) : Bool := decide (e.oc = 1)
/-- in turn -/
def Srt (U : List En) : Prop := U.Pairwise (fun x y => ltE y x = false)
/-- blocks of entries stay -/
def KeepE (W W' : World) : Prop := ∀ (g : Nat) (cs : Array Value) (z : Nat × Nat), W.heap[g]? = some (Obj.cells cs 60 z) → W'.heap[g]? = W.heap[g]?
theorem keepE_t {A B C : World} (h : KeepE A B) (k : KeepE B C) : KeepE A C := fun g cs z hg => by
  have h1 := h g cs z hg
  rw [k g cs z (h1.trans hg), h1]
theorem keepE_below {A B : World} (h : Below A.heap.size A B) : KeepE A B := fun g cs z hg => h.block g (Array.getElem?_eq_some_iff.1 hg).1
theorem keepE_b {w : World} (W : World) (l : Nat) (o o' : Obj) (_ : w.heap.size ≤ l) (h : W.heap[l]? = some o) (hc : o.isCells = false) (_ : o.isWalk = false) : KeepE W (W.putObj l o') := fun g cs z hg => by
  have hne : g ≠ l := by
    rintro rfl
    rw [hg] at h
    injection h with h
    subst h
    cases hc
  exact (grownBy_putObj' W l o').block g (Array.getElem?_eq_some_iff.1 hg).1 (fun e => hne (by injection e))
theorem owns_keepE {w w' : World} {B n : Nat} {v : Value} {U : List En} (h : OwnL B w v n U) (hk : KeepE w w') : OwnL B w' v n U := by
  obtain ⟨hl, h1 | ⟨g, cap, cur, e1, hB, hh, r⟩⟩ := h
  · exact ⟨hl, .inl h1⟩
  · exact ⟨hl, .inr ⟨g, cap, cur, e1, hB, (hk g cur _ hh).trans hh, r⟩⟩

theorem fm_nth (U : List En) (i o : Nat) (hi : i < U.length) (ho : o < 7) : (U.flatMap ecs)[i * 7 + o]? = (ecs (nthE U i))[o]? := by
  letI : Inhabited En := ⟨En.zero⟩
  rw [fm_get ecs_len U i o hi ho]
  have : U[i]! = nthE U i := by rw [getElem!_pos U i hi, nthE, List.getElem?_eq_getElem hi]; rfl
  rw [this]
set_option maxRecDepth 100000 in
set_option maxHeartbeats 1000000 in
theorem coms1_in (n : Nat) (hn : 1 ≤ n) (l Bm : Nat) (a : Option Addr) (c : Nat) (M : List En) (J Jx : List En → World → Prop)
    (hY : ∀ pre x W, J pre W → pre.length < M.length → YieldAt Fence.wide (n - 1) Try.prog l #[.agg #[.int .u32 x.id.1, .int .u32 x.id.2, .int .u32 x.home, .int .i64 x.oc, .int .u64 x.w, .int .u32 x.l, .int .u32 x.n]] W fun e W' => (e = .returned (.bool true) ∧ J (pre ++ [x]) W' ∧ KeepE W W') ∨ (e = .returned (.bool false) ∧ Jx (pre ++ [x]) W'))
    (W : World) (hJ : AbidesFrom W.heap.size J) (hm : W.cell? ⟨Bm, 0, none⟩ = some (.slice a M.length c)) (hM : RowE W a M) (hml : M.length ≤ 1048576) (h0 : J [] W) :
    CallsIn Fence.wide n Try.prog COMS1 #[.func (.yield l) #[] #[], .pointer (some ⟨Bm, 0, none⟩)] W fun e W' => (∃ v, e = .returned v) ∧ ((∃ U, U.Perm M ∧ Srt U ∧ J (U.filter com) W') ∨ (∃ U i, U.Perm M ∧ Srt U ∧ i < U.length ∧ Jx ((U.take (i + 1)).filter com) W')) := by
  have HY := hid hY
  have HJ := hid hJ
  have H0 := hid h0
  obtain ⟨nn, hnn⟩ : ∃ nn, nn = M.length := ⟨_, rfl⟩
  have HNN := hid hnn
  rw [← hnn] at hm hml
  have VA : Hid (CallsIn Fence.wide (n - 1) Try.prog VALS #[.slice a nn c] W fun e w' => e = .returned (.func (.func VALS1) #[] #[.pointer (some ⟨W.heap.size, 0, none⟩)]) ∧ w' = W.alloc (.cells #[.slice a nn c] 38)) := hid (callsIn_wide.2 (vals_is a nn c W))
  have hb0 : Below W.heap.size W (W.alloc (.cells #[.slice a nn c] 38)) := Below.al (Below.refl _ _) _
  have SF := hid (sortedFunc_is (w := W.alloc (.cells #[.slice a nn c] 38)) (Bm := W.heap.size) (am := a) (cm := c) (M := M) (by rw [← hnn]; exact cell_of_obj (MapKept.heap_alloc _ _).1 rfl) (hM.later hb0) (by omega))
  obtain ⟨wa, hwa⟩ : ∃ wa, wa = W.alloc (.cells #[.slice a nn c] 38) := ⟨_, rfl⟩
  rw [← hwa] at SF VA hb0
  have HB0 := hid hb0
  clear hY hJ h0 hM hb0 hnn hwa
  refine callsIn_of_wp Try.func14 rfl trivial ?_ rfl
  simp only [Try.ntmps14, List.size_toArray, List.length_cons, List.length_nil, Nat.reduceAdd, Nat.reduceSub, Array.replicate_succ, Array.replicate_zero, List.push_toArray, List.append_toArray, List.nil_append, List.cons_append]
  gi_wp2
  refine ⟨trivial, VA.out.mono ?_⟩
  rintro e w1 ⟨rfl, e1⟩
  subst e1
  rename World => wa
  gi_wp2
  refine ⟨trivial, (callsIn_wide.2 SF.out).mono ?_⟩
  rintro e w1 ⟨sa, sn, sc, U, rfl, HUL, HUO, HUP, HUS, HUB⟩
  have hul : sn = nn := by rw [← HUL.out, HUP.out.length_eq, HNN.out]
  have HB1 : Hid (Below W.heap.size W w1) := hid (Below.on HB0.out HUB.out)
  have HJ1 : Hid (J [] w1) := hid (HJ.out [] W w1 none H0.out (below_grown HB1.out) (fun r e => by cases e))
  clear SF VA
  subst hul
  rename World => wq
  have HJ1' := HJ1
  gi_wp2
  gi_loopg [9] sn (fun k s9 wr => ∃ (i : Nat), i ≤ sn ∧ k = sn - i ∧ s9 = .int .i64 i ∧ Hid (J ((U.take i).filter com) wr) ∧ Hid (OwnL wa.heap.size wr (.slice sa sn sc) sn U))
  case atStart => exact ⟨0, by omega, by omega, rfl, hid (by simpa using HJ1.out), HUO⟩
  case round =>
    obtain ⟨i, hi, rfl, rfl, HJs, HO⟩ := hrel
    by_cases hlt : i < sn
    · obtain ⟨g, ea, _, hcs⟩ := own_cells HO.out (by omega)
      obtain ⟨x, hx⟩ : ∃ x, x = nthE U i := ⟨_, rfl⟩
      have x0 : wr.cell? ⟨g, i * 7, none⟩ = some (.int .u32 x.id.1) := hcs (i * 7 + 0) _ (by rw [fm_nth U i 0 (by have := HUL.out; omega) (by decide), ← hx]; rfl)
      have x1 : wr.cell? ⟨g, i * 7 + 1, none⟩ = some (.int .u32 x.id.2) := hcs (i * 7 + 1) _ (by rw [fm_nth U i 1 (by have := HUL.out; omega) (by decide), ← hx]; rfl)
      have x2 : wr.cell? ⟨g, i * 7 + 2, none⟩ = some (.int .u32 x.home) := hcs (i * 7 + 2) _ (by rw [fm_nth U i 2 (by have := HUL.out; omega) (by decide), ← hx]; rfl)
      have x3 : wr.cell? ⟨g, i * 7 + 3, none⟩ = some (.int .i64 x.oc) := hcs (i * 7 + 3) _ (by rw [fm_nth U i 3 (by have := HUL.out; omega) (by decide), ← hx]; rfl)
      have x4 : wr.cell? ⟨g, i * 7 + 4, none⟩ = some (.int .u64 x.w) := hcs (i * 7 + 4) _ (by rw [fm_nth U i 4 (by have := HUL.out; omega) (by decide), ← hx]; rfl)
      have x5 : wr.cell? ⟨g, i * 7 + 5, none⟩ = some (.int .u32 x.l) := hcs (i * 7 + 5) _ (by rw [fm_nth U i 5 (by have := HUL.out; omega) (by decide), ← hx]; rfl)
      have x6 : wr.cell? ⟨g, i * 7 + 6, none⟩ = some (.int .u32 x.n) := hcs (i * 7 + 6) _ (by rw [fm_nth U i 6 (by have := HUL.out; omega) (by decide), ← hx]; rfl)
      subst ea
      have hlu : i < U.length := by have := HUL.out; omega
      have HTX : Hid (U.take (i + 1) = U.take i ++ [x]) := hid (by rw [nthE_take U i hlu, hx])
      have hlp : ((U.take i).filter com).length < M.length := by
        have h1 := List.length_filter_le com (U.take i)
        rw [List.length_take] at h1
        have h2 := HUP.out.length_eq
        omega
      have hJ2 : J ((U.take i).filter com) (wr.alloc (.cells #[.int .u32 x.id.1, .int .u32 x.id.2, .int .u32 x.home, .int .i64 x.oc, .int .u64 x.w, .int .u32 x.l, .int .u32 x.n] 60)) := HJ.out _ wr _ none HJs.out (below_grown (Below.al (Below.refl _ _) _)) (fun r e => by cases e)
      have HO2 : Hid (OwnL wa.heap.size (wr.alloc (.cells #[.int .u32 x.id.1, .int .u32 x.id.2, .int .u32 x.home, .int .i64 x.oc, .int .u64 x.w, .int .u32 x.l, .int .u32 x.n] 60)) (.slice (some ⟨g, 0, none⟩) sn sc) sn U) := hid (World.ownsRow.alloc HO.out _)
      by_cases hoc : x.oc = 1
      · have hq : (x.oc == 1) = true := by simp [hoc]
        have HF : Hid ((U.take (i + 1)).filter com = (U.take i).filter com ++ [x]) := hid (by rw [HTX.out, List.filter_append]; simp [com, hoc])
        obtain ⟨fn, tmps, assign, body, hy, hR⟩ := HY.out _ x _ hJ2 hlp
        have HLT := hid hlu
        clear hcs hx hJ2 hlp hlu hoc
        gi_wp2
        refine hR.mono ?_
        rintro e W3 (⟨rfl, hJ3, hk3⟩ | ⟨rfl, hJx3⟩)
        · have HK3 := hid (owns_keepE HO2.out hk3)
          have HJ3 := hid hJ3
          clear hJ3 hk3
          gi_wp2
          gi_roundg (sn - (i + 1))
          case measure => omega
          case rel => exact ⟨i + 1, by omega, rfl, by go_num, hid (by rw [HF.out]; exact HJ3.out), HK3⟩
        · have HX3 := hid hJx3
          clear hJx3
          gi_wp2
          first | go_end0 | refine bodyPost_ret (results_none rfl _ _ _) rfl ?_
          exact ⟨⟨_, rfl⟩, .inr ⟨U, i, HUP.out, HUS.out, HLT.out, by rw [HF.out]; exact HX3.out⟩⟩
      · have hq : (x.oc == 1) = false := by simpa using hoc
        have HF : Hid ((U.take (i + 1)).filter com = (U.take i).filter com) := hid (by rw [HTX.out, List.filter_append]; simp [com, hoc])
        have HJ3 := hid hJ2
        clear hcs hx hJ2 hlp hlu hoc
        gi_wp2
        repeat (refine ⟨fun f h => (by cases h), ?_⟩; gi_wp2)
        gi_roundg (sn - (i + 1))
        case measure => omega
        case rel => exact ⟨i + 1, by omega, rfl, by go_num, hid (by rw [HF.out]; exact HJ3.out), HO2⟩
    · gi_wp2
      first | go_end0 | refine bodyPost_ret (results_none rfl _ _ _) rfl ?_
      exact ⟨⟨_, rfl⟩, .inl ⟨U, HUP.out, HUS.out, by have := HJs.out; rwa [List.take_of_length_le (by have := HUL.out; omega)] at this⟩⟩
theorem coms_is (a : Option Addr) (n c : Nat) (w : World) : Calls Try.prog 11 #[.slice a n c] w fun e w' => e = .returned (.func (.func COMS1) #[] #[.pointer (some ⟨w.heap.size, 0, none⟩)]) ∧ w' = w.alloc (.cells #[.slice a n c] 38) := by
  go_enter Try.func11, Try.ntmps11
  go_wp2_with fail
  go_ret
  exact ⟨rfl, rfl⟩
theorem coms_stops (n : Nat) (hn : 1 ≤ n) {Bm : Nat} {a : Option Addr} {c : Nat} {M : List En} {w : World} (hm : w.cell? ⟨Bm, 0, none⟩ = some (.slice a M.length c)) (hr : RowE w a M) (hml : M.length ≤ 1048576) :
    SeqStopsK Fence.wide n Try.prog COMS1 #[.pointer (some ⟨Bm, 0, none⟩)] (fun x : En => #[.agg #[.int .u32 x.id.1, .int .u32 x.id.2, .int .u32 x.home, .int .i64 x.oc, .int .u64 x.w, .int .u32 x.l, .int .u32 x.n]]) KeepE (fun xs => ∃ U, U.Perm M ∧ Srt U ∧ xs = U.filter com) (fun pre => ∃ U i, U.Perm M ∧ Srt U ∧ i < U.length ∧ pre = (U.take (i + 1)).filter com) M.length w := fun l J Jx W hW hJ _ hY h0 =>
  (coms1_in n hn l Bm a c M J Jx hY W hJ (cell_later hW hm) (hr.later hW) hml h0).mono fun e W' h => ⟨h.1, h.2.elim (fun ⟨U, h1, h2, h3⟩ => .inl ⟨_, ⟨U, h1, h2, rfl⟩, h3⟩) (fun ⟨U, i, h1, h2, h3, h4⟩ => .inr ⟨_, ⟨U, i, h1, h2, h3, rfl⟩, h4⟩)⟩
end Go.Proofs.Ytiheilkjlapoiaa.Lg
