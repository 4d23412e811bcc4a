import Derived.Test.YtcphmahbhecfaaaXEntries
import Derived.Test.YtcphmahbhecfaaaXDecide
import Derived.Test.YtcphmahbhecfaaaOpenRows
/- What of the ledger's texts LedgerLists asks (written by mk_zbase.py). -/
namespace Go.Proofs.Ytcphmahbhecfaaa.Lg
open Go.RowKit Go.Sort Go.Shelf Go.Lib Lk
set_option linter.unusedVariables false

theorem new_is (w : World) : Calls Try.prog 4 #[] w fun e w' => e = .returned (.pointer (some ⟨w.heap.size, 0, none⟩)) ∧ Lg w' w.heap.size none [] ∧ Below w.heap.size w w' := by
  have HT : Hid (Lg (w.alloc (.cells #[.map none] 50)) w.heap.size none []) := ⟨⟨_, (MapKept.heap_alloc _ _).1, rfl⟩, rfl⟩
  go_enter Try.func4, Try.ntmps4
  go_wp2_with fail
  go_ret
  exact ⟨rfl, HT.out, Below.al (Below.refl _ _) _⟩
def nthE (xs : List En) (i : Nat) : En := (xs[i]?).getD En.zero
theorem RowC.later {α : Type} {z : α} {cs : α → List Value} {n : Nat} {w w' : World} {a : Option Addr} {xs : List α} (h : RowC z cs n w a xs) (hb : Below w.heap.size w w') : RowC z cs n w' a xs := fun i hi => by
  obtain ⟨b, off, e, hc⟩ := h i hi
  exact ⟨b, off, e, fun o u ho => cell_later hb (hc o u ho)⟩
theorem nthE_take {xs : List En} {k : Nat} (h : k < xs.length) : xs.take (k + 1) = xs.take k ++ [nthE xs k] := by
  rw [List.take_succ_eq_append_getElem h]; simp [nthE, h]
def ledL (xs : List En) : List En := xs.foldl decM []
theorem ledL_snoc (xs : List En) (y : En) : ledL (xs ++ [y]) = decM (ledL xs) y := by simp [ledL]
theorem nthE_mem {U : List En} {i : Nat} (h : i < U.length) : nthE U i ∈ U := by
  have : nthE U i = U[i] := by simp [nthE, h]
  rw [this]; exact List.getElem_mem h
theorem ids_nodup {U M : List En} (hp : U.Perm M) (hn : (M.map En.id).Nodup) : (U.map En.id).Nodup := (hp.map En.id).nodup_iff.2 hn
theorem nthE_pair {U : List En} {R : En → En → Prop} (h : U.Pairwise R) {i j : Nat} (hij : i < j) (hj : j < U.length) : R (nthE U i) (nthE U j) := by
  have hi : i < U.length := by omega
  have := List.pairwise_iff_getElem.1 h i j hi hj hij
  have e1 : nthE U i = U[i] := by simp [nthE, hi]
  have e2 : nthE U j = U[j] := by simp [nthE, hj]
  rw [e1, e2]; exact this
theorem ltI_total {i j : Ix} (h : ltI j i = false) (hne : i ≠ j) : ltI i j = true := by
  obtain ⟨a, b⟩ := i
  obtain ⟨c, d⟩ := j
  simp only [ltI, Bool.or_eq_true, Bool.and_eq_true, Bool.or_eq_false_iff, Bool.and_eq_false_iff, decide_eq_true_eq, decide_eq_false_iff_not] at *
  by_cases e1 : a = c
  · by_cases e2 : b = d
    · exact absurd (by rw [e1, e2]) hne
    · omega
  · omega
/-- entries that are told by transaction rise strictly -/
theorem rise_ids {U : List En} (hn : (U.map En.id).Nodup) (hs : U.Pairwise (fun x y => ltI y.id x.id = false)) : ∀ j, j + 1 < U.length → ltI (nthE U j).id (nthE U (j + 1)).id = true := fun j hj => by
  refine ltI_total (nthE_pair hs (by omega) hj) ?_
  rw [List.Nodup, List.pairwise_map] at hn
  exact nthE_pair hn (by omega) hj
theorem decM_length (M : List En) (e : En) : (decM M e).length ≤ M.length + 1 := by
  unfold decM
  split
  · cases outM M e.id <;> simp
  · omega
theorem ledL_length (xs : List En) : (ledL xs).length ≤ xs.length := by
  have : ∀ (xs M : List En), (xs.foldl decM M).length ≤ M.length + xs.length := by
    intro xs
    induction xs with
    | nil => intro M; simp
    | cons y xs ih =>
      intro M
      rw [List.foldl_cons, List.length_cons]
      have h1 := ih (decM M y)
      have h2 := decM_length M y
      omega
  have := this xs []
  simpa [ledL] using this
theorem ledL_nodup (xs : List En) : ((ledL xs).map En.id).Nodup := by
  have : ∀ (xs M : List En), (M.map En.id).Nodup → ((xs.foldl decM M).map En.id).Nodup := by
    intro xs
    induction xs with
    | nil => intro M h; exact h
    | cons y xs ih => intro M h; exact ih _ (decM_nodup h y)
  exact this xs [] (by simp)
theorem decM_mem {M : List En} {e x : En} (h : x ∈ M) : x ∈ decM M e := by
  unfold decM
  split
  · cases outM M e.id with
    | none => exact List.mem_append_left _ h
    | some f => exact h
  · exact h
theorem led_mem {xs : List En} {y x : En} (h : x ∈ ledL xs) (zs : List En) : x ∈ ledL (xs ++ zs) := by
  have : ∀ (zs M : List En), x ∈ M → x ∈ zs.foldl decM M := by
    intro zs
    induction zs with
    | nil => intro M h; exact h
    | cons y zs ih => intro M h; exact ih _ (decM_mem h)
  rw [ledL, List.foldl_append]
  exact this zs _ h
theorem led_first (e : En) (zs : List En) (hm : mayB e = true) : e ∈ ledL (e :: zs) := by
  have h1 : e ∈ ledL [e] := by simp [ledL, decM, hm, outM]
  exact led_mem (y := e) h1 zs
theorem sort_uniq {lt : En → En → Bool} : ∀ {U V : List En}, U.Perm V → U.Pairwise (fun x y => lt y x = false) → V.Pairwise (fun x y => lt y x = false) → (∀ x ∈ U, ∀ y ∈ U, lt x y = false → lt y x = false → x = y) → U = V
  | [], V, hp, _, _, _ => by rw [hp.symm.eq_nil]
  | x :: U, [], hp, _, _, _ => by have := hp.length_eq; simp at this
  | x :: U, y :: V, hp, hU, hV, ht => by
    rw [List.pairwise_cons] at hU hV
    have hyU : y ∈ x :: U := hp.mem_iff.2 (by simp)
    have hxV : x ∈ y :: V := hp.mem_iff.1 (by simp)
    have e : x = y := by
      rcases List.mem_cons.1 hxV with e | e
      · exact e
      · rcases List.mem_cons.1 hyU with e' | e'
        · exact e'.symm
        · exact ht x (by simp) y hyU (hV.1 x e) (hU.1 y e')
    subst e
    refine congrArg _ (sort_uniq (List.Perm.cons_inv hp) hU.2 hV.2 fun a ha b hb => ht a (by simp [ha]) b (by simp [hb]))
theorem ltI_eq {i j : Ix} (h1 : ltI i j = false) (h2 : ltI j i = false) : i = j := by
  obtain ⟨a, b⟩ := i
  obtain ⟨c, d⟩ := j
  simp only [ltI, Bool.or_eq_false_iff, Bool.and_eq_false_iff, decide_eq_false_iff_not] at h1 h2
  have e1 : a = c := by omega
  have e2 : b = d := by omega
  rw [e1, e2]
theorem ents_same {U V M : List En} (hU : U.Perm M) (hV : V.Perm M) (hn : (M.map En.id).Nodup) (sU : U.Pairwise (fun x y => ltI y.id x.id = false)) (sV : V.Pairwise (fun x y => ltI y.id x.id = false)) : U = V :=
  sort_uniq (lt := fun x y => ltI x.id y.id) (hU.trans hV.symm) sU sV fun x hx y hy h1 h2 => nodup_inj (ids_nodup hU hn) hx hy (ltI_eq h1 h2)
theorem coms_same {U V M : List En} (hU : U.Perm M) (hV : V.Perm M) (hn : (M.map En.id).Nodup) (sU : U.Pairwise (fun x y => ltE y x = false)) (sV : V.Pairwise (fun x y => ltE y x = false)) : U = V := by
  refine sort_uniq (lt := ltE) (hU.trans hV.symm) sU sV fun x hx y hy h1 h2 => nodup_inj (ids_nodup hU hn) hx hy (ltI_eq ?_ ?_)
  · by_cases h : ltI x.id y.id = true
    · exfalso
      rw [ltE_iff_false] at h1 h2
      simp only [ltI, Bool.or_eq_true, Bool.and_eq_true, decide_eq_true_eq] at h
      omega
    · simpa using h
  · by_cases h : ltI y.id x.id = true
    · exfalso
      rw [ltE_iff_false] at h1 h2
      simp only [ltI, Bool.or_eq_true, Bool.and_eq_true, decide_eq_true_eq] at h
      omega
    · simpa using h
/-- a row of one's own, read -/
theorem own_row {B n c : Nat} {w : World} {a : Option Addr} {U : List En} (h : OwnL B w (.slice a n c) n U) (hn : U.length = n) : RowC En.zero ecs 7 w a U := fun i hi => by
  letI : Inhabited En := ⟨En.zero⟩
  obtain ⟨g, rfl, _, hc⟩ := own_cells h (by omega)
  refine ⟨g, 0, rfl, fun o u ho => hc _ _ ?_⟩
  have hol : o < 7 := by have := (List.getElem?_eq_some_iff.1 ho).1; simpa using this
  rw [Nat.zero_add, fm_get (k := 7) ecs_len U i o hi hol, ← ho]
  have : U[i]! = (U[i]?).getD En.zero := by simp [getElem!_pos, hi]
  rw [this]
theorem earlier_is {i j : Ix} {u : Bool} (hu : ltI i j = u) (w : World) : Calls Try.prog 18 #[.agg #[.int .u32 i.1, .int .u32 i.2], .agg #[.int .u32 j.1, .int .u32 j.2]] w fun e w' => e = .returned (.bool u) ∧ Below w.heap.size w w' := by
  obtain ⟨ic, is⟩ := i
  obtain ⟨jc, js⟩ := j
  subst hu
  by_cases h : ic = jc
  · subst h
    have h' : (ic != ic) = false := by simp
    go_enter Try.func18, Try.ntmps18
    go_wp2_with fail
    go_ret
    exact ⟨by simp [ltI], by (repeat (first | exact Below.refl _ _ | assumption | refine Below.drew ?_ | refine Below.al ?_ _ | refine Below.setCell ?_ (by first | exact Nat.le_refl _ | (simp; omega) | (simp; done)) _ | refine Below.on ?_ (by assumption)))⟩
  · have h' : (ic != jc) = true := by simpa using h
    go_enter Try.func18, Try.ntmps18
    go_wp2_with fail
    go_ret
    exact ⟨by simp [ltI, h], by (repeat (first | exact Below.refl _ _ | assumption | refine Below.drew ?_ | refine Below.al ?_ _ | refine Below.setCell ?_ (by first | exact Nat.le_refl _ | (simp; omega) | (simp; done)) _ | refine Below.on ?_ (by assumption)))⟩
set_option maxHeartbeats 1000000 in
theorem sorted_is {w : World} {a : Option Addr} {n c : Nat} {U : List En} (hrow : RowC En.zero ecs 7 w a U) (hn : U.length = n) (hl : n ≤ 4611686018427387904) (hs : ∀ j, j + 1 < n → ltI (nthE U j).id (nthE U (j + 1)).id = true) :
    Calls Try.prog 9 #[.slice a n c] w fun r w' => r = .returned (.bool true) ∧ Below w.heap.size w w' := by
  have HR := hid hrow
  have HLN := hid hn
  have HS := hid hs
  clear hrow hn hs
  go_enter Try.func9, Try.ntmps9
  go_wp2_with fail
  go_loopg [3] n (fun g s3 wr => ∃ k : Nat, 1 ≤ k ∧ (k ≤ n ∨ k = 1) ∧ g = n + 1 - k ∧ s3 = .int .i64 k ∧ Hid (Below w.heap.size w wr))
  case atStart => exact ⟨1, by omega, by omega, by omega, rfl, Below.refl _ _⟩
  case round =>
    obtain ⟨k, hk1, hkn, rfl, rfl, HB⟩ := hrel
    by_cases hlt : k < n
    · obtain ⟨j, hjk⟩ : ∃ j, k = j + 1 := ⟨k - 1, by omega⟩
      obtain ⟨b, off, eb, hc⟩ := RowC.later HR.out HB.out j (by rw [HLN.out]; omega)
      obtain ⟨b', off', eb', hc'⟩ := RowC.later HR.out HB.out k (by rw [HLN.out]; omega)
      subst eb
      injection eb' with eb'
      injection eb' with e1 e2 _
      subst e1 e2
      obtain ⟨x, hxe⟩ : ∃ x, x = nthE U j := ⟨_, rfl⟩
      obtain ⟨y, hye⟩ : ∃ y, y = nthE U k := ⟨_, rfl⟩
      have hxe' : (U[j]?).getD En.zero = x := hxe.symm
      have hye' : (U[k]?).getD En.zero = y := hye.symm
      rw [hxe'] at hc
      rw [hye'] at hc'
      have hxy : ltI x.id y.id = true := by rw [hxe, hye, hjk]; exact HS.out j (by omega)
      have EA := hid (fun W => earlier_is hxy W)
      have hwr : IntKind.i64.wrap ((k : Int) - 1) = (j : Int) := by rw [IntKind.wrap_i64]; omega
      have hk2 : (k : Int) < (n : Int) := by omega
      have hj2 : (j : Int) < (n : Int) := by omega
      have hj0 : (0 : Int) ≤ (j : Int) := by omega
      have s0 := cell_regrown (show wr.cell? ⟨b, off + j * 7, none⟩ = some (.int .u32 x.id.1) from hc 0 _ rfl)
      have s1 := cell_regrown (show wr.cell? ⟨b, off + j * 7 + 1, none⟩ = some (.int .u32 x.id.2) from hc 1 _ rfl)
      have t0 := cell_regrown (show wr.cell? ⟨b, off + k * 7, none⟩ = some (.int .u32 y.id.1) from hc' 0 _ rfl)
      have t1 := cell_regrown (show wr.cell? ⟨b, off + k * 7 + 1, none⟩ = some (.int .u32 y.id.2) from hc' 1 _ rfl)
      clear hc hc' hxe hye hxe' hye' hxy hjk
      go_wp2_with fail
      refine wp_region_quiet_below (by kernel_rfl) (by kernel_rfl) ?_
      repeat (go_big_quiet_step (((go_at_call 18; exact Calls.regrown_of (EA.out _)))))
      refine wpQuiet_nil ?_
      intro wn hwn
      replace hwn := below_of_regrown hwn
      go_wp2_with fail
      go_roundg (n + 1 - (k + 1))
      case measure => omega
      case rel => exact ⟨k + 1, by omega, by omega, rfl, by go_num, Below.on HB.out hwn⟩
    · have hk2 : ¬ (k : Int) < (n : Int) := by omega
      go_wp2_with fail
      go_ret
      exact ⟨rfl, HB.out⟩
set_option maxHeartbeats 1000000 in
/-- sameEntries, at lists that hold the same -/
theorem sameEntries_is {w : World} {a a' : Option Addr} {n c c' : Nat} {X : List En} (h1 : RowC En.zero ecs 7 w a X) (h2 : RowC En.zero ecs 7 w a' X) (hn : X.length = n) (hl : n ≤ 9223372036854775807) :
    Calls Try.prog 15 #[.slice a n c, .slice a' n c'] w fun r w' => r = .returned (.bool true) ∧ Below w.heap.size w w' := by
  have H1 := hid h1
  have H2 := hid h2
  have HLN := hid hn
  have h0 : ((n : Int) != (n : Int)) = false := by simp
  clear h1 h2 hn
  go_enter Try.func15, Try.ntmps15
  go_wp2_with fail
  go_loopg [13] n (fun g s13 wr => ∃ k : Nat, k ≤ n ∧ g = n - k ∧ s13 = .int .i64 k ∧ Hid (Below w.heap.size w wr))
  case atStart => exact ⟨0, by omega, by omega, rfl, Below.refl _ _⟩
  case round =>
    obtain ⟨k, hk, rfl, rfl, HB⟩ := hrel
    by_cases hlt : k < n
    · obtain ⟨b, off, eb, hc⟩ := RowC.later H1.out HB.out k (by rw [HLN.out]; exact hlt)
      obtain ⟨b', off', eb', hc'⟩ := RowC.later H2.out HB.out k (by rw [HLN.out]; exact hlt)
      subst eb eb'
      have hk1 : (k : Int) < (n : Int) := by omega
      obtain ⟨x, hxe⟩ : ∃ x, x = (X[k]?).getD En.zero := ⟨_, rfl⟩
      rw [← hxe] at hc hc'
      have qq : ∀ W, (binOp .neq 36 (.agg #[.int .u32 x.id.1, .int .u32 x.id.2, .int .u32 x.home, .int .i64 x.oc, .int .u64 x.w, .int .u32 x.l, .int .u32 x.n]) (.agg #[.int .u32 x.id.1, .int .u32 x.id.2, .int .u32 x.home, .int .i64 x.oc, .int .u64 x.w, .int .u32 x.l, .int .u32 x.n])).run Try.prog W = .ok (.bool false) W := fun W => by have := run_neE x x W; rw [sameE_self] at this; exact this
      have s0 := cell_regrown (show wr.cell? ⟨b, off + k * 7, none⟩ = some (.int .u32 x.id.1) from hc 0 _ rfl)
      have s1 := cell_regrown (show wr.cell? ⟨b, off + k * 7 + 1, none⟩ = some (.int .u32 x.id.2) from hc 1 _ rfl)
      have s2 := cell_regrown (show wr.cell? ⟨b, off + k * 7 + 2, none⟩ = some (.int .u32 x.home) from hc 2 _ rfl)
      have s3 := cell_regrown (show wr.cell? ⟨b, off + k * 7 + 3, none⟩ = some (.int .i64 x.oc) from hc 3 _ rfl)
      have s4 := cell_regrown (show wr.cell? ⟨b, off + k * 7 + 4, none⟩ = some (.int .u64 x.w) from hc 4 _ rfl)
      have s5 := cell_regrown (show wr.cell? ⟨b, off + k * 7 + 5, none⟩ = some (.int .u32 x.l) from hc 5 _ rfl)
      have s6 := cell_regrown (show wr.cell? ⟨b, off + k * 7 + 6, none⟩ = some (.int .u32 x.n) from hc 6 _ rfl)
      have t0 := cell_regrown (show wr.cell? ⟨b', off' + k * 7, none⟩ = some (.int .u32 x.id.1) from hc' 0 _ rfl)
      have t1 := cell_regrown (show wr.cell? ⟨b', off' + k * 7 + 1, none⟩ = some (.int .u32 x.id.2) from hc' 1 _ rfl)
      have t2 := cell_regrown (show wr.cell? ⟨b', off' + k * 7 + 2, none⟩ = some (.int .u32 x.home) from hc' 2 _ rfl)
      have t3 := cell_regrown (show wr.cell? ⟨b', off' + k * 7 + 3, none⟩ = some (.int .i64 x.oc) from hc' 3 _ rfl)
      have t4 := cell_regrown (show wr.cell? ⟨b', off' + k * 7 + 4, none⟩ = some (.int .u64 x.w) from hc' 4 _ rfl)
      have t5 := cell_regrown (show wr.cell? ⟨b', off' + k * 7 + 5, none⟩ = some (.int .u32 x.l) from hc' 5 _ rfl)
      have t6 := cell_regrown (show wr.cell? ⟨b', off' + k * 7 + 6, none⟩ = some (.int .u32 x.n) from hc' 6 _ rfl)
      clear hc hc' hxe
      go_wp2_with fail
      refine wp_region_quiet_below (by kernel_rfl) (by kernel_rfl) ?_
      repeat (go_big_quiet_step (fail))
      refine wpQuiet_nil ?_
      intro wn hwn
      replace hwn := below_of_regrown hwn
      go_wp2_with fail
      go_roundg (n - (k + 1))
      case measure => omega
      case rel => exact ⟨k + 1, by omega, rfl, by go_num, Below.on HB.out hwn⟩
    · obtain rfl : k = n := by omega
      go_wp2_with fail
      go_ret
      exact ⟨rfl, HB.out⟩
end Go.Proofs.Ytcphmahbhecfaaa.Lg
