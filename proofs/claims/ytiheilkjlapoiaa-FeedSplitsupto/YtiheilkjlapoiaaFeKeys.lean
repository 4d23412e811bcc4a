import Derived.Test.YtiheilkjlapoiaaFeSeq
import Derived.Test.YtiheilkjlapoiaaFeEv
import Derived.Test.YtiheilkjlapoiaaShelf
/- slices.Sorted(maps.Keys(m)) at the map of writes. -/
namespace Go.Proofs.Ytiheilkjlapoiaa.Lg
open Go.RowKit Go.Sort Go.Shelf Go.Lib Lk
set_option linter.unusedVariables false
attribute [local go_sem] Oper.semAt_some

abbrev KEYS : Nat := 27
abbrev KEYS1 : Nat := 34
abbrev kb (p : ByteArray × Wr) : List UInt8 := p.1.data.toList
theorem enc_kb (k : ByteArray) : encStr k.data.toList = .string k := by
  cases k; simp [encStr]
theorem rngW_walks {m : Option Nat} {r : Nat} {w w' : World} {ps todo : List (ByteArray × Wr)} (h : RngO Value.string wv w m r ps todo) (hk : KeepsWalks w w') : RngO Value.string wv w' m r ps todo := by
  refine h.same (fun b e => ?_) ?_
  · subst e
    obtain ⟨es, clock, _, _, _, hb, _⟩ := h.at
    rw [hb]; exact hk.same b _ hb rfl
  · cases m with
    | none => rw [h.2.2]; exact hk.same r _ h.2.2 rfl
    | some b =>
      obtain ⟨es, clock, since, seen, c0, _, _, _, _, hr, _⟩ := h.at
      rw [hr]; exact hk.same r _ hr rfl
theorem rngW_iter {m : Option Nat} {r : Nat} {w : World} {ps todo : List (ByteArray × Wr)} (h : RngO Value.string wv w m r ps todo) : ∃ o : Obj, w.heap[r]? = some o ∧ o.isWalk = true := by
  cases m with
  | none => exact ⟨_, h.2.2, rfl⟩
  | some b =>
    obtain ⟨es, clock, since, seen, c0, _, _, _, _, hr, _⟩ := h.at
    exact ⟨_, hr, rfl⟩
theorem onlW_grown {w w' : World} {r : Nat} (h : Onl (fun b => b = r) w w') : w.grownBy w' (some r) := ⟨h.os, h.tape, h.output, h.size, fun k hk hn => h.block k hk (fun e => hn (by rw [e]))⟩

set_option maxRecDepth 100000 in
set_option maxHeartbeats 1000000 in
theorem keysW_in (n : Nat) (hn : 1 ≤ n) (l Bm : Nat) (m : Option Nat) (M : List (ByteArray × Wr)) (J : List (List UInt8) → World → Prop)
    (hY : ∀ pre x W, J pre W → pre.length < M.length → YieldAt Fence.wide (n - 1) Try.prog l #[encStr x] W fun e W' => e = .returned (.bool true) ∧ J (pre ++ [x]) W' ∧ KeepsWalks W W')
    (W : World) (hJ : AbidesFrom W.heap.size J) (hm : W.cell? ⟨Bm, 0, none⟩ = some (.map m)) (hM : MapO Value.string wv W m M) (h0 : J [] W) :
    CallsIn Fence.wide n Try.prog KEYS1 #[.func (.yield l) #[] #[], .pointer (some ⟨Bm, 0, none⟩)] W fun e W' => (∃ v, e = .returned v) ∧ ∃ xs, xs.Perm (M.map kb) ∧ J xs W' := by
  obtain ⟨o, hr, R0⟩ := hM.range (P := Try.prog) Try.underlying77
  have RR := hid R0
  have HY := hid hY
  have HJ := hid hJ
  have H0 := hid h0
  clear R0 hY hJ h0 hM
  refine callsIn_of_wp Try.func34 rfl trivial ?_ rfl
  simp only [Try.ntmps34, List.size_toArray, List.length_cons, List.length_nil, Nat.reduceAdd, Nat.reduceSub, Array.replicate_succ, Array.replicate_zero, List.push_toArray, List.append_toArray, List.nil_append, List.cons_append]
  gi_wp2
  gi_loopg [3] M.length (fun g s3 wr => ∃ (todo : List (ByteArray × Wr)) (xs : List (List UInt8)), g = todo.length ∧ Hid ((xs ++ todo.map kb).Perm (M.map kb)) ∧ Hid (RngO Value.string wv wr m W.heap.size M todo) ∧ Hid (J xs wr))
  case atStart =>
    exact ⟨M, [], by simp, hid (by simp), RR, HJ.out [] W _ none H0.out (below_grown (Below.al (Below.refl _ _) _)) (fun r e => by cases e)⟩
  case round =>
    obtain ⟨todo, xs, rfl, HP, HG, HJs⟩ := hrel
    clear hr RR
    rcases HG.out.next Try.prog with ⟨rfl, hn'⟩ | ⟨⟨j, v⟩, todo', w1, hpm, hpI, hn', R1, hen, hon, hsz⟩
    · gi_wp2
      first | go_end0 | refine bodyPost_ret (results_none rfl _ _ _) rfl ?_
      exact ⟨⟨_, rfl⟩, xs, by simpa using HP.out, HJs.out⟩
    · have hpl : todo'.length + 1 = todo.length := by have := hpm.length_eq; simpa using this.symm
      have hJ1 : J xs w1 := HJ.out xs wr w1 (some W.heap.size) HJs.out (onlW_grown hon) (fun r e => by cases e; exact ⟨Nat.le_refl _, rngW_iter HG.out⟩)
      have hlt : xs.length < M.length := by
        have := HP.out.length_eq
        simp at this
        omega
      have hR0 := HY.out xs (kb (j, v)) w1 hJ1 hlt
      rw [show encStr (kb (j, v)) = .string j from enc_kb j] at hR0
      obtain ⟨fn, tmps, assign, body, hy, hR⟩ := hR0
      have HP2 : Hid ((xs ++ [kb (j, v)] ++ todo'.map kb).Perm (M.map kb)) := by
        refine hid (List.Perm.trans ?_ HP.out)
        rw [List.append_assoc]
        refine List.Perm.append_left _ ?_
        have := (hpm.map kb).symm
        simpa using this
      have HR2 : Hid (RngO Value.string wv w1 m W.heap.size M todo') := R1
      clear R1 hpm hpI hon hJ1 HG HJs hsz
      gi_wp2
      refine hR.mono ?_
      rintro e W3 ⟨rfl, hJ3, hk3⟩
      have HK3 := hid (rngW_walks HR2.out hk3)
      have HJ3 := hid hJ3
      clear hJ3 hk3
      gi_wp2
      gi_roundg todo'.length
      case measure => omega
      case rel => exact ⟨todo', xs ++ [kb (j, v)], rfl, HP2, HK3, HJ3⟩
theorem keysW_gives (n : Nat) (hn : 1 ≤ n) {Bm : Nat} {m : Option Nat} {M : List (ByteArray × Wr)} {w : World} (hm : w.cell? ⟨Bm, 0, none⟩ = some (.map m)) (hM : MapO Value.string wv w m M) :
    SeqGives Fence.wide n Try.prog KEYS1 #[.pointer (some ⟨Bm, 0, none⟩)] encStr (fun ss => ss.Perm (M.map kb)) M.length w := fun l J W hW hJ hY h0 =>
  keysW_in n hn l Bm m M J hY W hJ (cell_later hW hm) (hM.later hW) h0
theorem keysW_is (m : Option Nat) (w : World) : Calls Try.prog KEYS #[.map m] w fun e w' => e = .returned (.func (.func KEYS1) #[] #[.pointer (some ⟨w.heap.size, 0, none⟩)]) ∧ w' = w.alloc (.cells #[.map m] 77) := by
  go_enter Try.func27, Try.ntmps27
  go_wp2_with fail
  go_ret
  exact ⟨rfl, rfl⟩
theorem sortsS (m : Nat) : AnyZ.SortsIn Try.prog Try.sortedS_ren Fence.wide m :=
  ⟨fun blk off cap ss W hH hblk hsz => callsIn_wide.2 (AnyM.slices_Sort_string Try.sortS blk off cap ss W hH hblk hsz),
   fun p cap W => callsIn_wide.2 (AnyM.slices_Sort_string_none Try.sortS p cap W)⟩
abbrev leL (x y : List UInt8) : Bool := decide (x ≤ y)
theorem sortedW_is {Bm : Nat} {m : Option Nat} {M : List (ByteArray × Wr)} {w : World} (hm : w.cell? ⟨Bm, 0, none⟩ = some (.map m)) (hM : MapO Value.string wv w m M) (hlen : M.length ≤ 1152921504606) :
    Calls Try.prog 26 #[.func (.func KEYS1) #[] #[.pointer (some ⟨Bm, 0, none⟩)]] w fun e w' => ∃ (v : Value) (ss : List (List UInt8)), e = .returned v ∧ ss.Perm (M.map kb) ∧
      w'.ownsRow w.heap.size 9 1 v ss.length ((ss.mergeSort leL).map encStr) ∧ Below w.heap.size w w' := by
  refine (callsIn_wide (n := 5)).1 ?_
  have h := AnyZ.sorted_in Try.sortedS Fence.wide 5 trivial trivial trivial trivial rfl (by omega) (sortsS _) (enters_of Try.func33 (by kernel_rfl) rfl) KEYS1 #[.pointer (some ⟨Bm, 0, none⟩)] trivial (enters_of Try.func34 (by kernel_rfl) rfl) _ M.length (by unfold maxLen; omega) (by omega) w (keysW_gives 2 (by decide) hm hM)
  exact h.mono fun e w' ⟨v, ss, h1, h2, h3, h4, h5⟩ => ⟨v, ss, h1, h2, h3, h5⟩
end Go.Proofs.Ytiheilkjlapoiaa.Lg
