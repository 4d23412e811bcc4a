import Derived.Test.YtchfoipkaookmabDoorWCatch
import Derived.Test.YtchfoipkaookmabDoorWText
import Derived.Test.YtchfoipkaookmabDoorWOrders
import Derived.Test.YtchfoipkaookmabDoorWVar
import Derived.Deep.AppendLies
import Derived.Deep.CutRange
namespace Go.Proofs.YtchfoipkaookmabDoor
open Go.RowKit Go.Sort
set_option linter.unusedVariables false

/-- what a take of n texts finds -/
inductive Trs where
  | ok (l : List (List Nat)) (r : List Nat)
  | bad (c : Int)
def txs (m : Nat) : Nat → List Nat → Trs
  | 0, q => .ok [] q
  | n + 1, q => match txt m q with
    | .bad c => .bad c
    | .ok t q' => match txs m n q' with
      | .bad c => .bad c
      | .ok l r => .ok (t :: l) r
def comb (ts : List (List Nat)) : Trs → Trs
  | .ok l r => .ok (ts ++ l) r
  | .bad c => .bad c
theorem txs_step {m n : Nat} {ts : List (List Nat)} {t q q' : List Nat} (h : txt m q = .ok t q') : comb ts (txs m (n + 1) q) = comb (ts ++ [t]) (txs m n q') := by
  simp only [txs, h]
  cases txs m n q' <;> simp [comb]
theorem txs_bad {m n : Nat} {ts : List (List Nat)} {q : List Nat} {c : Int} (h : txt m q = .bad c) : comb ts (txs m (n + 1) q) = .bad c := by
  simp only [txs, h, comb]
theorem vgo_less : ∀ (s : List Nat) (k v : Nat) (r : List Nat), vgo k s = .ok v r → r.length < s.length
  | [], k, v, r, h => by simp [vgo] at h
  | b :: s, k, v, r, h => by
    rw [vgo] at h
    split at h
    · split at h
      · injection h with h1 h2; subst h2; simp
      · cases h
    · split at h
      · split at h
        · cases h
        · injection h with h1 h2; subst h2; simp
      · split at h
        · rename_i v' r' hv
          injection h with h1 h2
          subst h2
          have := vgo_less s (k + 1) v' r' hv
          simp; omega
        · cases h
        · cases h
theorem txt_less {m : Nat} {s t q : List Nat} (h : txt m s = .ok t q) : q.length < s.length := by
  unfold txt at h
  split at h
  · rename_i v r hv
    split at h
    · cases h
    · injection h with h1 h2
      subst h2
      unfold vdec at hv
      split at hv
      · rename_i v' r' hv'
        split at hv
        · injection hv with h3 h4; subst h4
          have := vgo_less _ _ _ _ hv'
          simp; omega
        · cases hv
      · cases hv
      · cases hv
  · cases h
  · cases h

/-- texts as values -/
def tvals (ts : List (List Nat)) : List Value := ts.map fun t => .string (ofNats t)
theorem Cel.grown {b o n : Nat} {w wa w1 : World} {row : Option Nat} (h : Cel b o n w wa) (k : wa.grownBy w1 row) (hr : ∀ g, row = some g → w.heap.size ≤ g) : Cel b o n w w1 :=
  ⟨k.os.trans h.os, k.tape.trans h.tape, k.output.trans h.output, Nat.le_trans h.size k.size, fun i hi hp => (k.block i (Nat.lt_of_lt_of_le hi h.size) (fun e => by have := hr i e.symm; omega)).trans (h.block i hi hp),
    fun i hb hi => (World.cell?_of_block (a := ⟨b, i, none⟩) (k.block b (Nat.lt_of_lt_of_le hb h.size) (fun e => by have := hr b e.symm; omega))).trans (h.cells i hb hi),
    fun i hb => (World.frozen?_of_block (a := ⟨b, i, none⟩) (k.block b (Nat.lt_of_lt_of_le hb h.size) (fun e => by have := hr b e.symm; omega))).trans (h.frz i hb)⟩
theorem DecR.grown {b o : Nat} {wa w1 : World} {row : Option Nat} {s : List Nat} {r : Int} (h : DecR wa b o s r) (k : wa.grownBy w1 row) (hr : ∀ g, row = some g → g ≠ b) : DecR w1 b o s r := by
  have e := k.block b h.lt (fun e => hr b e.symm rfl)
  exact ⟨(World.cell?_of_block (a := ⟨b, o, none⟩) e).trans h.c0, (World.cell?_of_block (a := ⟨b, o + 1, none⟩) e).trans h.c1, h.b8, fun i => (World.frozen?_of_block (a := ⟨b, i, none⟩) e).trans (h.loose i)⟩
theorem owns_cel {w w' : World} {B size n b o k : Nat} {e : TypeId} {v : Value} {xs : List Value} (h : w.ownsRow B e size v n xs) (hc : Cel b o k w w') (hb : b < B) : w'.ownsRow B e size v n xs := by
  obtain ⟨h1, h2 | ⟨g, cap, cur, hv, hg, hh, r⟩⟩ := h
  · exact ⟨h1, .inl h2⟩
  · refine ⟨h1, .inr ⟨g, cap, cur, hv, hg, ?_, r⟩⟩
    rw [hc.block g (by
      rcases Nat.lt_or_ge g w.heap.size with h | h
      · exact h
      · rw [Array.getElem?_eq_none h] at hh; cases hh) (by omega)]
    exact hh
theorem owns_drew {w : World} {B size n : Nat} {e : TypeId} {v : Value} {xs : List Value} (h : w.ownsRow B e size v n xs) : w.drew.ownsRow B e size v n xs := h
theorem Tryd.infoStr : (Tryd.prog.info? 9).map (fun i => (i.zero, i.size, i.bytes)) = some (some (.string { data := #[] }), 1, 16) := by kernel_rfl

theorem wp_region_anyD {P : Program} {ops : Array Oper} {Q : Exit → Act → World → Prop} {id : Nat} {a : Act} {w : World} (hm : P.follows .mixedOrders = true)
    (h : wpAny P .any ops Q ops.size (Array.replicate ops.size false) a w.drew) : (Code.region id ops true).wp P Q a w := wp_region_any hm h

/-- the outcome of Texts -/
def TxEnd (b o B : Nat) (r : Int) (w : World) : Trs → Ending → World → Prop
  | .ok l q, e, w' => ∃ v, e = .returned v ∧ w'.ownsRow B 9 1 v l.length (tvals l) ∧ Cel b o 2 w w' ∧ DecR w' b o q r
  | .bad c, e, w' => e = .returned (.slice none 0 0) ∧ Cel b o 2 w w' ∧ DecR w' b o [] (stopR r c)
def txAll (k m : Nat) (s : List Nat) : Trs := match vdec k s with
  | .ok n q => txs m n q
  | .short => .bad 30
  | .form => .bad 31

set_option maxRecDepth 8000 in
set_option maxHeartbeats 2000000 in
theorem dtexts_short {w : World} {b o : Nat} {m c : Int} {s : List Nat} {r : Int} (h : DecR w b o s r) (hm1 : -9223372036854775808 ≤ m) (hm2 : m ≤ 9223372036854775807) (hk1 : -9223372036854775808 ≤ c) (hk2 : c ≤ 9223372036854775807) (hl : s.length ≤ 1099511627776) (hv : vdec c.toNat s = .short) :
    Calls Tryd.prog 24 #[.pointer (some ⟨b, o, none⟩), .int .i64 c, .int .i64 m] w fun e w' => TxEnd b o w.heap.size r w (txAll c.toNat m.toNat s) e w' := by
  have hmf : ∀ (fn : Fn) (first cap : Array Value) (w : World), (Instr.makeFunc fn first cap).run Tryd.prog w = .ok (.func fn first cap) w := fun _ _ _ _ => rfl
  obtain ⟨i0, hi, hz0, hz1, hz2⟩ := info_split Tryd.infoStr
  obtain ⟨wa, hwa⟩ : ∃ wa, wa = w.alloc (.cells #[.pointer (some ⟨b, o, none⟩)] 32) := ⟨_, rfl⟩
  have hba : Below w.heap.size w wa := by rw [hwa]; exact Below.al (Below.refl _ _) _
  have H := hid (h.later hba)
  have hq : wa.cell? ⟨w.heap.size, 0, none⟩ = some (.pointer (some ⟨b, o, none⟩)) := by rw [hwa]; simp [go_sem]
  have hbl := h.lt
  have hwl : wa.heap.size = w.heap.size + 1 := by rw [hwa]; simp
  have HWA := hid hwa
  have HWL := hid hwl
  clear h hwa hwl
  obtain ⟨k, hk⟩ : ∃ k, c.toNat = k := ⟨_, rfl⟩
  have HKN := hid hk
  rw [hk] at hv ⊢
  clear hk
  obtain ⟨n, hn⟩ : ∃ n, m.toNat = n := ⟨_, rfl⟩
  have HMN := hid hn
  rw [hn]
  clear hn
  have hwd : (w.alloc (.cells #[.pointer (some ⟨b, o, none⟩)] 32)).drew = wa.drew := by rw [HWA.out]
  have hres : ∀ (j : Nat) (v : Value), j ≠ 6 → ∀ t : Array Value, results Tryd.f24 (t.setIfInBounds j v) = results Tryd.f24 t := by
    intro j v hj t
    simp [results, Tryd.results24, Array.getElem?_setIfInBounds_ne hj]
  have HRES := hid hres
  clear hres
  have HV := hid hv
  clear hv
  have e9 : txAll k n s = .bad 30 := by unfold txAll; rw [HV.out]
  rw [e9]
  clear e9
  go_enter_defers Tryd.func24, Tryd.ntmps24
  go_wp2_with fail
  rw [← HWA.out]
  refine wp_region_anyD (Checked.mixed Tryd.checked) ?_
  refine wpAny_take (i := 4) (v := .int .u64 0) rfl (by kernel_rfl) (by kernel_rfl) (by kernel_rfl) (fun _ _ _ h => bodyD_put (HRES.out 13 _ (by decide)) h) (Or.inl ⟨rfl, fun w => BigFrame.run_move (Operand.const (.int .u64 0)) rfl w⟩) ?_
  refine wpAny_take (i := 1) (v := .int .i64 c) rfl (by kernel_rfl) (by kernel_rfl) (by kernel_rfl) (fun _ _ _ h => bodyD_put (HRES.out 10 _ (by decide)) h) (Or.inl ⟨rfl, fun w => BigFrame.run_move (Operand.tmp 1) rfl w⟩) ?_
  refine wpAny_br (rs := [0, 2]) (by kernel_rfl) (by simp) ?_
  simp only [List.mem_cons, List.not_mem_nil, or_false, forall_eq_or_imp, forall_eq]
  refine ⟨⟨[2, 3], by kernel_rfl, wpOps_forall (.cons rfl (.cons rfl (.cons rfl .nil))) ?_⟩, ⟨[0, 3], by kernel_rfl, wpOps_forall (.cons rfl (.cons rfl (.cons rfl .nil))) ?_⟩⟩
  all_goals simp only [Act.put, List.getElem_toArray, List.getElem_cons_zero, List.getElem_cons_succ]
  all_goals go_wp2_with (first | (go_at_call 40; refine (nbz_is hk1 hk2 HKN.out).mono ?_; rintro e w1 ⟨rfl, rfl⟩) | (go_at_call 37; refine (dnumber_any H.out.drew (by omega)).mono ?_; rw [HV.out]; rintro e w1 ⟨rfl, hc, q, hd⟩))
  all_goals
    have hq1 := hc.cell (.inl (by omega)) hq
    refine leaves_cons (f := 41) (args := #[.pointer (some ⟨w.heap.size, 0, none⟩)]) (by simp) (by simp [go_sem]) ?_
    refine (catch_texts_bad hq1 hd).mono ?_
    rintro e u' w9 ⟨rfl, rfl, hc9, hd9⟩
    exact ⟨.slice none 0 0, by simp [results, Tryd.results24, go_sem], rfl, (((Cel.of_below hba).drew).trans hc).trans hc9, hd9⟩

set_option maxRecDepth 8000 in
set_option maxHeartbeats 2000000 in
theorem dtexts_form {w : World} {b o : Nat} {m c : Int} {s : List Nat} {r : Int} (h : DecR w b o s r) (hm1 : -9223372036854775808 ≤ m) (hm2 : m ≤ 9223372036854775807) (hk1 : -9223372036854775808 ≤ c) (hk2 : c ≤ 9223372036854775807) (hl : s.length ≤ 1099511627776) (hv : vdec c.toNat s = .form) :
    Calls Tryd.prog 24 #[.pointer (some ⟨b, o, none⟩), .int .i64 c, .int .i64 m] w fun e w' => TxEnd b o w.heap.size r w (txAll c.toNat m.toNat s) e w' := by
  have hmf : ∀ (fn : Fn) (first cap : Array Value) (w : World), (Instr.makeFunc fn first cap).run Tryd.prog w = .ok (.func fn first cap) w := fun _ _ _ _ => rfl
  obtain ⟨i0, hi, hz0, hz1, hz2⟩ := info_split Tryd.infoStr
  obtain ⟨wa, hwa⟩ : ∃ wa, wa = w.alloc (.cells #[.pointer (some ⟨b, o, none⟩)] 32) := ⟨_, rfl⟩
  have hba : Below w.heap.size w wa := by rw [hwa]; exact Below.al (Below.refl _ _) _
  have H := hid (h.later hba)
  have hq : wa.cell? ⟨w.heap.size, 0, none⟩ = some (.pointer (some ⟨b, o, none⟩)) := by rw [hwa]; simp [go_sem]
  have hbl := h.lt
  have hwl : wa.heap.size = w.heap.size + 1 := by rw [hwa]; simp
  have HWA := hid hwa
  have HWL := hid hwl
  clear h hwa hwl
  obtain ⟨k, hk⟩ : ∃ k, c.toNat = k := ⟨_, rfl⟩
  have HKN := hid hk
  rw [hk] at hv ⊢
  clear hk
  obtain ⟨n, hn⟩ : ∃ n, m.toNat = n := ⟨_, rfl⟩
  have HMN := hid hn
  rw [hn]
  clear hn
  have hwd : (w.alloc (.cells #[.pointer (some ⟨b, o, none⟩)] 32)).drew = wa.drew := by rw [HWA.out]
  have hres : ∀ (j : Nat) (v : Value), j ≠ 6 → ∀ t : Array Value, results Tryd.f24 (t.setIfInBounds j v) = results Tryd.f24 t := by
    intro j v hj t
    simp [results, Tryd.results24, Array.getElem?_setIfInBounds_ne hj]
  have HRES := hid hres
  clear hres
  have HV := hid hv
  clear hv
  have e9 : txAll k n s = .bad 31 := by unfold txAll; rw [HV.out]
  rw [e9]
  clear e9
  go_enter_defers Tryd.func24, Tryd.ntmps24
  go_wp2_with fail
  rw [← HWA.out]
  refine wp_region_anyD (Checked.mixed Tryd.checked) ?_
  refine wpAny_take (i := 4) (v := .int .u64 0) rfl (by kernel_rfl) (by kernel_rfl) (by kernel_rfl) (fun _ _ _ h => bodyD_put (HRES.out 13 _ (by decide)) h) (Or.inl ⟨rfl, fun w => BigFrame.run_move (Operand.const (.int .u64 0)) rfl w⟩) ?_
  refine wpAny_take (i := 1) (v := .int .i64 c) rfl (by kernel_rfl) (by kernel_rfl) (by kernel_rfl) (fun _ _ _ h => bodyD_put (HRES.out 10 _ (by decide)) h) (Or.inl ⟨rfl, fun w => BigFrame.run_move (Operand.tmp 1) rfl w⟩) ?_
  refine wpAny_br (rs := [0, 2]) (by kernel_rfl) (by simp) ?_
  simp only [List.mem_cons, List.not_mem_nil, or_false, forall_eq_or_imp, forall_eq]
  refine ⟨⟨[2, 3], by kernel_rfl, wpOps_forall (.cons rfl (.cons rfl (.cons rfl .nil))) ?_⟩, ⟨[0, 3], by kernel_rfl, wpOps_forall (.cons rfl (.cons rfl (.cons rfl .nil))) ?_⟩⟩
  all_goals simp only [Act.put, List.getElem_toArray, List.getElem_cons_zero, List.getElem_cons_succ]
  all_goals go_wp2_with (first | (go_at_call 40; refine (nbz_is hk1 hk2 HKN.out).mono ?_; rintro e w1 ⟨rfl, rfl⟩) | (go_at_call 37; refine (dnumber_any H.out.drew (by omega)).mono ?_; rw [HV.out]; rintro e w1 ⟨rfl, hc, q, hd⟩))
  all_goals
    have hq1 := hc.cell (.inl (by omega)) hq
    refine leaves_cons (f := 41) (args := #[.pointer (some ⟨w.heap.size, 0, none⟩)]) (by simp) (by simp [go_sem]) ?_
    refine (catch_texts_bad hq1 hd).mono ?_
    rintro e u' w9 ⟨rfl, rfl, hc9, hd9⟩
    exact ⟨.slice none 0 0, by simp [results, Tryd.results24, go_sem], rfl, (((Cel.of_below hba).drew).trans hc).trans hc9, hd9⟩


end Go.Proofs.YtchfoipkaookmabDoor
