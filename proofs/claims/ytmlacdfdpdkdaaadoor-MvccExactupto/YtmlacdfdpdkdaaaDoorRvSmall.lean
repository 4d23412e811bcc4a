import Derived.Test.YtmlacdfdpdkdaaaDoorVInstall
import Derived.Test.YtmlacdfdpdkdaaaDoorVAbove
import Derived.Test.YtmlacdfdpdkdaaaDoorDOnl
import Derived.Test.YtmlacdfdpdkdaaaDoorVRowsV
import Derived.Lib.QuietBelow
import Derived.BigQuiet
/- The document's store, plain: one flat list of versions, looked through at each question. -/
namespace Go.Proofs.YtmlacdfdpdkdaaaDoor.Vs
set_option linter.unusedVariables false

/-- a list gone through: each element with what stands behind it -/
def walkL {β : Type} (g : Kv → List Kv → List β) : List Kv → List β
  | [] => []
  | e :: r => g e r ++ walkL g r
theorem walk_at {β : Type} (g : Kv → List Kv → List β) : ∀ (L : List Kv) (k : Nat), k < L.length → walkL g (L.drop k) = g (nthK L k) (L.drop (k + 1)) ++ walkL g (L.drop (k + 1)) := by
  intro L k hk
  rw [List.drop_eq_getElem_cons hk, walkL, nthK_get hk]
/-- is it the newest of its key at t? -/
def nwB (t : Sp) (e : Kv) (r : List Kv) : Bool := !t.lt e.2.s && match r with
  | [] => true
  | d :: _ => !decide (d.1 = e.1) || t.lt d.2.s
def rdG (lo hi : ByteArray) (t : Sp) (e : Kv) (r : List Kv) : Prs := if inS lo hi e.1 && nwB t e r && !e.2.del then [(e.1, e.2.val)] else []
def prG' (m : Sp) (e : Kv) (r : List Kv) : List Kv := if m.lt e.2.s || (nwB m e r && !e.2.del) then [e] else []
theorem nw_last (t : Sp) (k : ByteArray) (v : Ver) (R : List Kv) (hR : ∀ e ∈ R, e.1 ≠ k) : nwB t (k, v) R = !t.lt v.s := by
  unfold nwB
  cases R with
  | nil => simp
  | cons d R => simp [hR d (by simp)]
theorem nw_next (t : Sp) (k : ByteArray) (v u : Ver) (R : List Kv) : nwB t (k, v) ((k, u) :: R) = (!t.lt v.s && t.lt u.s) := by simp [nwB]
theorem valAt_one (t : Sp) (v : Ver) : valAt [v] t = if t.lt v.s then none else if v.del then none else some v.val := by
  have := valAt_snoc (cs := []) (v := v) (t := t)
  simpa [valAt_nil] using this
theorem low_cons (t : Sp) (v : Ver) (cs : Chain) : low (v :: cs) t = if t.lt v.s then low cs t else v :: low cs t := by
  unfold low
  rw [List.filter_cons]
  cases t.lt v.s <;> rfl
theorem low_high {cs : Chain} {v : Ver} (h : Ris (v :: cs)) {t : Sp} (hv : t.lt v.s = true) : low (v :: cs) t = [] := by
  refine List.filter_eq_nil_iff.2 fun u hu => ?_
  rcases List.mem_cons.1 hu with rfl | hu
  · simp [hv]
  · have := Sp.trans hv ((List.pairwise_cons.1 h).1 u hu)
    simp [this]
/-- a key's chain, and others behind it -/
theorem read_chain (lo hi : ByteArray) (t : Sp) (k : ByteArray) (R : List Kv) (hR : ∀ e ∈ R, e.1 ≠ k) : ∀ (cs : Chain), Ris cs →
    walkL (rdG lo hi t) (cs.map (fun v => (k, v)) ++ R) = (if inS lo hi k then ((valAt cs t).map fun x => (k, x)).toList else []) ++ walkL (rdG lo hi t) R
  | [], _ => by simp [valAt_nil]
  | [v], _ => by
    show rdG lo hi t (k, v) R ++ walkL (rdG lo hi t) R = _
    congr 1
    unfold rdG
    rw [nw_last t k v R hR, valAt_one]
    cases inS lo hi k <;> cases t.lt v.s <;> cases hd : v.del <;> simp
  | v :: u :: cs, h => by
    have h' := List.pairwise_cons.1 h
    have ih := read_chain lo hi t k R hR (u :: cs) h'.2
    show rdG lo hi t (k, v) ((k, u) :: (cs.map (fun v => (k, v)) ++ R)) ++ walkL (rdG lo hi t) ((u :: cs).map (fun v => (k, v)) ++ R) = _
    rw [ih, ← List.append_assoc]
    congr 1
    unfold rdG
    rw [nw_next]
    cases hv : t.lt v.s with
    | true =>
      have e1 : valAt (v :: u :: cs) t = none := by unfold valAt; rw [low_high h hv]; rfl
      have hu : t.lt u.s = true := Sp.trans hv (h'.1 u (by simp))
      have e2 : valAt (u :: cs) t = none := by unfold valAt; rw [low_high h'.2 hu]; rfl
      rw [e1, e2]; simp
    | false =>
      cases hu : t.lt u.s with
      | true =>
        have e2 : valAt (u :: cs) t = none := by unfold valAt; rw [low_high h'.2 hu]; rfl
        have e1 : valAt (v :: u :: cs) t = if v.del then none else some v.val := by
          unfold valAt; rw [low_cons, hv, low_high h'.2 hu]; rfl
        rw [e1, e2]
        cases inS lo hi k <;> cases hd : v.del <;> simp
      | false =>
        have e1 : valAt (v :: u :: cs) t = valAt (u :: cs) t := by
          unfold valAt
          rw [low_cons t v, hv]
          simp only [Bool.false_eq_true, if_false]
          rw [low_cons t u, hu]
          simp only [Bool.false_eq_true, if_false]
          rw [List.getLast?_cons_cons]
        rw [e1]; simp
theorem dump_cons (x : ByteArray × Chain) (M : Mst) : dumpM (x :: M) = x.2.map (fun v => (x.1, v)) ++ dumpM M := rfl
theorem dump_other {x : ByteArray × Chain} {M : Mst} (h : Rising (x :: M)) : ∀ e ∈ dumpM M, e.1 ≠ x.1 := fun e he e1 => by
  obtain ⟨k', v⟩ := e
  obtain ⟨cs', hcs, _⟩ := dump_mem.1 he
  exact lt_ne ((List.pairwise_cons.1 h).1 _ hcs) e1.symm
theorem Good.tail {x : ByteArray × Chain} {M : Mst} (h : Good (x :: M)) : Good M := ⟨(List.pairwise_cons.1 h.rising).2, fun e he => h.chain e (by simp [he])⟩
theorem read_flat {M : Mst} (h : Good M) (lo hi : ByteArray) (t : Sp) : walkL (rdG lo hi t) (dumpM M) = readM M lo hi t := by
  induction M with
  | nil => rfl
  | cons x M ih =>
    rw [dump_cons, read_chain lo hi t x.1 _ (dump_other h.rising) x.2 (h.chain x (by simp)).2, ih h.tail]
    unfold readM rangeX readAll
    rw [List.filter_cons]
    cases inS lo hi x.1 with
    | false => simp
    | true =>
      simp only [if_true]
      rw [List.filterMap_cons]
      cases valAt x.2 t <;> simp
/-! ### a prune -/
theorem unseen_high {cs : Chain} {v : Ver} (h : Ris (v :: cs)) {m : Sp} (hv : m.lt v.s = true) : unseen (v :: cs) m = 0 := by
  unfold unseen upTo; rw [low_high h hv]; rfl
theorem prune_chain (m : Sp) (k : ByteArray) (R : List Kv) (hR : ∀ e ∈ R, e.1 ≠ k) : ∀ (cs : Chain), Ris cs →
    walkL (prG' m) (cs.map (fun v => (k, v)) ++ R) = (cs.drop (unseen cs m)).map (fun v => (k, v)) ++ walkL (prG' m) R
  | [], _ => by simp
  | [v], _ => by
    show prG' m (k, v) R ++ walkL (prG' m) R = _
    congr 1
    unfold prG'
    rw [nw_last m k v R hR]
    cases hv : m.lt v.s with
    | true => rw [unseen_high (List.pairwise_singleton _ _) hv]; simp
    | false =>
      have e : low [v] m = [v] := by rw [low_cons, hv]; rfl
      cases hd : v.del with
      | true =>
        have : unseen [v] m = 1 := by unfold unseen upTo; rw [e]; simp [hd]
        rw [this]; simp
      | false =>
        have : unseen [v] m = 0 := by unfold unseen upTo; rw [e]; simp [hd]
        rw [this]; simp
  | v :: u :: cs, h => by
    have h' := List.pairwise_cons.1 h
    have ih := prune_chain m k R hR (u :: cs) h'.2
    show prG' m (k, v) ((k, u) :: (cs.map (fun v => (k, v)) ++ R)) ++ walkL (prG' m) ((u :: cs).map (fun v => (k, v)) ++ R) = _
    rw [ih, ← List.append_assoc]
    congr 1
    unfold prG'
    rw [nw_next]
    cases hv : m.lt v.s with
    | true =>
      have hu : m.lt u.s = true := Sp.trans hv (h'.1 u (by simp))
      rw [unseen_high h hv, unseen_high h'.2 hu]; simp
    | false =>
      cases hu : m.lt u.s with
      | true =>
        have e : low (v :: u :: cs) m = [v] := by rw [low_cons, hv, low_high h'.2 hu]; rfl
        rw [unseen_high h'.2 hu]
        cases hd : v.del with
        | true =>
          have : unseen (v :: u :: cs) m = 1 := by unfold unseen upTo; rw [e]; simp [hd]
          rw [this]; simp
        | false =>
          have : unseen (v :: u :: cs) m = 0 := by unfold unseen upTo; rw [e]; simp [hd]
          rw [this]; simp
      | false =>
        have e : low (v :: u :: cs) m = v :: low (u :: cs) m := by rw [low_cons, hv]; rfl
        have hne : low (u :: cs) m ≠ [] := by rw [low_cons, hu]; simp
        have hg : (low (v :: u :: cs) m).getLast? = (low (u :: cs) m).getLast? := by
          rw [e]
          cases hl : low (u :: cs) m with
          | nil => exact absurd hl hne
          | cons a b => rw [List.getLast?_cons_cons]
        have hpos : 0 < upTo (u :: cs) m := List.length_pos_iff.2 hne
        have : unseen (v :: u :: cs) m = unseen (u :: cs) m + 1 := by
          unfold unseen
          rw [hg]
          have hup : upTo (v :: u :: cs) m = upTo (u :: cs) m + 1 := by unfold upTo; rw [e]; rfl
          rw [hup]
          split
          · rfl
          · omega
        rw [this, List.drop_succ_cons]
        simp
theorem prune_flat {M : Mst} (h : Good M) (m : Sp) : walkL (prG' m) (dumpM M) = dumpM (pruneM M m) := by
  induction M with
  | nil => rfl
  | cons x M ih =>
    rw [dump_cons, prune_chain m x.1 _ (dump_other h.rising) x.2 (h.chain x (by simp)).2, ih h.tail]
    unfold pruneM
    rw [List.filterMap_cons]
    by_cases hu : unseen x.2 m = x.2.length
    · rw [if_pos hu, hu, List.drop_length]; rfl
    · rw [if_neg hu]; rfl
end Go.Proofs.YtmlacdfdpdkdaaaDoor.Vs
namespace Go.Proofs.YtmlacdfdpdkdaaaDoor
open Go.RowKit Go.Sort

set_option maxHeartbeats 400000 in
theorem refless_any (a b c x y z : Int) (w : World) :
    Calls Tryd.prog 77 #[stv a b c, stv x y z] w fun e w' => e = .returned (.bool (lessB a b c x y z)) ∧ Below w.heap.size w w' := by
  have hB : Below w.heap.size w ((w.alloc (.cells #[.int .u64 a, .int .u32 b, .int .u32 c] 33)).alloc (.cells #[.int .u64 x, .int .u32 y, .int .u32 z] 33)) :=
    ((Below.refl _ _).alloc (Nat.le_refl _) _).alloc (by simp) _
  by_cases h1 : a < x
  · have hv : lessB a b c x y z = true := lessB_iff.2 (by omega)
    rw [hv]
    go_enter Tryd.func77, Tryd.ntmps77
    go_wp2
    go_ret
    exact ⟨rfl, hB⟩
  · by_cases h2 : a = x
    · subst h2
      by_cases h3 : b < y
      · have hv : lessB a b c a y z = true := lessB_iff.2 (by omega)
        rw [hv]
        go_enter Tryd.func77, Tryd.ntmps77
        go_wp2
        go_ret
        exact ⟨rfl, hB⟩
      · by_cases h4 : b = y
        · subst h4
          have hv : lessB a b c a b z = decide (c < z) := by simp [lessB]
          rw [hv]
          go_enter Tryd.func77, Tryd.ntmps77
          go_wp2
          go_ret
          exact ⟨rfl, hB⟩
        · have hv : lessB a b c a y z = false := lessB_iff_false.2 (by omega)
          have h4' : (b == y) = false := by simpa using h4
          rw [hv]
          go_enter Tryd.func77, Tryd.ntmps77
          go_wp2
          go_ret
          exact ⟨rfl, hB⟩
    · have hv : lessB a b c x y z = false := lessB_iff_false.2 (by omega)
      have h2' : (a == x) = false := by simpa using h2
      rw [hv]
      go_enter Tryd.func77, Tryd.ntmps77
      go_wp2
      go_ret
      exact ⟨rfl, hB⟩

theorem refless_is {a b c x y z : Int} {v : Bool} (h : lessB a b c x y z = v) (w : World) :
    Calls Tryd.prog 77 #[stv a b c, stv x y z] w fun e w' => e = .returned (.bool v) ∧ Below w.heap.size w w' := h ▸ refless_any a b c x y z w

end Go.Proofs.YtmlacdfdpdkdaaaDoor
/- The document's store: where it lies; its small calls. -/
namespace Go.Proofs.YtmlacdfdpdkdaaaDoor.Vs
open Go.RowKit Go.Sort
set_option linter.unusedVariables false

/-- the document's store at r: its list, its watermark -/
structure Rs (w : World) (B r : Nat) (v : Value) (L : List Kv) (mk : Sp) : Prop where
  blk : w.heap[r]? = some (.cells #[v, .int .u64 mk.a, .int .u32 mk.b, .int .u32 mk.c] 83 (0, 0))
  row : OwnV w B v L
  ne : v.ownBlock ≠ some r
/-- its blocks -/
def RsB (r : Nat) (v : Value) (k : Nat) : Prop := k = r ∨ v.ownBlock = some k
section
variable {w w' : World} {B r : Nat} {v : Value} {L : List Kv} {mk : Sp}
theorem Rs.lt (h : Rs w B r v L mk) : r < w.heap.size := (Array.getElem?_eq_some_iff.1 h.blk).1
theorem Rs.c0 (h : Rs w B r v L mk) : w.cell? ⟨r, 0, none⟩ = some v := by simp [World.cell?, h.blk]
theorem Rs.c1 (h : Rs w B r v L mk) : w.cell? ⟨r, 1, none⟩ = some (.int .u64 mk.a) := by simp [World.cell?, h.blk]
theorem Rs.c2 (h : Rs w B r v L mk) : w.cell? ⟨r, 2, none⟩ = some (.int .u32 mk.b) := by simp [World.cell?, h.blk]
theorem Rs.c3 (h : Rs w B r v L mk) : w.cell? ⟨r, 3, none⟩ = some (.int .u32 mk.c) := by simp [World.cell?, h.blk]
theorem Rs.loose (h : Rs w B r v L mk) : ∀ o, w.frozen? ⟨r, o, none⟩ = false := fun o => by simp [World.frozen?, h.blk]
theorem Rs.onl {F : Nat → Prop} (h : Rs w B r v L mk) (ho : Onl F w w') (hF : ∀ k, RsB r v k → ¬ F k) : Rs w' B r v L mk :=
  ⟨(ho.block r h.lt (hF r (.inl rfl))).trans h.blk, h.row.onl ho (fun g hg => hF g (.inr hg)), h.ne⟩
theorem Rs.later (h : Rs w B r v L mk) (hb : Below w.heap.size w w') : Rs w' B r v L mk := h.onl (F := fun _ => False) (Onl.of_below hb) (fun _ _ k => k)
theorem Rs.its_lt (h : Rs w B r v L mk) {k : Nat} (hk : RsB r v k) : k < w.heap.size := by
  rcases hk with rfl | hk
  · exact h.lt
  · exact (World.ownsRow.lt h.row k hk).2
theorem Rs.slice (h : Rs w B r v L mk) : ∃ a c, v = .slice a L.length c ∧ RowV w a L := by
  obtain ⟨a, c, rfl⟩ := h.row.slice
  exact ⟨a, c, rfl, OwnV.row h.row⟩
end
theorem rabove_is {s t : Sp} {u : Bool} (h : t.lt s = u) (w : World) : Calls Tryd.prog 53 #[sv s, sv t] w fun e w' => e = .returned (.bool u) ∧ Below w.heap.size w w' := by
  have HL := hid fun wz => refless_any t.a t.b t.c s.a s.b s.c wz
  have HU : Hid (lessB t.a t.b t.c s.a s.b s.c = u) := h
  go_enter Tryd.func53, Tryd.ntmps53
  go_wp2_with fail
  refine (HL.out _).mono ?_
  rintro e w1 ⟨rfl, hb⟩
  go_wp2_with fail
  go_ret
  refine ⟨ret_bool HU.out, ?_⟩
  refine Below.on ?_ hb
  (repeat (first | with_reducible exact Below.refl _ _ | with_reducible assumption | with_reducible refine Below.drew ?_ | with_reducible refine Below.al ?_ _ | with_reducible refine Below.setCell ?_ (by first | exact Nat.le_refl _ | (simp; omega) | (simp; done)) _ | with_reducible refine Below.on ?_ (by assumption)))
theorem rkey_is {k : ByteArray} {u : Bool} (hu : (!emS k && decide (k.size ≤ 32)) = u) (w : World) : Calls Tryd.prog 66 #[.string k] w fun e w' => e = .returned (.bool u) ∧ w' = w := by
  by_cases h1 : 1 ≤ k.size
  · have hI : (1 : Int) ≤ (k.size : Int) := by omega
    have HV : Hid (u = decide (k.size ≤ 32)) := hid (by rw [← hu, em_size, decide_eq_false (by omega : ¬ k.size = 0)]; rfl)
    clear hu
    go_enter Tryd.func66, Tryd.ntmps66
    go_wp2_with fail
    go_ret
    refine ⟨ret_bool ?_, rfl⟩
    rw [HV.out]
    first | rfl | (simp; done) | (rw [Bool.eq_iff_iff]; simp; omega)
  · have hI : ¬ (1 : Int) ≤ (k.size : Int) := by omega
    have hd : decide ((1 : Int) ≤ (k.size : Int)) = false := decide_eq_false hI
    have HV : Hid (u = false) := hid (by rw [← hu, em_size, decide_eq_true (by omega : k.size = 0)]; rfl)
    clear hu
    go_enter Tryd.func66, Tryd.ntmps66
    go_wp2_with fail
    go_ret
    exact ⟨ret_bool HV.out.symm, rfl⟩
theorem rinside_is {k lo hi : ByteArray} {u : Bool} (hu : inS lo hi k = u) (w : World) : Calls Tryd.prog 54 #[.string k, .agg #[.string lo, .string hi]] w fun e w' => e = .returned (.bool u) ∧ Below w.heap.size w w' := by
  subst hu
  unfold inS lt
  have hle : (Op.bytesLess lo.toList k.toList || lo.toList == k.toList) = !Op.bytesLess k.toList lo.toList := leq_less _ _
  generalize Op.bytesLess k.toList lo.toList = b1 at hle ⊢
  cases b1 <;> cases h2 : hi.toList.isEmpty
  all_goals
    go_enter Tryd.func54, Tryd.ntmps54
    go_wp2_with fail
    go_ret
    exact ⟨rfl, by (repeat (first | with_reducible exact Below.refl _ _ | with_reducible assumption | with_reducible refine Below.drew ?_ | with_reducible refine Below.al ?_ _ | with_reducible refine Below.setCell ?_ (by first | exact Nat.le_refl _ | (simp; omega) | (simp; done)) _ | with_reducible refine Below.on ?_ (by assumption)))⟩
theorem rafter_is {d e : Kv} {u : Bool} (hu : folB d e = u) (w : World) : Calls Tryd.prog 67 #[vv d.1 d.2, vv e.1 e.2] w fun r w' => r = .returned (.bool u) ∧ Below w.heap.size w w' := by
  obtain ⟨k1, s1, d1, v1⟩ := d
  obtain ⟨k2, s2, d2, v2⟩ := e
  have HL := hid fun wz => rabove_is (s := s2) (t := s1) rfl wz
  have HU : Hid ((if k1 = k2 then s1.lt s2 else lt k1 k2) = u) := hid hu
  clear hu
  by_cases hk : k1 = k2
  · subst hk
    have h0 : Op.bytesLess k1.toList k1.toList = false := lt_irrefl k1
    rw [if_pos rfl] at HU
    go_enter Tryd.func67, Tryd.ntmps67
    go_wp2_with fail
    refine (HL.out _).mono ?_
    rintro e w1 ⟨rfl, hb⟩
    go_wp2_with fail
    go_ret
    refine ⟨ret_bool HU.out, ?_⟩
    refine Below.on ?_ hb
    (repeat (first | with_reducible exact Below.refl _ _ | with_reducible assumption | with_reducible refine Below.drew ?_ | with_reducible refine Below.al ?_ _ | with_reducible refine Below.setCell ?_ (by first | exact Nat.le_refl _ | (simp; omega) | (simp; done)) _ | with_reducible refine Below.on ?_ (by assumption)))
  · rw [if_neg hk] at HU
    have heq : (k1.toList == k2.toList) = false := by
      rw [beq_eq_false_iff_ne]
      intro e
      apply hk
      rw [ByteArray.toList_eq, ByteArray.toList_eq] at e
      cases k1; cases k2; simp at e; rw [e]
    cases hl : Op.bytesLess k1.toList k2.toList
    · have HV : Hid (u = false) := hid (by rw [← HU.out]; exact hl)
      go_enter Tryd.func67, Tryd.ntmps67
      go_wp2_with fail
      go_ret
      exact ⟨ret_bool HV.out.symm, by (repeat (first | with_reducible exact Below.refl _ _ | with_reducible assumption | with_reducible refine Below.drew ?_ | with_reducible refine Below.al ?_ _ | with_reducible refine Below.setCell ?_ (by first | exact Nat.le_refl _ | (simp; omega) | (simp; done)) _ | with_reducible refine Below.on ?_ (by assumption)))⟩
    · have HV : Hid (u = true) := hid (by rw [← HU.out]; exact hl)
      go_enter Tryd.func67, Tryd.ntmps67
      go_wp2_with fail
      go_ret
      exact ⟨ret_bool HV.out.symm, by (repeat (first | with_reducible exact Below.refl _ _ | with_reducible assumption | with_reducible refine Below.drew ?_ | with_reducible refine Below.al ?_ _ | with_reducible refine Below.setCell ?_ (by first | exact Nat.le_refl _ | (simp; omega) | (simp; done)) _ | with_reducible refine Below.on ?_ (by assumption)))⟩
end Go.Proofs.YtmlacdfdpdkdaaaDoor.Vs
