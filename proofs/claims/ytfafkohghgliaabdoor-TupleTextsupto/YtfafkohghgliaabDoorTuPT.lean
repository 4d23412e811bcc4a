import Derived.Test.YtfafkohghgliaabDoorTuWd
import Derived.Test.YtfafkohghgliaabDoorTuPV
import Derived.Test.YtfafkohghgliaabDoorTuRefX
import Derived.Test.YtfafkohghgliaabDoorTuOwn
import Derived.Laws.MakeOwn
/- The program's Text. -/
namespace Go.Proofs.YtfafkohghgliaabDoor.Tu
open Go.RowKit Go.Sort Go.Proofs.YtfafkohghgliaabDoor Go.Proofs.YtfafkohghgliaabDoor.Rt Go.Proofs.YtfafkohghgliaabDoor.Gt
set_option linter.unusedVariables false
set_option linter.unusedSectionVars false
variable [DecidableEq Vl]
set_option linter.unusedSimpArgs false
set_option maxRecDepth 100000

theorem infoTx : (Tryd.prog.info? 9).map (fun i => (i.zero, i.size, i.bytes)) = some (some (.string ⟨#[]⟩), 1, 16) := by kernel_rfl
theorem make_tx (w : World) (n : Nat) (h : n ≤ 17592186044416) : (Instr.makeSlice 57 (.int .i64 (n : Int)) (.int .i64 (n : Int))).run Tryd.prog w = .ok (.slice (some ⟨w.heap.size, 0, none⟩) n n) (w.alloc (.cells (madeCells (Value.string ⟨#[]⟩).cells n) 9)) := by
  obtain ⟨i0, hi, hz0, hz1, hz2⟩ := info_ofT infoTx
  have := run_make (P := Tryd.prog) w 57 9 i0 _ Tryd.underlying57 hi hz0 .i64 .i64 n n (by omega) (by omega) (by rw [hz2]; omega) (by omega)
  rw [this, hz1]
  simp
/-- n texts in a block of one's own -/
structure Rs (w : World) (g n : Nat) (f : Nat → ByteArray) : Prop where
  at_ : ∀ i, i < n → w.cell? ⟨g, i, none⟩ = some (.string (f i))
  loose : Loose w g
  lt : g < w.heap.size
theorem Rs.later {w w' : World} {g n : Nat} {f : Nat → ByteArray} (h : Rs w g n f) (hb : Below w.heap.size w w') : Rs w' g n f := ⟨fun i hi => cell_later hb (h.at_ i hi), h.loose.later hb h.lt, Nat.lt_of_lt_of_le h.lt hb.size⟩
theorem Rs.made (w : World) (n : Nat) : Rs (w.alloc (.cells (madeCells (Value.string ⟨#[]⟩).cells n) 9)) w.heap.size n (fun _ => ⟨#[]⟩) :=
  ⟨fun i hi => by simp [go_sem, madeCells, hi, Nat.mod_one], fun o => by simp [go_sem], by simp⟩
theorem Rs.put {w : World} {g n k : Nat} {f f' : Nat → ByteArray} (h : Rs w g n f) {y : ByteArray} (hk : k < n) (e : ∀ i, i < n → f' i = if i = k then y else f i) : Rs (w.setCell ⟨g, k, none⟩ (.string y)) g n f' := by
  refine ⟨fun i hi => ?_, h.loose.setc _ _, by simpa using h.lt⟩
  rw [e i hi]
  by_cases q : i = k
  · subst q
    rw [if_pos rfl]
    exact World.cell?_setCell_same _ _ _ (h.at_ i hi)
  · rw [if_neg q]
    exact cell_setc (by simp only [ne_eq, Addr.mk.injEq]; omega) (h.at_ i hi)
/-- the first i words -/
def wdF (t : List Vl) (i j : Nat) : ByteArray := if j < i then ofNats (saidL (nthV t j)) else ⟨#[]⟩
theorem join_nats (ls : List (List Nat)) : Lib.join ((ls.map ofNats).map (·.data.toList)) [32] = (joinB ls).map UInt8.ofNat := by
  induction ls with
  | nil => rfl
  | cons x r ih =>
    cases r with
    | nil => simp [Lib.join, List.intercalate, joinB, ofNats]
    | cons y r =>
      show _ = (x ++ 32 :: joinB (y :: r)).map UInt8.ofNat
      have e : List.map UInt8.ofNat (32 :: joinB (y :: r)) = 32 :: List.map UInt8.ofNat (joinB (y :: r)) := rfl
      rw [List.map_append, e, ← ih]
      simp [Lib.join, List.intercalate, ofNats]
theorem joinT_is {w : World} {G n : Nat} {t : List Vl} (h : Rs w G n (wdF t n)) (hn : n = t.length) (hl : n ≤ 140737488355328) (ht : (textL t).length ≤ 140737488355328) :
    Calls Tryd.prog 33 #[.slice (some ⟨G, 0, none⟩) n n, .string ⟨#[32]⟩] w fun e w' => e = .returned (.string (ofNats (textL t))) ∧ Below w.heap.size w w' := by
  have hx : (((t.map saidL).map ofNats)).length = n := by rw [List.length_map, List.length_map, hn]
  have hj := join_nats (t.map saidL)
  have hc := Tryd.strings_Join G 0 n ((t.map saidL).map ofNats) ⟨#[32]⟩ w (fun j x hjx => by
    obtain ⟨hlt, he⟩ := List.getElem?_eq_some_iff.1 hjx
    have hlt' : j < n := by rw [hx] at hlt; exact hlt
    rw [Nat.zero_add, h.at_ j hlt', ← he]
    unfold wdF
    rw [if_pos hlt']
    have : j < t.length := by omega
    simp [nthV, this]) h.lt (by rw [hx]; exact hl) (by rw [hx]; exact Nat.le_refl _) (by
      show (Lib.join _ [32]).length ≤ _
      rw [hj, List.length_map]; exact ht)
  rw [hx] at hc
  refine hc.mono ?_
  rintro e w' ⟨rfl, hb⟩
  refine ⟨?_, hb⟩
  show Ending.returned (.string ⟨(Lib.join _ [32]).toArray⟩) = _
  rw [hj]
  rfl
set_option maxHeartbeats 4000000 in
theorem text_is {a : Option Addr} {c : Nat} {t : List Vl} {w : World} (h : RowV w a t) (k : Tp t) (hp : PowTab w) :
    Calls Tryd.prog 21 #[.slice a t.length c] w fun e w' => e = .returned (.tuple #[.string (textS t), .int .i64 (vE (okT t))]) ∧ Below w.heap.size w w' := by
  have HV := fun w (h : RowV w a t) => hid (valid_is (c := c) h k)
  have htx : (textL t).length ≤ 140737488355328 := by have := k.txt; have := k.enc; omega
  obtain ⟨n, hn⟩ : ∃ n, n = t.length := ⟨_, rfl⟩
  have hl : n ≤ 16777216 := by rw [hn]; exact k.len
  have HA := hid (show _ ∧ _ ∧ _ ∧ _ ∧ _ from ⟨h, k, hn, hp, htx⟩)
  rw [← hn] at HV ⊢
  clear h k hn hp htx
  obtain ⟨u, hu⟩ : ∃ u, okT t = u := ⟨_, rfl⟩
  have HU : Hid (okT t = u) := hu
  rw [hu] at HV
  go_enter Tryd.func21, Tryd.ntmps21
  cases u with
  | false =>
    have HE : Hid (textS t = ⟨#[]⟩) := by show _ = _; unfold textS; rw [hu]; rfl
    clear hu
    go_wp2_with (go_at_call 25; refine (HV _ HA.out.1).out.mono ?_; rintro e w1 ⟨rfl, hb1⟩; simp only [vE])
    go_ret2
    exact ⟨ret_si (by rw [HE.out]) (by rw [HU.out]; rfl), hb1⟩
  | true =>
    have HE : Hid (textS t = ofNats (textL t)) := by show _ = _; unfold textS; rw [hu]; rfl
    clear hu
    go_wp2_with (go_at_call 25; refine (HV _ HA.out.1).out.mono ?_; rintro e w1 ⟨rfl, hb1⟩; simp only [vE]; have hmk := make_tx w1 n (by omega); have hrs := Rs.made w1 n; have hba := Below.al (Below.refl w1.heap.size w1) (.cells (madeCells (Value.string ⟨#[]⟩).cells n) 9); obtain ⟨wa, hwa⟩ : ∃ wa, wa = w1.alloc (.cells (madeCells (Value.string ⟨#[]⟩).cells n) 9) := ⟨_, rfl⟩; rw [← hwa] at hmk hrs hba; obtain ⟨G, hG⟩ : ∃ G, G = w1.heap.size := ⟨_, rfl⟩; have HG : Hid (w.heap.size ≤ G) := hid (by rw [hG]; exact hb1.size); rw [← hG] at hmk hrs; have HRS := hid hrs; have HBA := hid (Below.on hb1 hba); clear hwa hrs hba hG)
    clear hb1 HV
    go_loopg [6, 7, 18] n (fun g s6 s7 s18 wr => ∃ i : Nat, i ≤ n ∧ g = n - i ∧ s18 = .int .i64 i ∧ Hid (Rs wr G n (wdF t i)) ∧ Hid (Below w.heap.size w wr))
    case atStart => exact ⟨0, by omega, by omega, rfl, HRS, HBA⟩
    case round =>
      obtain ⟨i, hi, rfl, rfl, HR, HB⟩ := hrel
      clear HRS HBA hmk
      by_cases hlt : i < n
      · have hlt' : i < t.length := by rw [← HA.out.2.2.1]; exact hlt
        obtain ⟨ba, oa, ea, a0, a1, a2, a3⟩ := (HA.out.1.later HB.out) i hlt'
        subst ea
        obtain ⟨x, hx⟩ : ∃ x, x = nthV t i := ⟨_, rfl⟩
        rw [← hx] at a0 a1 a2 a3
        have ox : x.ok := by rw [hx]; exact HA.out.2.1.ok _ (nthV_mem hlt')
        have sx : 3 * x.s.length + 10 ≤ 140737488355328 := by have := HA.out.2.1.sh _ (nthV_mem hlt'); rw [← hx] at this; omega
        obtain ⟨z, hz⟩ : ∃ z, z = ofNats (saidL x) := ⟨_, rfl⟩
        have HW : ∀ w', Below wr.heap.size wr w' → Hid (Calls Tryd.prog 32 #[x.val] w' fun e w'' => e = .returned (.string z) ∧ Below wr.heap.size wr w'') := fun w' hb => by
          rw [hz]
          exact hid ((wordOf_is ox sx w' (HA.out.2.2.2.1.later (Below.on HB.out hb))).mono fun e w'' ⟨he, hb2⟩ => ⟨he, Below.on hb hb2⟩)
        have HF : Hid (∀ j, j < n → wdF t (i + 1) j = if j = i then z else wdF t i j) := by
          intro j hj
          unfold wdF
          by_cases e : j = i
          · subst e; rw [if_pos (by omega), if_pos rfl, hz, hx]
          · rw [if_neg e]
            by_cases e2 : j < i
            · rw [if_pos (by omega), if_pos e2]
            · rw [if_neg (by omega), if_neg e2]
        clear hx ox sx hz hlt'
        obtain ⟨xk, xf, xn, xs⟩ := x
        simp only at a0 a1 a2 a3
        go_wp2_with (go_at_call 32; go_loud (refine (HW _ (by (repeat (first | exact Below.refl _ _ | assumption | refine Below.drew ?_ | refine Below.al ?_ _ | refine Below.setCell ?_ (by first | exact Nat.le_refl _ | (simp; omega) | (simp; done)) _ | refine Below.on ?_ (by assumption))))).out.mono ?_; rintro e w2 ⟨rfl, hb2⟩; have HB2 := hid hb2; have HR2 := hid (HR.out.later hb2); have c0 := HR2.out.at_ i hlt; have l0 := HR2.out.loose i; clear hb2))
        go_roundg (n - (i + 1))
        case measure => omega
        case rel => exact ⟨i + 1, by omega, rfl, by go_num, hid (HR2.out.put hlt HF.out), hid ((Below.on HB.out HB2.out).setCell (p := ⟨G, i, none⟩) HG.out _)⟩
      · obtain rfl : i = n := by omega
        have HJ := hid (joinT_is HR.out HA.out.2.2.1 (by omega) HA.out.2.2.2.2)
        go_wp2_with (go_at_call 33; go_loud (refine HJ.out.mono ?_; rintro e w2 ⟨rfl, hb2⟩; have HB2 := hid (Below.on HB.out hb2); clear hb2))
        go_ret2
        exact ⟨ret_si (by rw [HE.out]) (by rw [HU.out]; rfl), HB2.out⟩
end Go.Proofs.YtfafkohghgliaabDoor.Tu
