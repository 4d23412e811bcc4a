import Derived.Test.YtfafkohghgliaabDoorTuNum
import Derived.Test.YtfafkohghgliaabDoorTuVal
import Derived.Test.YtfafkohghgliaabDoorTuRefH
import Derived.Test.YtfafkohghgliaabDoorTuBt
import Derived.Test.YtfafkohghgliaabDoorRRead
import Derived.Deep.RegionHeld3
import Derived.Stop.RegionWithIn
import Derived.WideLaws
import Derived.WalkSmall
import Derived.Shelf.Strconv.ErrVarParseInt
/- The program's valueOf: what a word is. -/
namespace Go.Proofs.YtfafkohghgliaabDoor.Tu
open Go.RowKit Go.Sort Go.Proofs.YtfafkohghgliaabDoor Go.Proofs.YtfafkohghgliaabDoor.Rt Go.Proofs.YtfafkohghgliaabDoor.Gt
set_option linter.unusedVariables false
set_option linter.unusedSectionVars false
variable [DecidableEq Vl]
set_option linter.unusedSimpArgs false
set_option maxRecDepth 100000

theorem gSyn : Tryd.prog.globalNamed "strconv.ErrSyntax" = some 4 := by kernel_rfl
/-- the package-level variables that are read -/
structure Vars (w : World) : Prop where
  pow : PowTab w
  syn : ∃ tp pv, w.var? Tryd.prog "strconv.ErrSyntax" = some #[.iface tp pv]
  rng : ∃ ev, w.cell? ⟨5, 0, none⟩ = some ev ∧ (ev = .nilIface ∨ ∃ te pe, ev = .iface te pe)
theorem cell_upon {w w' : World} {p : Addr} {v : Value} (hb : Below w.heap.size w w') (h : w.cell? p = some v) : w'.cell? p = some v := by
  rw [hb.cell (World.block_lt_of_cell? _ _ h)]; exact h
theorem Vars.later {w w' : World} (h : Vars w) (hb : Below w.heap.size w w') : Vars w' := by
  obtain ⟨tp, pv, h1⟩ := h.syn
  obtain ⟨e2, h2, k2⟩ := h.rng
  have hc : w.cell? ⟨4, 0, none⟩ = some (.iface tp pv) := by have := World.var?_cell gSyn h1 0; simpa using this
  exact ⟨h.pow.later hb, ⟨tp, pv, var?_below hb gSyn (World.block_lt_of_cell? _ _ hc) h1⟩, ⟨e2, cell_upon hb h2, k2⟩⟩
theorem below_bw (w : World) (e : TypeId) (s : ByteArray) : Below w.heap.size w (Lib.bytesWorld w e s) :=
  ⟨rfl, rfl, rfl, by simp [Lib.bytesWorld, World.freeze], fun k hk => Lib.bytesWorld_at_old w e s k hk⟩
theorem pint_ok {l : List Nat} {v : Int} (hl : l.length ≤ 67108864) (h : Lib.parseIntB 64 (ofNats l).data.toList = .ok v) (w : World) : Calls Tryd.prog 62 #[.string (ofNats l), .int .i64 10, .int .i64 64] w fun e w' => e = .returned (.tuple #[.int .i64 v, .nilIface]) ∧ Below w.heap.size w w' := by
  refine (Tryd.strconv_ParseInt_10_at64_ok (ofNats l) (by rw [ofNats_size]; omega) v h w).mono ?_
  rintro e w' ⟨rfl, rfl | ⟨t, rfl⟩⟩
  · exact ⟨rfl, Below.refl _ _⟩
  · exact ⟨rfl, below_bw _ _ _⟩
theorem pint_bad {l : List Nat} (hl : l.length ≤ 67108864) (h : ∀ v, Lib.parseIntB 64 (ofNats l).data.toList ≠ .ok v) {w : World} (hv : Vars w) : Calls Tryd.prog 62 #[.string (ofNats l), .int .i64 10, .int .i64 64] w fun e w' => ∃ v tp pv, e = .returned (.tuple #[.int .i64 v, .iface tp pv]) ∧ Below w.heap.size w w' := by
  have hlim : (ofNats l).size ≤ 281474976710656 := by rw [ofNats_size]; omega
  cases hp : Lib.parseIntB 64 (ofNats l).data.toList
  all_goals first
    | exact absurd hp (h _)
    | (obtain ⟨tp, pv, h1⟩ := hv.syn
       have h := Any.strconv_ParseInt_10_at64_syntax_var Tryd.laysC174 (ofNats l) hlim hp tp pv w h1
       change Calls Tryd.prog 62 _ _ _ at h
       refine h.mono ?_
       rintro e w' ⟨N, he, _, _, hb⟩
       exact ⟨_, _, _, he, hb⟩)
    | (obtain ⟨ev, h1, h2⟩ := hv.rng
       refine (Tryd.strconv_ParseInt_10_at64_range (ofNats l) hlim hp ev w h1 h2).mono ?_
       rintro e w' ⟨N, he, _, _, hb⟩
       exact ⟨_, _, _, he, hb⟩)
theorem cut_quote {r : List Nat} (w : World) : Calls Tryd.prog 59 #[.string (ofNats (39 :: r)), .string ⟨#[39]⟩] w fun e w' => e = .returned (.tuple #[.string (ofNats r), .bool true]) ∧ w' = w := by
  refine (Tryd.strings_CutPrefix (ofNats (39 :: r)) ⟨#[39]⟩ w).mono ?_
  rintro e w' ⟨rfl, hw⟩
  refine ⟨?_, hw⟩
  have e1 : Lib.hasPrefix (ofNats (39 :: r)).data.toList [39] = true := by simp [Lib.hasPrefix, ofNats]
  have e2 : Lib.trimPrefix (ofNats (39 :: r)).data.toList [39] = (ofNats r).data.toList := by rw [Lib.trimPrefix, e1]; simp [ofNats]
  show Ending.returned (.tuple #[.string ⟨(Lib.trimPrefix (ofNats (39 :: r)).data.toList [39]).toArray⟩, .bool (Lib.hasPrefix (ofNats (39 :: r)).data.toList [39])]) = _
  rw [e1, e2]
theorem cut_plain {l : List Nat} (h8 : B8 l) (h : l.head? ≠ some 39) (w : World) : Calls Tryd.prog 59 #[.string (ofNats l), .string ⟨#[39]⟩] w fun e w' => e = .returned (.tuple #[.string (ofNats l), .bool false]) ∧ w' = w := by
  refine (Tryd.strings_CutPrefix (ofNats l) ⟨#[39]⟩ w).mono ?_
  rintro e w' ⟨rfl, hw⟩
  refine ⟨?_, hw⟩
  have e1 : Lib.hasPrefix (ofNats l).data.toList [39] = false := by
    cases l with
    | nil => rfl
    | cons c r =>
      have hc := h8 c (by simp)
      have hn : UInt8.ofNat c ≠ 39 := fun e => h (by
        have := congrArg UInt8.toNat e
        simp [Nat.mod_eq_of_lt hc] at this
        simp [this])
      have : (39 == UInt8.ofNat c) = false := beq_eq_false_iff_ne.2 (fun e => hn e.symm)
      show ((39 == UInt8.ofNat c) && _) = false
      rw [this]; rfl
  have e2 : Lib.trimPrefix (ofNats l).data.toList [39] = (ofNats l).data.toList := by rw [Lib.trimPrefix, e1]; rfl
  show Ending.returned (.tuple #[.string ⟨(Lib.trimPrefix (ofNats l).data.toList [39]).toArray⟩, .bool (Lib.hasPrefix (ofNats l).data.toList [39])]) = _
  rw [e1, e2]
/-- what valueOf answers -/
def Vo (l : List Nat) (w : World) (e : Ending) (w' : World) : Prop := ∃ (v : Vl) (ok : Bool), e = .returned (.tuple #[v.val, .bool ok]) ∧ (hearL l = if ok then some v else none) ∧ Below w.heap.size w w'
/-- the block of the result -/
structure St (w z : World) (v : Int) : Prop where
  c0 : z.cell? ⟨w.heap.size, 0, none⟩ = some (.int .i64 2)
  c1 : z.cell? ⟨w.heap.size, 1, none⟩ = some (.bool false)
  c2 : z.cell? ⟨w.heap.size, 2, none⟩ = some (.int .i64 v)
  c3 : z.cell? ⟨w.heap.size, 3, none⟩ = some (.string ⟨#[]⟩)
  lo : Loose z w.heap.size
  lt : w.heap.size < z.heap.size
  bl : Below w.heap.size w z
theorem St.on {w z z' : World} {v : Int} (h : St w z v) (hb : Below z.heap.size z z') : St w z' v :=
  ⟨cell_later hb h.c0, cell_later hb h.c1, cell_later hb h.c2, cell_later hb h.c3, h.lo.later hb h.lt, Nat.lt_of_lt_of_le h.lt hb.size, Below.on h.bl hb⟩
theorem St.drew {w z : World} {v : Int} (h : St w z v) : St w z.drew v := h.on (Below.drew (Below.refl _ _))
/-- the value is stored -/
abbrev put4 (w z : World) (v : Int) : World := (((z.setCell ⟨w.heap.size, 0, none⟩ (.int .i64 2)).setCell ⟨w.heap.size, 1, none⟩ (.bool false)).setCell ⟨w.heap.size, 2, none⟩ (.int .i64 v)).setCell ⟨w.heap.size, 3, none⟩ (.string ⟨#[]⟩)
theorem St.made {w z : World} {v : Int} {a b c d : Value} (h0 : z.cell? ⟨w.heap.size, 0, none⟩ = some a) (h1 : z.cell? ⟨w.heap.size, 1, none⟩ = some b) (h2 : z.cell? ⟨w.heap.size, 2, none⟩ = some c) (h3 : z.cell? ⟨w.heap.size, 3, none⟩ = some d) (lo : Loose z w.heap.size) (lt : w.heap.size < z.heap.size) (bl : Below w.heap.size w z) : St w (put4 w z v) v := by
  have n : ∀ {i j : Nat}, i ≠ j → (⟨w.heap.size, i, none⟩ : Addr) ≠ ⟨w.heap.size, j, none⟩ := fun h e => h (by injection e)
  refine ⟨?_, ?_, ?_, ?_, (((lo.setc _ _).setc _ _).setc _ _).setc _ _, by simpa using lt, (((bl.setCell (p := ⟨w.heap.size, 0, none⟩) (Nat.le_refl _) _).setCell (p := ⟨w.heap.size, 1, none⟩) (Nat.le_refl _) _).setCell (p := ⟨w.heap.size, 2, none⟩) (Nat.le_refl _) _).setCell (p := ⟨w.heap.size, 3, none⟩) (Nat.le_refl _) _⟩
  · exact cell_setc (n (by decide)) (cell_setc (n (by decide)) (cell_setc (n (by decide)) (World.cell?_setCell_same _ _ _ h0)))
  · exact cell_setc (n (by decide)) (cell_setc (n (by decide)) (World.cell?_setCell_same _ _ _ (cell_setc (n (by decide)) h1)))
  · exact cell_setc (n (by decide)) (World.cell?_setCell_same _ _ _ (cell_setc (n (by decide)) (cell_setc (n (by decide)) h2)))
  · exact World.cell?_setCell_same _ _ _ (cell_setc (n (by decide)) (cell_setc (n (by decide)) (cell_setc (n (by decide)) h3)))
theorem St.put {w z : World} {v : Int} (h : St w z v) : St w (put4 w z v) v := St.made h.c0 h.c1 h.c2 h.c3 h.lo h.lt h.bl
theorem ab_loose (w : World) : Loose (w.alloc (.cells #[.int .i64 0, .bool false, .int .i64 0, .string ⟨#[]⟩] 32)) w.heap.size := by intro o; simp [go_sem]
theorem ab_cells {w w1 : World} (hb : Below (w.alloc (.cells #[.int .i64 0, .bool false, .int .i64 0, .string ⟨#[]⟩] 32)).heap.size (w.alloc (.cells #[.int .i64 0, .bool false, .int .i64 0, .string ⟨#[]⟩] 32)) w1) :
    w1.cell? ⟨w.heap.size, 0, none⟩ = some (.int .i64 0) ∧ w1.cell? ⟨w.heap.size, 1, none⟩ = some (.bool false) ∧ w1.cell? ⟨w.heap.size, 2, none⟩ = some (.int .i64 0) ∧ w1.cell? ⟨w.heap.size, 3, none⟩ = some (.string ⟨#[]⟩) :=
  ⟨cell_later hb (by simp [go_sem]), cell_later hb (by simp [go_sem]), cell_later hb (by simp [go_sem]), cell_later hb (by simp [go_sem])⟩
set_option maxHeartbeats 1000000 in
theorem vo_lit {l : List Nat} (h : l = nNull ∨ l = nTrue ∨ l = nFalse) (w : World) : Calls Tryd.prog 36 #[.string (ofNats l)] w (Vo l w) := by
  have h8 : B8 l := by
    rcases h with rfl | rfl | rfl
    · intro x hx; simp [nNull] at hx; omega
    · intro x hx; simp [nTrue] at hx; omega
    · intro x hx; simp [nFalse] at hx; omega
  obtain ⟨l1, l2, l3⟩ := heard_lits h8
  rcases h with rfl | rfl | rfl
  · rw [decide_eq_true rfl] at l1
    go_enter Tryd.func36, Tryd.ntmps36
    go_wp2_with fail
    refine bodyPost_ret (v := .tuple #[vlv 0 false 0 ⟨#[]⟩, .bool true]) (by simp [results, Tryd.results36, go_sem]) rfl ⟨vNull, true, rfl, rfl, ?_⟩
    (repeat (first | exact Below.refl _ _ | assumption | refine Below.drew ?_ | refine Below.al ?_ _ | refine Below.setCell ?_ (by first | exact Nat.le_refl _ | (simp; omega) | (simp; done)) _ | refine Below.on ?_ (by assumption)))
  · rw [decide_eq_false (by decide)] at l1 l3
    rw [decide_eq_true rfl] at l2
    go_enter Tryd.func36, Tryd.ntmps36
    go_wp2_with (go_at_call 46; refine (flag_is _ _).mono ?_; rintro e w1 ⟨rfl, hb1⟩; have hl1 := Loose.later (p := w.heap.size) (ab_loose w) hb1 (by simp); obtain ⟨r0, r1, r2, r3⟩ := ab_cells hb1; have f0 := hl1 0; have f1 := hl1 1; have f2 := hl1 2; have f3 := hl1 3; have HB1 := hid hb1; clear hb1)
    refine bodyPost_ret (v := .tuple #[vlv 1 true 0 ⟨#[]⟩, .bool true]) (by simp [results, Tryd.results36, go_sem, r0, r1, r2, r3]) rfl ⟨vBool true, true, rfl, rfl, ?_⟩
    have hbb := Below.on (Below.al (Below.refl w.heap.size w) _) HB1.out
    (repeat (first | exact Below.refl _ _ | assumption | refine Below.drew ?_ | refine Below.al ?_ _ | refine Below.setCell ?_ (by first | exact Nat.le_refl _ | (simp; omega) | (simp; done)) _ | refine Below.on ?_ (by assumption)))
  · rw [decide_eq_false (by decide)] at l1 l2
    rw [decide_eq_true rfl] at l3
    go_enter Tryd.func36, Tryd.ntmps36
    go_wp2_with (go_at_call 46; refine (flag_is _ _).mono ?_; rintro e w1 ⟨rfl, hb1⟩; have hl1 := Loose.later (p := w.heap.size) (ab_loose w) hb1 (by simp); obtain ⟨r0, r1, r2, r3⟩ := ab_cells hb1; have f0 := hl1 0; have f1 := hl1 1; have f2 := hl1 2; have f3 := hl1 3; have HB1 := hid hb1; clear hb1)
    refine bodyPost_ret (v := .tuple #[vlv 1 false 0 ⟨#[]⟩, .bool true]) (by simp [results, Tryd.results36, go_sem, r0, r1, r2, r3]) rfl ⟨vBool false, true, rfl, rfl, ?_⟩
    have hbb := Below.on (Below.al (Below.refl w.heap.size w) _) HB1.out
    (repeat (first | exact Below.refl _ _ | assumption | refine Below.drew ?_ | refine Below.al ?_ _ | refine Below.setCell ?_ (by first | exact Nat.le_refl _ | (simp; omega) | (simp; done)) _ | refine Below.on ?_ (by assumption)))
set_option maxHeartbeats 1000000 in
theorem vo_text {r : List Nat} (h8 : B8 (39 :: r)) (hl : r.length ≤ 67108864) (w : World) : Calls Tryd.prog 36 #[.string (ofNats (39 :: r))] w (Vo (39 :: r) w) := by
  obtain ⟨l1, l2, l3⟩ := heard_lits h8
  rw [decide_eq_false (by simp)] at l1 l2 l3
  have r8 : B8 r := fun x hx => h8 x (by simp [hx])
  have HC := fun w => hid (cut_quote (r := r) w)
  have HV : Hid (hearL (39 :: r) = (unword r).map vText) := by
    show _ = _
    unfold hearL
    rw [if_neg (by simp), if_neg (by simp), if_neg (by simp), if_pos (show (39 :: r).head? = some 39 from rfl), List.tail_cons]
  obtain ⟨x, hx⟩ : ∃ x, Rt.unA r = x := ⟨_, rfl⟩
  obtain ⟨xs, xe⟩ := x
  have HU : ∀ w, Hid (Calls Tryd.prog 60 #[.string (ofNats r)] w fun e w' => e = .returned (.tuple #[.string (ofNats xs), .int .i64 xe]) ∧ Below w.heap.size w w') := fun w => by
    have h := unword_is r8 (show r.length + 1 ≤ 140737488355328 by omega) w
    rw [hx] at h
    exact hid h
  have HX : Hid (hearL (39 :: r) = if xe == 0 then some (vText xs) else none) := by
    show _ = _
    rw [HV.out]
    unfold Rt.unA at hx
    cases hu : unword r with
    | none => rw [hu] at hx; injection hx with h1 h2; subst h1 h2; rfl
    | some y => rw [hu] at hx; injection hx with h1 h2; subst h1 h2; rfl
  obtain ⟨b, hb⟩ : ∃ b, b = ofNats (39 :: r) := ⟨_, rfl⟩
  obtain ⟨c, hc⟩ : ∃ c, c = ofNats r := ⟨_, rfl⟩
  obtain ⟨z, hz⟩ : ∃ z, z = ofNats xs := ⟨_, rfl⟩
  have HZ := hid hz
  rw [← hb] at HC l1 l2 l3 ⊢
  rw [← hc] at HC HU
  rw [← hz] at HU
  clear hb hc hz hx h8 r8 HV
  go_enter Tryd.func36, Tryd.ntmps36
  go_wp2_with (first
    | (go_at_call 59; refine (HC _).out.mono ?_; rintro e w2 ⟨rfl, hw⟩; replace hw := hw.symm; subst hw)
    | (go_at_call 60; refine (HU _).out.mono ?_; rintro e w2 ⟨rfl, hb2⟩)
    | (go_at_call 61; refine (txt_is _ _).mono ?_; rintro e w1 ⟨rfl, hb3⟩; have hb1 := Below.on hb2 hb3; clear hb2 hb3; have hl1 := Loose.later (p := w.heap.size) (ab_loose w) hb1 (by simp); obtain ⟨r0, r1, r2, r3⟩ := ab_cells hb1; have f0 := hl1 0; have f1 := hl1 1; have f2 := hl1 2; have f3 := hl1 3; have HB1 := hid hb1; clear hb1))
  refine bodyPost_ret (v := .tuple #[vlv 3 false 0 z, .bool (xe == 0)]) (by simp [results, Tryd.results36, go_sem, r0, r1, r2, r3]) rfl ⟨vText xs, xe == 0, by rw [HZ.out]; rfl, HX.out, ?_⟩
  have hbb := Below.on (Below.al (Below.refl w.heap.size w) _) HB1.out
  (repeat (first | exact Below.refl _ _ | assumption | refine Below.drew ?_ | refine Below.al ?_ _ | refine Below.setCell ?_ (by first | exact Nat.le_refl _ | (simp; omega) | (simp; done)) _ | refine Below.on ?_ (by assumption)))
theorem ne_nil (tp : TypeId) (pv : Value) (w : World) : (binOp .eql 82 (.iface tp pv) .nilIface).run Tryd.prog w = .ok (.bool false) w := run_eql_held_nil w _ _ _ (by kernel_rfl)
theorem eq_nil (w : World) : (binOp .eql 82 .nilIface .nilIface).run Tryd.prog w = .ok (.bool true) w := by kernel_rfl
set_option maxHeartbeats 1000000 in
theorem vo_bad {l : List Nat} (h8 : B8 l) (hl : l.length ≤ 67108864) (h1 : l ≠ nNull) (h2 : l ≠ nTrue) (h3 : l ≠ nFalse) (h4 : l.head? ≠ some 39) (hp : ∀ v, Lib.parseIntB 64 (ofNats l).data.toList ≠ .ok v) {w : World} (hv : Vars w) : Calls Tryd.prog 36 #[.string (ofNats l)] w (Vo l w) := by
  obtain ⟨l1, l2, l3⟩ := heard_lits h8
  rw [decide_eq_false h1] at l1
  rw [decide_eq_false h2] at l2
  rw [decide_eq_false h3] at l3
  have HX := hid (hear_bad h1 h2 h3 h4 hp)
  have HC := fun w => hid (cut_plain h8 h4 w)
  have HP : ∀ w', Below w.heap.size w w' → Hid (Calls Tryd.prog 62 #[.string (ofNats l), .int .i64 10, .int .i64 64] w' fun e w'' => ∃ v tp pv, e = .returned (.tuple #[.int .i64 v, .iface tp pv]) ∧ Below w'.heap.size w' w'') := fun w' hb => hid (pint_bad hl hp (hv.later hb))
  obtain ⟨b, hb⟩ : ∃ b, b = ofNats l := ⟨_, rfl⟩
  rw [← hb] at HC HP l1 l2 l3 ⊢
  clear hb h8 h1 h2 h3 h4 hp hv
  go_enter Tryd.func36, Tryd.ntmps36
  go_upto_region 13 with (first
    | (go_at_call 59; refine (HC _).out.mono ?_; rintro e w2 ⟨rfl, hw⟩; replace hw := hw.symm; subst hw)
    | (go_at_call 62; refine (HP _ (by (repeat (first | with_reducible exact Below.refl _ _ | with_reducible assumption | with_reducible refine Below.drew ?_ | with_reducible refine Below.al ?_ _ | with_reducible refine Below.setCell ?_ (by first | exact Nat.le_refl _ | (simp; omega) | (simp; done)) _ | with_reducible refine Below.on ?_ (by assumption))))).out.mono ?_; rintro e w2 ⟨v, tp, pv, rfl, hb2⟩)
    | (go_at_call 63; refine (int_is _ _).mono ?_; rintro e w1 ⟨rfl, hb3⟩; have hb1 := Below.on hb2 hb3; clear hb2 hb3; have hl1 := Loose.later (p := w.heap.size) (ab_loose w) hb1 (by simp); obtain ⟨r0, r1, r2, r3⟩ := ab_cells hb1; have f0 := hl1 0; have f1 := hl1 1; have f2 := hl1 2; have f3 := hl1 3; have HB1 := hid hb1; clear hb1; have hS5 := St.made (v := v) r0 r1 r2 r3 hl1 (by have := HB1.out.size; simp at this; omega) (Below.on (Below.al (Below.refl w.heap.size w) _) HB1.out); clear hl1))
  have hnn := fun w => ne_nil tp pv w
  go_cut [3] (fun s3 wx => s3 = .bool false ∧ St w wx v)
  case first =>
    obtain ⟨X, hX⟩ : ∃ X, X = put4 w w1 v := ⟨_, rfl⟩
    rw [← hX] at hS5
    have e0 : (((w1.setCell ⟨w.heap.size, 0, none⟩ (.int .i64 2)).setCell ⟨w.heap.size, 1, none⟩ (.bool false)).setCell ⟨w.heap.size, 2, none⟩ (.int .i64 v)).setCell ⟨w.heap.size, 3, none⟩ (.string ⟨#[]⟩) = X := hX.symm
    rw [e0]
    clear e0 hX r0 r1 r2 r3 f0 f1 f2 f3
    have c0 := hS5.c0; have c1 := hS5.c1; have c2 := hS5.c2; have c3 := hS5.c3
    have f0 := hS5.lo 0; have f1 := hS5.lo 1; have f2 := hS5.lo 2; have f3 := hS5.lo 3
    go_region
    all_goals (try go_wp2_with fail)
    all_goals go_meet
    all_goals (exact ⟨by simp, by (repeat (first | with_reducible assumption | with_reducible refine St.drew ?_ | with_reducible refine St.put ?_))⟩)
  case rest =>
    rename World => wy
    obtain ⟨rfl, hSy⟩ := hcut
    have y0 := hSy.c0
    have y1 := hSy.c1
    have y2 := hSy.c2
    have y3 := hSy.c3
    have HBY := hid hSy.bl
    clear hSy
    go_wp2_with fail
    refine bodyPost_ret (v := .tuple #[vlv 2 false v ⟨#[]⟩, .bool false]) (by simp [results, Tryd.results36, go_sem, y0, y1, y2, y3]) rfl ⟨vInt v, false, rfl, HX.out, HBY.out⟩
set_option maxHeartbeats 2000000 in
theorem vo_ok {l : List Nat} {v : Int} (h8 : B8 l) (hl : l.length ≤ 67108864) (h1 : l ≠ nNull) (h2 : l ≠ nTrue) (h3 : l ≠ nFalse) (h4 : l.head? ≠ some 39) (hp : Lib.parseIntB 64 (ofNats l).data.toList = .ok v) {w : World} (hv : Vars w) : Calls Tryd.prog 36 #[.string (ofNats l)] w (Vo l w) := by
  obtain ⟨l1, l2, l3⟩ := heard_lits h8
  rw [decide_eq_false h1] at l1
  rw [decide_eq_false h2] at l2
  rw [decide_eq_false h3] at l3
  obtain ⟨u, hu⟩ : ∃ u, decide (Tu.decI v = l) = u := ⟨_, rfl⟩
  have HX : Hid (hearL l = if u then some (vInt v) else none) := by
    show _ = _
    rw [hear_ok h1 h2 h3 h4 hp, ← hu]
    by_cases e : Tu.decI v = l
    · rw [if_pos e, decide_eq_true e]; rfl
    · rw [if_neg e, decide_eq_false e]; rfl
  have h64 := prs_in hp
  have d8 : B8 (Tu.decI v) := fun x hx => by have := decI_range v x hx; omega
  have hq : ((ofNats (Tu.decI v)).toList == (ofNats l).toList) = u := by rw [beq_nats d8 h8, hu]
  have HC := fun w => hid (cut_plain h8 h4 w)
  have HP := fun w => hid (pint_ok hl hp w)
  obtain ⟨z, hz⟩ : ∃ z, z = ofNats (Tu.decI v) := ⟨_, rfl⟩
  have HW : ∀ y, St w y v → Hid (Calls Tryd.prog 32 #[vlv 2 false v ⟨#[]⟩] y fun e y' => e = .returned (.string z) ∧ St w y' v) := fun y hS => by
    rw [hz]
    exact hid ((wordOf_is (x := vInt v) ⟨h64, B8.nil⟩ (by show 3 * 0 + 10 ≤ _; omega) y (hv.pow.later hS.bl)).mono fun e y' ⟨he, hb⟩ => ⟨he, hS.on hb⟩)
  obtain ⟨b, hb⟩ : ∃ b, b = ofNats l := ⟨_, rfl⟩
  rw [← hb] at HC HP l1 l2 l3 hq ⊢
  rw [← hz] at hq
  clear hb hz h8 h1 h2 h3 h4 hp hv hu d8 h64
  go_enter Tryd.func36, Tryd.ntmps36
  go_upto_region 13 with (first
    | (go_at_call 59; refine (HC _).out.mono ?_; rintro e w2 ⟨rfl, hw⟩; replace hw := hw.symm; subst hw)
    | (go_at_call 62; refine (HP _).out.mono ?_; rintro e w2 ⟨rfl, hb2⟩)
    | (go_at_call 63; refine (int_is _ _).mono ?_; rintro e w1 ⟨rfl, hb3⟩; have hb1 := Below.on hb2 hb3; clear hb2 hb3; have hl1 := Loose.later (p := w.heap.size) (ab_loose w) hb1 (by simp); obtain ⟨r0, r1, r2, r3⟩ := ab_cells hb1; have f0 := hl1 0; have f1 := hl1 1; have f2 := hl1 2; have f3 := hl1 3; have HB1 := hid hb1; clear hb1; have hS5 := St.made (v := v) r0 r1 r2 r3 hl1 (by have := HB1.out.size; simp at this; omega) (Below.on (Below.al (Below.refl w.heap.size w) _) HB1.out); clear hl1))
  have hnn := fun w => eq_nil w
  go_cut [3] (fun s3 wx => s3 = .bool u ∧ St w wx v)
  case first =>
    obtain ⟨X, hX⟩ : ∃ X, X = put4 w w1 v := ⟨_, rfl⟩
    rw [← hX] at hS5
    have e0 : (((w1.setCell ⟨w.heap.size, 0, none⟩ (.int .i64 2)).setCell ⟨w.heap.size, 1, none⟩ (.bool false)).setCell ⟨w.heap.size, 2, none⟩ (.int .i64 v)).setCell ⟨w.heap.size, 3, none⟩ (.string ⟨#[]⟩) = X := hX.symm
    rw [e0]
    clear e0 hX r0 r1 r2 r3 f0 f1 f2 f3
    go_region_held3 (fun z => z.cell? ⟨w.heap.size, 0, none⟩ = some (.int .i64 2) ∧ z.cell? ⟨w.heap.size, 1, none⟩ = some (.bool false) ∧ z.cell? ⟨w.heap.size, 2, none⟩ = some (.int .i64 v) ∧ z.cell? ⟨w.heap.size, 3, none⟩ = some (.string ⟨#[]⟩) ∧ z.frozen? ⟨w.heap.size, 0, none⟩ = false ∧ z.frozen? ⟨w.heap.size, 1, none⟩ = false ∧ z.frozen? ⟨w.heap.size, 2, none⟩ = false ∧ z.frozen? ⟨w.heap.size, 3, none⟩ = false ∧ St w z v)
      ((refine (fun (hS : St w _ v) => ⟨hS.c0, hS.c1, hS.c2, hS.c3, hS.lo 0, hS.lo 1, hS.lo 2, hS.lo 3, hS⟩) ?_; (repeat (first | with_reducible assumption | with_reducible refine St.drew ?_ | with_reducible refine St.put ?_))))
      (first | (go_at_call 32; refine (HW _ (by (repeat (first | with_reducible assumption | with_reducible refine St.drew ?_ | with_reducible refine St.put ?_)))).out.mono ?_; rintro e w6 ⟨rfl, hS6⟩))
    all_goals (try go_wp2_with fail)
    all_goals go_meet
    all_goals (exact ⟨by simp, by (repeat (first | with_reducible assumption | with_reducible refine St.drew ?_ | with_reducible refine St.put ?_))⟩)
  case rest =>
    rename World => wy
    obtain ⟨rfl, hSy⟩ := hcut
    have y0 := hSy.c0
    have y1 := hSy.c1
    have y2 := hSy.c2
    have y3 := hSy.c3
    have HBY := hid hSy.bl
    clear hSy
    go_wp2_with fail
    refine bodyPost_ret (v := .tuple #[vlv 2 false v ⟨#[]⟩, .bool u]) (by simp [results, Tryd.results36, go_sem, y0, y1, y2, y3]) rfl ⟨vInt v, u, rfl, HX.out, HBY.out⟩
theorem valueOf_is {l : List Nat} (h8 : B8 l) (hl : l.length ≤ 67108864) {w : World} (hv : Vars w) : Calls Tryd.prog 36 #[.string (ofNats l)] w (Vo l w) := by
  by_cases h1 : l = nNull
  · exact vo_lit (.inl h1) w
  by_cases h2 : l = nTrue
  · exact vo_lit (.inr (.inl h2)) w
  by_cases h3 : l = nFalse
  · exact vo_lit (.inr (.inr h3)) w
  by_cases h4 : l.head? = some 39
  · obtain ⟨r, rfl⟩ : ∃ r, l = 39 :: r := by
      cases l with
      | nil => cases h4
      | cons c r => exact ⟨r, by simpa using h4⟩
    exact vo_text h8 (by rw [List.length_cons] at hl; omega) w
  by_cases hp : ∃ v, Lib.parseIntB 64 (ofNats l).data.toList = .ok v
  · obtain ⟨v, hp⟩ := hp
    exact vo_ok h8 hl h1 h2 h3 h4 hp hv
  · exact vo_bad h8 hl h1 h2 h3 h4 (fun v e => hp ⟨v, e⟩) hv
end Go.Proofs.YtfafkohghgliaabDoor.Tu
