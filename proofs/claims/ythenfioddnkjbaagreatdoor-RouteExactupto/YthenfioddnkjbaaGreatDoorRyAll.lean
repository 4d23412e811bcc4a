import Derived.Test.YthenfioddnkjbaaGreatDoorRxNumE
import Derived.Test.YthenfioddnkjbaaGreatDoorRdStep
/- The program's number at any word; a line's number, taken. -/
namespace Go.Proofs.YthenfioddnkjbaaGreatDoor.Rt
open Go.RowKit Go.Sort
set_option linter.unusedVariables false

theorem parse_ok {t : ByteArray} {u : Nat} (hs : t.size ≤ 1000) (h0 : t.data.toList ≠ []) (h : Lib.parseUint10 0 t.data.toList = .ok u) (w : World) :
    Calls Tryz.prog 134 #[.string t, .int .i64 10, .int .i64 64] w fun e w' => e = .returned (.tuple #[.int .u64 (u : Nat), .nilIface]) ∧ Below w.heap.size w w' := by
  refine (Tryz.strconv_ParseUint_10_at64_ok t (by omega) u ?_ w).mono ?_
  · unfold Lib.parseUintB
    simp [h0, h, Lib.parseUintM_64]
  · rintro e w' ⟨rfl, rfl | rfl⟩
    · exact ⟨rfl, Below.refl _ _⟩
    · exact ⟨rfl, bytes_below w _ t⟩
set_option maxRecDepth 16000 in
set_option maxHeartbeats 2000000 in
/-- a number -/
theorem number_ok {t : ByteArray} {u : Nat} {a : Addr} {w : World} (hs : t.size ≤ 1000) (h0 : t.data.toList ≠ []) (hz : ¬ (1 < t.size ∧ t.data.toList[0]? = some 48)) (hd : ∀ b ∈ t.data.toList, 48 ≤ b.toNat ∧ b.toNat ≤ 57) (h : Lib.parseUint10 0 t.data.toList = .ok u)
    (hr : w.cell? ⟨4, 0, none⟩ = some (errV a)) :
    Calls Tryz.prog 122 #[.string t] w fun e w' => e = .returned (.tuple #[.int .u64 (u : Nat), .nilIface]) ∧ Below w.heap.size w w' := by
  have hp : 0 < t.size := by rw [Lib.size_eq]; exact List.length_pos_iff.2 h0
  have HT := hid (trim_is hp hs hd)
  have HP := hid (parse_ok hs h0 h)
  have HR := hid hr
  obtain ⟨c, hc⟩ : ∃ c, t.data.toList[0]? = some c := by
    cases e : t.data.toList with
    | nil => exact absurd e h0
    | cons b r => exact ⟨b, rfl⟩
  have hix : ∀ w, (Instr.index 9 (.string t) (.int .i64 0)).run Tryz.prog w = .ok (.int .u8 (c.toNat : Int)) w := index_bytes (k := 0) hc
  have HK : ∀ P : Prop, (decide ((1 : Int) < (t.size : Int)) = false → P) → ((1 : Int) < (t.size : Int) → ((c.toNat : Int) == 48) = false → P) → P := fun P p1 p2 => by
    by_cases h1 : 1 < t.size
    · refine p2 (by omega) ?_
      rw [beq_eq_false_iff_ne]; intro h; apply hz
      refine ⟨h1, ?_⟩
      rw [hc]; congr 1; apply UInt8.toNat_inj.1
      have : (48 : UInt8).toNat = 48 := rfl
      omega
    · exact p1 (decide_eq_false (by omega))
  clear hd hr h h0 hz hc
  apply HK
  all_goals
    intros
    clear HK
    go_enter Tryz.func122, Tryz.ntmps122
    go_wp2_with fail
    refine (HT.out _).mono ?_
    rintro e w1 ⟨rfl, hb1⟩
    go_wp2_with fail
    refine (HP.out _).mono ?_
    rintro e w2 ⟨rfl, hb2⟩
    have hb02 := Below.on hb1 hb2
    have g := cell_later hb02 HR.out
    have HB2 := hid hb02
    clear hb1 hb2 hb02
    go_wp2_with fail
    refine (is_nil _).mono ?_
    rintro e w3 ⟨rfl, rfl⟩
    go_wp2_with fail
    go_ret2
    exact ⟨rfl, HB2.out⟩
/-- what the program asks of the variables, at any text -/
structure Gx (w : World) (a b r s : Addr) : Prop where
  errs : Errs w a b
  max : ∃ m, w.cell? ⟨5, 0, none⟩ = some (.int .i64 m)
  rng : w.cell? ⟨4, 0, none⟩ = some (errV r)
  syn : w.cell? ⟨10, 0, none⟩ = some (errV s)
  ne : s ≠ r
  rowR : ∃ c t, w.heap[r.block]? = some (.cells c t (0, 0))
  rowS : ∃ c t, w.heap[s.block]? = some (.cells c t (0, 0))
theorem Gx.later {w w' : World} {a b r s : Addr} (h : Gx w a b r s) (hb : Below w.heap.size w w') : Gx w' a b r s := by
  obtain ⟨m, hm⟩ := h.max
  obtain ⟨c1, t1, h1⟩ := h.rowR
  obtain ⟨c2, t2, h2⟩ := h.rowS
  exact ⟨h.errs.later hb, ⟨m, cell_later hb hm⟩, cell_later hb h.rng, cell_later hb h.syn, h.ne, ⟨c1, t1, obj_later hb h1⟩, ⟨c2, t2, obj_later hb h2⟩⟩
theorem Gx.gl {w : World} {a b r s : Addr} (h : Gx w a b r s) : Gl w a b := ⟨h.errs, h.max, ⟨_, _, h.rng⟩⟩
def numN : Option (Option Nat) → Nat
  | some (some n) => n
  | _ => 0
def numE (a b : Addr) : Option (Option Nat) → Value
  | .none => errV a
  | some .none => errV b
  | some (some _) => .nilIface
theorem no_syntax : ∀ (l : List UInt8) (acc : Nat), (∀ b ∈ l, 48 ≤ b.toNat ∧ b.toNat ≤ 57) → Lib.parseUint10 acc l ≠ .«syntax»
  | [], acc, _ => by simp [Lib.parseUint10]
  | c :: r, acc, h => by
    rw [Lib.parseUint10, if_pos (h c (List.mem_cons_self ..))]
    split
    · simp
    · split
      · simp
      · exact no_syntax r _ fun b hb => h b (List.mem_cons_of_mem _ hb)
theorem numN_lt {l : List UInt8} : numN (num l) < 18446744073709551616 := by
  unfold num
  split
  · simp [numN]
  · split
    · rename_i n h
      exact Lib.parseUint10_lt _ _ _ (by decide) h
    · simp [numN]
    · simp [numN]
theorem number_any {t : ByteArray} {a b r s : Addr} {w : World} (hs : t.size ≤ 1000) (hG : Gx w a b r s) :
    Calls Tryz.prog 122 #[.string t] w fun e w' => e = .returned (.tuple #[.int .u64 (numN (num t.data.toList) : Nat), numE a b (num t.data.toList)]) ∧ Below w.heap.size w w' := by
  by_cases ha : t.data.toList.all (fun b => decide (48 ≤ b.toNat) && decide (b.toNat ≤ 57)) = false
  · have e : num t.data.toList = .none := by unfold num; rw [if_pos (.inl ha)]
    rw [e]
    obtain ⟨c, hc, hd⟩ := List.all_eq_false.1 ha
    obtain ⟨k, hk⟩ := List.mem_iff_getElem?.1 hc
    exact number_bad hs hk (by simpa [isD] using hd) hG.errs.form
  · have hd : ∀ b ∈ t.data.toList, 48 ≤ b.toNat ∧ b.toNat ≤ 57 := fun b hb => by
      have := List.all_eq_true.1 (by simpa using ha) b hb
      simpa using this
    by_cases hz : 1 < t.size ∧ t.data.toList[0]? = some 48
    · have e : num t.data.toList = .none := by
        unfold num
        rw [if_pos (.inr (.inl ⟨by rw [← Lib.size_eq]; exact hz.1, by rw [List.head?_eq_getElem?]; exact hz.2⟩))]
      rw [e]
      exact number_led hs hz.1 hz.2 hd hG.errs.form
    · by_cases h0 : t.data.toList = []
      · have e : num t.data.toList = .none := by unfold num; rw [if_pos (.inr (.inr h0))]
        rw [e]
        obtain rfl : t = ⟨#[]⟩ := ba_eq (by rw [h0])
        obtain ⟨c1, t1, h1⟩ := hG.rowR
        obtain ⟨c2, t2, h2⟩ := hG.rowS
        exact number_none hG.ne h2 h1 hG.syn hG.rng hG.errs.form
      · have e : num t.data.toList = match Lib.parseUint10 0 t.data.toList with
            | .ok n => some (some n)
            | .range => some .none
            | _ => .none := by
          unfold num
          refine if_neg ?_
          rintro (h | h | h)
          · exact ha h
          · exact hz ⟨by rw [Lib.size_eq]; exact h.1, by rw [← List.head?_eq_getElem?]; exact h.2⟩
          · exact h0 h
        rw [e]
        cases hq : Lib.parseUint10 0 t.data.toList with
        | ok u => exact number_ok hs h0 hz hd hq hG.rng
        | range => exact number_over hs h0 hz hd hq hG.rng hG.errs.limit
        | «syntax» => exact absurd hq (no_syntax _ _ hd)
set_option maxRecDepth 16000 in
set_option maxHeartbeats 2000000 in
theorem ftake_any {u o p : Nat} {t : ByteArray} {y : Value} {w : World} {x : Value} (hn : ∀ wc : World, (∀ q : Nat, q ≠ p → wc.heap[q]? = w.heap[q]?) → wc.heap.size = w.heap.size → wc.os = w.os → wc.tape = w.tape → wc.output = w.output → Calls Tryz.prog 122 #[.string t] wc fun e w' => e = .returned (.tuple #[.int .u64 (u : Nat), y]) ∧ Below wc.heap.size wc w')
    (h0 : w.cell? ⟨p, o, none⟩ = some (.bool false)) (h1 : w.cell? ⟨p, o + 1, none⟩ = some x) (hf : ∀ o, w.frozen? ⟨p, o, none⟩ = false) (hl : p < w.heap.size) :
    Calls Tryz.prog 106 #[.pointer (some ⟨p, o, none⟩), .string t] w fun e w' => e = .returned y ∧ ∃ w1, Below w.heap.size (w.setCell ⟨p, o, none⟩ (.bool true)) w1 ∧ w' = w1.setCell ⟨p, o + 1, none⟩ (.int .u64 (u : Nat)) := by
  obtain ⟨wc, hwc⟩ : ∃ wc, wc = w.setCell ⟨p, o, none⟩ (.bool true) := ⟨_, rfl⟩
  have hsz : wc.heap.size = w.heap.size := by rw [hwc, World.size_setCell]
  have HN := hid (hn wc (fun q hq => by rw [hwc]; exact Below.heap_setCell _ _ _ _ hq) hsz (by rw [hwc]; rfl) (by rw [hwc]; rfl) (by rw [hwc]; rfl))
  clear hn
  have f0 := hf o
  have h1c : wc.cell? ⟨p, o + 1, none⟩ = some x := by rw [hwc, World.cell?_setCell_other (h := fun e => by have := congrArg Addr.off e; simp at this)]; exact h1
  have f1 : wc.frozen? ⟨p, o + 1, none⟩ = false := by rw [hwc, World.frozen?_setCell]; exact hf _
  have hlc : p < wc.heap.size := by rw [hwc, World.size_setCell]; exact hl
  go_enter Tryz.func106, Tryz.ntmps106
  go_wp2_with fail
  rw [← hwc]
  refine HN.out.mono ?_
  rintro e w2 ⟨rfl, hb⟩
  have k1 := cell_later hb h1c
  have k2 := (hb.frozen (p := ⟨p, o + 1, none⟩) hlc).trans f1
  go_wp2_with fail
  go_ret
  exact ⟨rfl, w2, by rw [← hwc, ← hsz]; exact hb, rfl⟩
/-- how a line fares: its fault -/
def rOx (a b : Addr) (c : Nat) : Value := if c = 0 then .nilIface else if c = 2 then errV b else errV a
theorem Gx.off {wg w wc : World} {a b r s : Addr} {p : Nat} (h : Gx wg a b r s) (hb : Below wg.heap.size wg w) (hp : wg.heap.size ≤ p) (hq : ∀ q : Nat, q ≠ p → wc.heap[q]? = w.heap[q]?) (hsz : wc.heap.size = w.heap.size) (h1 : wc.os = w.os) (h2 : wc.tape = w.tape) (h3 : wc.output = w.output) : Gx wc a b r s :=
  h.later ⟨h1.trans hb.os, h2.trans hb.tape, h3.trans hb.output, by rw [hsz]; exact hb.size, fun k hk => (hq k (by omega)).trans (hb.block k hk)⟩
/-- a number's line, taken at any word -/
theorem takeN_is {wg wl w : World} {p k : Nat} {d : Dr} {v : Value} {a b r s : Addr} {t : ByteArray} (hg : Gx wg a b r s) (h : StD wg wl w p d v) (hk : k < 5) (hs : t.size ≤ 1000) (m : Nat) :
    Calls Tryz.prog 106 #[.pointer (some ⟨p, 2 * k, none⟩), .string t] (w.drewN m) fun e w' => e = .returned (rOx a b (takeN d k t.data.toList).1) ∧ ∃ v', StD wg wl w' p (takeN d k t.data.toList).2 v' := by
  have h' := h.drew m
  have c0 : (w.drewN m).cell? ⟨p, 2 * k, none⟩ = some (.bool (d.f k).isSome) := by
    match k, hk with
    | 0, _ => exact h'.box.s0
    | 1, _ => exact h'.box.s1
    | 2, _ => exact h'.box.s2
    | 3, _ => exact h'.box.s3
    | 4, _ => exact h'.box.s4
  have c1 : ∃ x, (w.drewN m).cell? ⟨p, 2 * k + 1, none⟩ = some x := by
    match k, hk with
    | 0, _ => exact ⟨_, h'.box.v0⟩
    | 1, _ => exact ⟨_, h'.box.v1⟩
    | 2, _ => exact ⟨_, h'.box.v2⟩
    | 3, _ => exact ⟨_, h'.box.v3⟩
    | 4, _ => exact ⟨_, h'.box.v4⟩
  obtain ⟨x, c1⟩ := c1
  cases hf : (d.f k).isSome with
  | true =>
    rw [hf] at c0
    have e : takeN d k t.data.toList = (1, d) := by unfold takeN; rw [if_pos hf]
    rw [e]
    refine (ftwice_is c0 (hg.later h'.bel).errs.form).mono ?_
    rintro e w' ⟨rfl, rfl⟩
    exact ⟨rfl, v, h'⟩
  | false =>
    rw [hf] at c0
    have e : rOx a b (takeN d k t.data.toList).1 = numE a b (num t.data.toList) ∧ (takeN d k t.data.toList).2 = d.put k (numN (num t.data.toList)) := by
      unfold takeN
      rw [if_neg (by rw [hf]; decide)]
      cases num t.data.toList with
      | none => exact ⟨rfl, rfl⟩
      | some o => cases o with
        | none => exact ⟨rfl, rfl⟩
        | some n => exact ⟨rfl, rfl⟩
    rw [e.1, e.2]
    refine (ftake_any (u := numN (num t.data.toList)) (y := numE a b (num t.data.toList)) (fun wc hq hsz ho ht hu => number_any hs (hg.off h'.bel h.gp hq hsz ho ht hu)) c0 c1 h'.loose h'.ltw).mono ?_
    rintro e w' ⟨rfl, w1, hb, rfl⟩
    exact ⟨rfl, v, h'.put hk numN_lt hb⟩
end Go.Proofs.YthenfioddnkjbaaGreatDoor.Rt
/- A line, taken, whatever stands in it. -/
namespace Go.Proofs.YthenfioddnkjbaaGreatDoor.Rt
open Go.RowKit Go.Sort
set_option linter.unusedVariables false

theorem line_any {L : ByteArray} (h0 : L.data.toList ≠ []) (h35 : L.data.toList.head? ≠ some 35) : ∃ h0 : 0 < L.size, (((L[0]'h0).toNat : Int) == 35) = false ∧ L.toList.isEmpty = false ∧ (⟨(Lib.cut L.data.toList [32]).1.toArray⟩ : ByteArray) = ⟨(headB L.data.toList).toArray⟩ ∧ (⟨(Lib.cut L.data.toList [32]).2.1.toArray⟩ : ByteArray) = ⟨(tailB L.data.toList).toArray⟩ := by
  have hp : 0 < L.size := by rw [Lib.size_eq]; exact List.length_pos_iff.2 h0
  have h6 : L.data.toList.head? = some (L[0]'hp) := by
    rw [List.head?_eq_getElem?, Array.getElem?_toList]
    exact Array.getElem?_eq_getElem (by exact hp)
  refine ⟨hp, ?_, ?_, ?_, ?_⟩
  · rw [beq_eq_false_iff_ne]
    intro h8
    apply h35
    rw [h6]
    congr 1
    apply UInt8.toNat_inj.1
    have : (35 : UInt8).toNat = 35 := rfl
    omega
  · rw [Lib.toList_data]
    cases e : L.data.toList with
    | nil => exact absurd e h0
    | cons a l => rfl
  · rw [(lcut_is _).1]
  · rw [(lcut_is _).2]
set_option maxRecDepth 16000 in
set_option maxHeartbeats 2000000 in
theorem take0_any {p : Nat} {L t : ByteArray} {w : World} {m : Int} {r : Value} {R : World → Prop} (h0 : L.data.toList ≠ []) (h35 : L.data.toList.head? ≠ some 35) (hh : headB L.data.toList = nm 0) (ht : (⟨(tailB L.data.toList).toArray⟩ : ByteArray) = t) (hs : L.size ≤ 1000) (hg : w.cell? ⟨5, 0, none⟩ = some (.int .i64 m))
    (FT : ∀ n, Calls Tryz.prog 106 #[.pointer (some ⟨p, 0, none⟩), .string t] (w.drewN n) fun e w' => e = .returned r ∧ R w') :
    Calls Tryz.prog 87 #[.pointer (some ⟨p, 0, none⟩), .string L] w fun e w' => e = .returned r ∧ R w' := by
  obtain ⟨hp, h3, hne, e1, e2⟩ := line_any h0 h35
  have HC := hid (Tryz.strings_Cut L ⟨#[32]⟩ m w (by omega) hg)
  have hd : (⟨#[32]⟩ : ByteArray).data.toList = [32] := rfl
  rw [hd, e1, e2, hh, ht] at HC
  have FT' := hid FT
  clear FT h0 h35 hh ht e1 e2
  go_enter Tryz.func87, Tryz.ntmps87
  go_wp2_with fail
  refine HC.out.mono ?_
  rintro e w1 ⟨rfl, n, rfl⟩
  go_wp2_with fail
  refine (FT'.out n).mono ?_
  rintro e w2 ⟨rfl, h2⟩
  go_wp2_with fail
  go_ret
  exact ⟨rfl, h2⟩
set_option maxRecDepth 16000 in
set_option maxHeartbeats 2000000 in
theorem take1_any {p : Nat} {L t : ByteArray} {w : World} {m : Int} {r : Value} {R : World → Prop} (h0 : L.data.toList ≠ []) (h35 : L.data.toList.head? ≠ some 35) (hh : headB L.data.toList = nm 1) (ht : (⟨(tailB L.data.toList).toArray⟩ : ByteArray) = t) (hs : L.size ≤ 1000) (hg : w.cell? ⟨5, 0, none⟩ = some (.int .i64 m))
    (FT : ∀ n, Calls Tryz.prog 106 #[.pointer (some ⟨p, 2, none⟩), .string t] (w.drewN n) fun e w' => e = .returned r ∧ R w') :
    Calls Tryz.prog 87 #[.pointer (some ⟨p, 0, none⟩), .string L] w fun e w' => e = .returned r ∧ R w' := by
  obtain ⟨hp, h3, hne, e1, e2⟩ := line_any h0 h35
  have HC := hid (Tryz.strings_Cut L ⟨#[32]⟩ m w (by omega) hg)
  have hd : (⟨#[32]⟩ : ByteArray).data.toList = [32] := rfl
  rw [hd, e1, e2, hh, ht] at HC
  have FT' := hid FT
  clear FT h0 h35 hh ht e1 e2
  go_enter Tryz.func87, Tryz.ntmps87
  go_wp2_with fail
  refine HC.out.mono ?_
  rintro e w1 ⟨rfl, n, rfl⟩
  go_wp2_with fail
  refine (FT'.out n).mono ?_
  rintro e w2 ⟨rfl, h2⟩
  go_wp2_with fail
  go_ret
  exact ⟨rfl, h2⟩
set_option maxRecDepth 16000 in
set_option maxHeartbeats 2000000 in
theorem take2_any {p : Nat} {L t : ByteArray} {w : World} {m : Int} {r : Value} {R : World → Prop} (h0 : L.data.toList ≠ []) (h35 : L.data.toList.head? ≠ some 35) (hh : headB L.data.toList = nm 2) (ht : (⟨(tailB L.data.toList).toArray⟩ : ByteArray) = t) (hs : L.size ≤ 1000) (hg : w.cell? ⟨5, 0, none⟩ = some (.int .i64 m))
    (FT : ∀ n, Calls Tryz.prog 106 #[.pointer (some ⟨p, 4, none⟩), .string t] (w.drewN n) fun e w' => e = .returned r ∧ R w') :
    Calls Tryz.prog 87 #[.pointer (some ⟨p, 0, none⟩), .string L] w fun e w' => e = .returned r ∧ R w' := by
  obtain ⟨hp, h3, hne, e1, e2⟩ := line_any h0 h35
  have HC := hid (Tryz.strings_Cut L ⟨#[32]⟩ m w (by omega) hg)
  have hd : (⟨#[32]⟩ : ByteArray).data.toList = [32] := rfl
  rw [hd, e1, e2, hh, ht] at HC
  have FT' := hid FT
  clear FT h0 h35 hh ht e1 e2
  go_enter Tryz.func87, Tryz.ntmps87
  go_wp2_with fail
  refine HC.out.mono ?_
  rintro e w1 ⟨rfl, n, rfl⟩
  go_wp2_with fail
  refine (FT'.out n).mono ?_
  rintro e w2 ⟨rfl, h2⟩
  go_wp2_with fail
  go_ret
  exact ⟨rfl, h2⟩
set_option maxRecDepth 16000 in
set_option maxHeartbeats 2000000 in
theorem take3_any {p : Nat} {L t : ByteArray} {w : World} {m : Int} {r : Value} {R : World → Prop} (h0 : L.data.toList ≠ []) (h35 : L.data.toList.head? ≠ some 35) (hh : headB L.data.toList = nm 3) (ht : (⟨(tailB L.data.toList).toArray⟩ : ByteArray) = t) (hs : L.size ≤ 1000) (hg : w.cell? ⟨5, 0, none⟩ = some (.int .i64 m))
    (FT : ∀ n, Calls Tryz.prog 106 #[.pointer (some ⟨p, 6, none⟩), .string t] (w.drewN n) fun e w' => e = .returned r ∧ R w') :
    Calls Tryz.prog 87 #[.pointer (some ⟨p, 0, none⟩), .string L] w fun e w' => e = .returned r ∧ R w' := by
  obtain ⟨hp, h3, hne, e1, e2⟩ := line_any h0 h35
  have HC := hid (Tryz.strings_Cut L ⟨#[32]⟩ m w (by omega) hg)
  have hd : (⟨#[32]⟩ : ByteArray).data.toList = [32] := rfl
  rw [hd, e1, e2, hh, ht] at HC
  have FT' := hid FT
  clear FT h0 h35 hh ht e1 e2
  go_enter Tryz.func87, Tryz.ntmps87
  go_wp2_with fail
  refine HC.out.mono ?_
  rintro e w1 ⟨rfl, n, rfl⟩
  go_wp2_with fail
  refine (FT'.out n).mono ?_
  rintro e w2 ⟨rfl, h2⟩
  go_wp2_with fail
  go_ret
  exact ⟨rfl, h2⟩
set_option maxRecDepth 16000 in
set_option maxHeartbeats 2000000 in
theorem take4_any {p : Nat} {L t : ByteArray} {w : World} {m : Int} {r : Value} {R : World → Prop} (h0 : L.data.toList ≠ []) (h35 : L.data.toList.head? ≠ some 35) (hh : headB L.data.toList = nm 4) (ht : (⟨(tailB L.data.toList).toArray⟩ : ByteArray) = t) (hs : L.size ≤ 1000) (hg : w.cell? ⟨5, 0, none⟩ = some (.int .i64 m))
    (FT : ∀ n, Calls Tryz.prog 106 #[.pointer (some ⟨p, 8, none⟩), .string t] (w.drewN n) fun e w' => e = .returned r ∧ R w') :
    Calls Tryz.prog 87 #[.pointer (some ⟨p, 0, none⟩), .string L] w fun e w' => e = .returned r ∧ R w' := by
  obtain ⟨hp, h3, hne, e1, e2⟩ := line_any h0 h35
  have HC := hid (Tryz.strings_Cut L ⟨#[32]⟩ m w (by omega) hg)
  have hd : (⟨#[32]⟩ : ByteArray).data.toList = [32] := rfl
  rw [hd, e1, e2, hh, ht] at HC
  have FT' := hid FT
  clear FT h0 h35 hh ht e1 e2
  go_enter Tryz.func87, Tryz.ntmps87
  go_wp2_with fail
  refine HC.out.mono ?_
  rintro e w1 ⟨rfl, n, rfl⟩
  go_wp2_with fail
  refine (FT'.out n).mono ?_
  rintro e w2 ⟨rfl, h2⟩
  go_wp2_with fail
  go_ret
  exact ⟨rfl, h2⟩
set_option maxRecDepth 16000 in
set_option maxHeartbeats 2000000 in
theorem take5_any {p : Nat} {L t : ByteArray} {w : World} {m : Int} {r : Value} {R : World → Prop} (h0 : L.data.toList ≠ []) (h35 : L.data.toList.head? ≠ some 35) (hh : headB L.data.toList = nm 5) (ht : (⟨(tailB L.data.toList).toArray⟩ : ByteArray) = t) (hs : L.size ≤ 1000) (hg : w.cell? ⟨5, 0, none⟩ = some (.int .i64 m))
    (FT : ∀ n, Calls Tryz.prog 107 #[.pointer (some ⟨p, 0, none⟩), .string t] (w.drewN n) fun e w' => e = .returned r ∧ R w') :
    Calls Tryz.prog 87 #[.pointer (some ⟨p, 0, none⟩), .string L] w fun e w' => e = .returned r ∧ R w' := by
  obtain ⟨hp, h3, hne, e1, e2⟩ := line_any h0 h35
  have HC := hid (Tryz.strings_Cut L ⟨#[32]⟩ m w (by omega) hg)
  have hd : (⟨#[32]⟩ : ByteArray).data.toList = [32] := rfl
  rw [hd, e1, e2, hh, ht] at HC
  have FT' := hid FT
  clear FT h0 h35 hh ht e1 e2
  go_enter Tryz.func87, Tryz.ntmps87
  go_wp2_with fail
  refine HC.out.mono ?_
  rintro e w1 ⟨rfl, n, rfl⟩
  go_wp2_with fail
  refine (FT'.out n).mono ?_
  rintro e w2 ⟨rfl, h2⟩
  go_wp2_with fail
  go_ret
  exact ⟨rfl, h2⟩
set_option maxRecDepth 16000 in
set_option maxHeartbeats 2000000 in
theorem takeO_any {p : Nat} {L : ByteArray} {w : World} {m : Int} {r : Value} (h0 : L.data.toList ≠ []) (h35 : L.data.toList.head? ≠ some 35) (hh : ∀ k, k < 6 → headB L.data.toList ≠ nm k) (hs : L.size ≤ 1000) (hg : w.cell? ⟨5, 0, none⟩ = some (.int .i64 m)) (hr : w.cell? ⟨0, 0, none⟩ = some r) :
    Calls Tryz.prog 87 #[.pointer (some ⟨p, 0, none⟩), .string L] w fun e w' => e = .returned r ∧ ∃ n, w' = w.drewN n := by
  obtain ⟨hp, h3, hne, e1, e2⟩ := line_any h0 h35
  have HC := hid (Tryz.strings_Cut L ⟨#[32]⟩ m w (by omega) hg)
  have hd : (⟨#[32]⟩ : ByteArray).data.toList = [32] := rfl
  obtain ⟨X, eX⟩ : ∃ X : ByteArray, X = ⟨(headB L.data.toList).toArray⟩ := ⟨_, rfl⟩
  obtain ⟨Y, eY⟩ : ∃ Y : ByteArray, Y = ⟨(tailB L.data.toList).toArray⟩ := ⟨_, rfl⟩
  rw [hd, e1, e2, ← eX, ← eY] at HC
  have hX : ∀ k, k < 6 → X.data.toList ≠ nm k := fun k hk => by rw [eX]; simpa using hh k hk
  have q0 : (X.toList == [115, 104, 97, 114, 100, 115]) = false := by rw [beq_eq_false_iff_ne]; intro h; exact hX 0 (by decide) (by rw [Lib.toList_data] at h; exact h)
  have q1 : (X.toList == [99, 108, 105, 101, 110, 116, 115]) = false := by rw [beq_eq_false_iff_ne]; intro h; exact hX 1 (by decide) (by rw [Lib.toList_data] at h; exact h)
  have q2 : (X.toList == [99, 97, 112, 97, 99, 105, 116, 121]) = false := by rw [beq_eq_false_iff_ne]; intro h; exact hX 2 (by decide) (by rw [Lib.toList_data] at h; exact h)
  have q3 : (X.toList == [112, 97, 114, 107]) = false := by rw [beq_eq_false_iff_ne]; intro h; exact hX 3 (by decide) (by rw [Lib.toList_data] at h; exact h)
  have q4 : (X.toList == [119, 105, 110, 100, 111, 119]) = false := by rw [beq_eq_false_iff_ne]; intro h; exact hX 4 (by decide) (by rw [Lib.toList_data] at h; exact h)
  have q5 : (X.toList == [115, 112, 108, 105, 116]) = false := by rw [beq_eq_false_iff_ne]; intro h; exact hX 5 (by decide) (by rw [Lib.toList_data] at h; exact h)
  have HR : Hid (∀ n, (w.drewN n).cell? ⟨0, 0, none⟩ = some r) := hid fun n => hr
  clear h0 h35 hh e1 e2 eX eY hX hr
  go_enter Tryz.func87, Tryz.ntmps87
  go_wp2_with fail
  refine HC.out.mono ?_
  rintro e w1 ⟨rfl, n, rfl⟩
  have g := HR.out n
  go_wp2_with fail
  go_ret
  exact ⟨rfl, n, rfl⟩
end Go.Proofs.YthenfioddnkjbaaGreatDoor.Rt
/- One line, taken, whatever stands in it: the draft. -/
namespace Go.Proofs.YthenfioddnkjbaaGreatDoor.Rt
open Go.RowKit Go.Sort
set_option linter.unusedVariables false

set_option maxRecDepth 16000 in
set_option maxHeartbeats 2000000 in
theorem tsplit_bad {w : World} {p : Nat} {l : List Nat} {x : Value} (h8 : B8 l) (hl : l.length ≤ 1000) (hs : unA l = ([], 120)) (hg : w.cell? ⟨0, 0, none⟩ = some x) :
    Calls Tryz.prog 107 #[.pointer (some ⟨p, 0, none⟩), .string (ofNats l)] w fun e w' => e = .returned x ∧ Below w.heap.size w w' := by
  have HU := hid (unword_is h8 (by omega) w)
  rw [hs] at HU
  have HG := hid hg
  clear hg hs
  go_enter Tryz.func107, Tryz.ntmps107
  go_wp2_with fail
  refine HU.out.mono ?_
  rintro e w1 ⟨rfl, hb⟩
  have g := cell_later hb HG.out
  go_wp2_with fail
  go_ret
  exact ⟨rfl, by (repeat (first | with_reducible exact Below.refl _ _ | with_reducible assumption | with_reducible refine Below.drew ?_ | with_reducible refine Below.al ?_ _ | with_reducible refine Below.setCell ?_ (by first | exact Nat.le_refl _ | (simp; omega) | (simp; done)) _ | with_reducible refine Below.on ?_ (by assumption)))⟩
theorem takeS_is {wg wl w : World} {p : Nat} {d : Dr} {v : Value} {a b r s : Addr} {t : ByteArray} (hg : Gx wg a b r s) (h : StD wg wl w p d v) (hs : t.size ≤ 1000) (hn : d.sp.length ≤ 1000) (m : Nat) :
    Calls Tryz.prog 107 #[.pointer (some ⟨p, 0, none⟩), .string t] (w.drewN m) fun e w' => e = .returned (rOx a b (takeS d t.data.toList).1) ∧ ∃ v', StD wg wl w' p (takeS d t.data.toList).2 v' := by
  have h' := h.drew m
  have en : nums t = t.data.toList.map UInt8.toNat := rfl
  unfold takeS
  cases hu : unword (t.data.toList.map UInt8.toNat) with
  | none =>
    have C := tsplit_bad (w := w.drewN m) (p := p) (nums_b8 t) (by rw [nums_length]; exact hs) (by rw [en, unA, hu]) (hg.later h'.bel).errs.form
    rw [ofNats_nums] at C
    refine C.mono ?_
    rintro e w' ⟨rfl, hb⟩
    exact ⟨rfl, v, h'.later hb⟩
  | some q =>
    have C := tsplit_is (w := w.drewN m) (p := p) (nums_b8 t) (by rw [nums_length]; exact hs) (by rw [en, unA, hu]) h'.box.sp h'.loose h'.ltw h'.row h'.onl.size hn h'.own
    rw [ofNats_nums] at C
    refine C.mono ?_
    rintro e w' ⟨rfl, v', w1, hr, hc, ho, rfl⟩
    exact ⟨rfl, v', h'.add hr hc ho⟩
theorem tail_len (l : List UInt8) : (tailB l).length ≤ l.length := by
  unfold tailB
  rw [List.length_drop]
  have := (List.dropWhile_suffix (l := l) (fun b => decide (b ≠ 32))).length_le
  omega
theorem takeL_is {wg wl w : World} {p : Nat} {d : Dr} {v : Value} {a b r s : Addr} {L : ByteArray} (hg : Gx wg a b r s) (h : StD wg wl w p d v) (hs : L.size ≤ 1000) (hn : d.sp.length ≤ 1000) :
    Calls Tryz.prog 87 #[.pointer (some ⟨p, 0, none⟩), .string L] w fun e w' => e = .returned (rOx a b (takeL d L.data.toList).1) ∧ ∃ v', StD wg wl w' p (takeL d L.data.toList).2 v' := by
  obtain ⟨m, hm⟩ := (hg.later h.bel).max
  by_cases h0 : L.data.toList = []
  · have e0 : L = ⟨#[]⟩ := ba_eq (by rw [h0])
    subst e0
    refine (takeE_is (p := p) (w := w)).mono ?_
    rintro e w' ⟨rfl, rfl⟩
    rw [show (⟨#[]⟩ : ByteArray).data.toList = [] from rfl, take_nil]
    exact ⟨rfl, v, h⟩
  by_cases h35 : L.data.toList.head? = some 35
  · obtain ⟨q, hq⟩ : ∃ q, L.data.toList = 35 :: q := by
      cases e : L.data.toList with
      | nil => exact absurd e h0
      | cons c q =>
        rw [e] at h35
        injection h35 with h35
        exact ⟨q, by rw [h35]⟩
    refine (takeH_is (p := p) (w := w) hq).mono ?_
    rintro e w' ⟨rfl, rfl⟩
    rw [hq, take_note]
    exact ⟨rfl, v, h⟩
  obtain ⟨t, ht⟩ : ∃ t : ByteArray, (⟨(tailB L.data.toList).toArray⟩ : ByteArray) = t := ⟨_, rfl⟩
  have htd : t.data.toList = tailB L.data.toList := by rw [← ht]
  have hts : t.size ≤ 1000 := by
    rw [Lib.size_eq, htd]
    have := tail_len L.data.toList
    rw [Lib.size_eq] at hs
    omega
  have hT : takeL d L.data.toList = if headB L.data.toList = nm 0 then takeN d 0 (tailB L.data.toList)
      else if headB L.data.toList = nm 1 then takeN d 1 (tailB L.data.toList)
      else if headB L.data.toList = nm 2 then takeN d 2 (tailB L.data.toList)
      else if headB L.data.toList = nm 3 then takeN d 3 (tailB L.data.toList)
      else if headB L.data.toList = nm 4 then takeN d 4 (tailB L.data.toList)
      else if headB L.data.toList = nm 5 then takeS d (tailB L.data.toList)
      else (1, d) := by
    rw [takeL, if_neg (not_or.2 ⟨h0, h35⟩)]
  rw [hT, ← htd]
  have FT := fun (k : Nat) (hk : k < 5) (q : Nat) => takeN_is (t := t) hg h hk hts q
  by_cases c0 : headB L.data.toList = nm 0
  · rw [if_pos c0]; exact take0_any h0 h35 c0 ht hs hm (FT 0 (by decide))
  rw [if_neg c0]
  by_cases c1 : headB L.data.toList = nm 1
  · rw [if_pos c1]; exact take1_any h0 h35 c1 ht hs hm (FT 1 (by decide))
  rw [if_neg c1]
  by_cases c2 : headB L.data.toList = nm 2
  · rw [if_pos c2]; exact take2_any h0 h35 c2 ht hs hm (FT 2 (by decide))
  rw [if_neg c2]
  by_cases c3 : headB L.data.toList = nm 3
  · rw [if_pos c3]; exact take3_any h0 h35 c3 ht hs hm (FT 3 (by decide))
  rw [if_neg c3]
  by_cases c4 : headB L.data.toList = nm 4
  · rw [if_pos c4]; exact take4_any h0 h35 c4 ht hs hm (FT 4 (by decide))
  rw [if_neg c4]
  by_cases c5 : headB L.data.toList = nm 5
  · rw [if_pos c5]; exact take5_any h0 h35 c5 ht hs hm (fun q => takeS_is hg h hts hn q)
  rw [if_neg c5]
  refine (takeO_any (p := p) (w := w) h0 h35 (fun k hk => ?_) hs hm (hg.later h.bel).errs.form).mono ?_
  · match k, hk with
    | 0, _ => exact c0
    | 1, _ => exact c1
    | 2, _ => exact c2
    | 3, _ => exact c3
    | 4, _ => exact c4
    | 5, _ => exact c5
  · rintro e w' ⟨rfl, n, rfl⟩
    exact ⟨rfl, v, h.drew n⟩
end Go.Proofs.YthenfioddnkjbaaGreatDoor.Rt
/- All lines, taken. -/
namespace Go.Proofs.YthenfioddnkjbaaGreatDoor.Rt
open Go.RowKit Go.Sort Go.Stop Go.Extern.Stop
set_option linter.unusedVariables false

def nthB (ls : List ByteArray) (i : Nat) : ByteArray := ls.getD i ⟨#[]⟩
/-- what the lines behind the first k come to is what all come to -/
theorem run_at {ls : List ByteArray} {d0 d : Dr} {k : Nat} (hk : k < ls.length) (h : runL ((ls.drop k).map (·.data.toList)) d false = runL (ls.map (·.data.toList)) d0 false) (h0 : (takeL d (nthB ls k).data.toList).1 = 0) :
    runL ((ls.drop (k + 1)).map (·.data.toList)) (takeL d (nthB ls k).data.toList).2 false = runL (ls.map (·.data.toList)) d0 false := by
  rw [← h, List.drop_eq_getElem_cons hk]
  have e : nthB ls k = ls[k] := by simp [nthB, hk]
  rw [List.map_cons, runL, ← e, if_pos h0]
theorem run_bad {ls : List ByteArray} {d0 d : Dr} {k : Nat} (hk : k < ls.length) (h : runL ((ls.drop k).map (·.data.toList)) d false = runL (ls.map (·.data.toList)) d0 false) (h1 : (takeL d (nthB ls k).data.toList).1 = 1) :
    (runL (ls.map (·.data.toList)) d0 false).1 = 1 := by
  rw [← h, List.drop_eq_getElem_cons hk]
  have e : nthB ls k = ls[k] := by simp [nthB, hk]
  rw [List.map_cons, runL, ← e, if_neg (by rw [h1]; decide), if_neg (by rw [h1]; decide)]
theorem run_end {ls : List ByteArray} {d0 d : Dr} (h : runL ((ls.drop ls.length).map (·.data.toList)) d false = runL (ls.map (·.data.toList)) d0 false) :
    runL (ls.map (·.data.toList)) d0 false = (if d.whole then 0 else 1, d) := by
  rw [← h, List.drop_length, List.map_nil, runL]
  simp
/-- how it ends: well, with the draft; or with a fault of the form -/
def AllP (wg wl : World) (p : Nat) (a : Addr) (r : Nat × Dr) (e : Ending) (w' : World) : Prop := (r.1 = 0 ∧ e = .returned .nilIface ∧ ∃ v, StD wg wl w' p r.2 v) ∨ (r.1 = 1 ∧ ∃ l, e = .returned (fltV l (errV a)) ∧ Below wg.heap.size wg w' ∧ Onl (fun k => k = p) wl w')
/-- behind a line -/
structure Lp (wg wl wr : World) (p k : Nat) (d0 : Dr) (ls : List ByteArray) (d : Dr) (v : Value) : Prop where
  st : StD wg wl wr p d v
  eq : runL ((ls.drop k).map (·.data.toList)) d false = runL (ls.map (·.data.toList)) d0 false
  le : d.sp.length ≤ d0.sp.length + k
set_option maxRecDepth 16000 in
set_option maxHeartbeats 4000000 in
theorem takeAll_is {wg w : World} {p g : Nat} {d0 : Dr} {v0 : Value} {a b : Addr} {ls : List ByteArray} (hg : Gl wg a b) (h : StD wg w w p d0 v0) (hG : ∀ l ∈ ls, Gd l.data.toList ∧ l.size ≤ 1000) (hl : ls.length + d0.sp.length ≤ 1000)
    (hr : ∀ i, i < ls.length → w.cell? ⟨g, i, none⟩ = some (.string (nthB ls i))) (hgp : g ≠ p) :
    Calls Tryz.prog 52 #[.pointer (some ⟨p, 0, none⟩), .slice (some ⟨g, 0, none⟩) ls.length ls.length] w (AllP wg w p a (runL (ls.map (·.data.toList)) d0 false)) := by
  have HG := hid hg
  have HL := hid hG
  have HR := hid hr
  have HS : Hid (Lp wg w w p 0 d0 ls d0 v0) := hid ⟨h, rfl, Nat.le_refl _⟩
  have HN := hid hl
  have hl' : ls.length ≤ 1000 := by omega
  clear hg hG hr h hl
  go_enter Tryz.func52, Tryz.ntmps52
  go_wp2_with fail
  go_loopg [5, 11] ls.length (fun gg s5 s11 wr => ∃ k : Nat, k ≤ ls.length ∧ gg = ls.length - k ∧ s5 = .nilIface ∧ s11 = .int .i64 k ∧ ∃ d v, Hid (Lp wg w wr p k d0 ls d v))
  case atStart => exact ⟨0, by omega, by omega, rfl, rfl, d0, v0, HS⟩
  case round =>
    obtain ⟨k, hk, rfl, rfl, rfl, d, v, HQ⟩ := hrel
    by_cases hlt : k < ls.length
    · have c0 : wr.cell? ⟨g, k, none⟩ = some (.string (nthB ls k)) := HQ.out.st.onl.cell hgp (HR.out k hlt)
      obtain ⟨L, hL⟩ : ∃ L, L = nthB ls k := ⟨_, rfl⟩
      have hmem : nthB ls k ∈ ls := by simp [nthB, hlt]
      have hGL := HL.out _ hmem
      have HT := hid (take_is HG.out HQ.out.st hGL.1 hGL.2 (by have := HQ.out.le; have := HN.out; omega))
      have HZ := hid (run_at hlt HQ.out.eq)
      have HB := hid (run_bad hlt HQ.out.eq)
      have HD := hid (gd_01 (d := d) hGL.1)
      have HE := hid (gd_len (d := d) hGL.1)
      rw [← hL] at c0 HT HZ HB HD HE
      have HX := hid hL
      clear hL hmem hGL
      rcases HD.out with h0 | h1
      · rw [h0] at HT
        have HK := hid h0
        clear h0
        go_wp2_with (go_at_call 87; refine HT.out.mono ?_; rintro e w2 ⟨rfl, v2, hs2⟩; have HS2 := hid hs2; clear hs2; simp only [rOf, if_true])
        go_roundg (ls.length - (k + 1))
        case measure => omega
        case rel => exact ⟨k + 1, by omega, rfl, rfl, by go_num, _, v2, hid ⟨HS2.out, HZ.out HK.out, by have := HE.out; have := HQ.out.le; omega⟩⟩
      · rw [h1] at HT
        have HK := hid (HB.out h1)
        clear h1
        go_wp2_with (first | (go_at_call 87; refine HT.out.mono ?_; rintro e w2 ⟨rfl, v2, hs2⟩; have HS2 := hid hs2; have hE := (HG.out.later hs2.bel).errs; have g1 := hE.limit; have HE2 := hid hE; clear hs2 hE; simp only [rOf, Nat.one_ne_zero, if_false]) | (go_at_call 56; obtain ⟨ca, ta, ha⟩ := HE2.out.rowA; obtain ⟨cb, tb, hB⟩ := HE2.out.rowB; refine (is_flt_other _ a b ca cb ta tb _ HE2.out.ne ha hB).mono ?_; rintro e w3 ⟨rfl, hb3⟩))
        go_ret
        exact .inr ⟨HK.out, _, rfl, Below.on HS2.out.bel hb3, HS2.out.onl.on hb3⟩
    · have hkk : k = ls.length := by omega
      have HE : Hid (runL (ls.map (·.data.toList)) d0 false = (if d.whole then 0 else 1, d)) := hid (run_end (by have := HQ.out.eq; rw [hkk] at this; exact this))
      have HW := hid (whole_is HQ.out.st.box)
      have HG2 := hid (HG.out.later HQ.out.st.bel)
      subst hkk
      cases hw : d.whole
      · rw [hw] at HW HE
        go_wp2_with (go_at_call 88; refine HW.out.mono ?_; rintro e w2 ⟨rfl, hb2⟩; have g0 := (HG2.out.later hb2).errs.form)
        go_ret
        exact .inr ⟨by rw [HE.out]; rfl, _, rfl, Below.on HQ.out.st.bel hb2, HQ.out.st.onl.on hb2⟩
      · rw [hw] at HW HE
        go_wp2_with (go_at_call 88; refine HW.out.mono ?_; rintro e w2 ⟨rfl, hb2⟩)
        go_ret
        exact .inl ⟨by rw [HE.out]; rfl, rfl, v, by rw [HE.out]; exact HQ.out.st.later hb2⟩
end Go.Proofs.YthenfioddnkjbaaGreatDoor.Rt
/- All lines, taken, whatever stands in them. -/
namespace Go.Proofs.YthenfioddnkjbaaGreatDoor.Rt
open Go.RowKit Go.Sort Go.Stop Go.Extern.Stop
set_option linter.unusedVariables false

theorem runx_at {ls : List ByteArray} {d0 d : Dr} {k : Nat} {u : Bool} (hk : k < ls.length) (h : runL ((ls.drop k).map (·.data.toList)) d u = runL (ls.map (·.data.toList)) d0 false) :
    ((takeL d (nthB ls k).data.toList).1 = 0 → runL ((ls.drop (k + 1)).map (·.data.toList)) (takeL d (nthB ls k).data.toList).2 u = runL (ls.map (·.data.toList)) d0 false)
    ∧ ((takeL d (nthB ls k).data.toList).1 = 2 → runL ((ls.drop (k + 1)).map (·.data.toList)) (takeL d (nthB ls k).data.toList).2 true = runL (ls.map (·.data.toList)) d0 false)
    ∧ ((takeL d (nthB ls k).data.toList).1 = 1 → (runL (ls.map (·.data.toList)) d0 false).1 = 1) := by
  have e : nthB ls k = ls[k] := by simp [nthB, hk]
  rw [← h, List.drop_eq_getElem_cons hk, List.map_cons, runL, ← e]
  refine ⟨fun h0 => by rw [if_pos h0], fun h2 => by rw [if_neg (by rw [h2]; decide), if_pos h2], fun h1 => by rw [if_neg (by rw [h1]; decide), if_neg (by rw [h1]; decide)]⟩
theorem runx_end {ls : List ByteArray} {d0 d : Dr} {u : Bool} (h : runL ((ls.drop ls.length).map (·.data.toList)) d u = runL (ls.map (·.data.toList)) d0 false) :
    runL (ls.map (·.data.toList)) d0 false = (if d.whole then (if u then 2 else 0) else 1, d) := by
  rw [← h, List.drop_length, List.map_nil, runL]
theorem takeN_012 (d : Dr) (k : Nat) (l : List UInt8) : ((takeN d k l).1 = 0 ∨ (takeN d k l).1 = 1 ∨ (takeN d k l).1 = 2) ∧ (takeN d k l).2.sp.length ≤ d.sp.length + 1 := by
  unfold takeN
  split
  · exact ⟨.inr (.inl rfl), Nat.le_succ _⟩
  · split
    · exact ⟨.inr (.inl rfl), Nat.le_succ _⟩
    · exact ⟨.inr (.inr rfl), Nat.le_succ _⟩
    · exact ⟨.inl rfl, Nat.le_succ _⟩
theorem takeL_012 (d : Dr) (l : List UInt8) : ((takeL d l).1 = 0 ∨ (takeL d l).1 = 1 ∨ (takeL d l).1 = 2) ∧ (takeL d l).2.sp.length ≤ d.sp.length + 1 := by
  unfold takeL
  repeat' split
  · exact ⟨.inl rfl, Nat.le_succ _⟩
  · exact takeN_012 _ _ _
  · exact takeN_012 _ _ _
  · exact takeN_012 _ _ _
  · exact takeN_012 _ _ _
  · exact takeN_012 _ _ _
  · unfold takeS
    split
    · exact ⟨.inl rfl, by simp [Dr.add]⟩
    · exact ⟨.inr (.inl rfl), Nat.le_succ _⟩
  · exact ⟨.inr (.inl rfl), Nat.le_succ _⟩
/-- how it ends: well, with the draft; or with a fault of the form, or of a limit -/
def AllX (wg wl : World) (p : Nat) (a b : Addr) (r : Nat × Dr) (e : Ending) (w' : World) : Prop := (r.1 = 0 ∧ e = .returned .nilIface ∧ ∃ v, StD wg wl w' p r.2 v) ∨ ((r.1 = 1 ∧ ∃ l, e = .returned (fltV l (errV a))) ∧ Below wg.heap.size wg w' ∧ Onl (fun k => k = p) wl w') ∨ ((r.1 = 2 ∧ ∃ l, e = .returned (fltV l (errV b))) ∧ Below wg.heap.size wg w' ∧ Onl (fun k => k = p) wl w')
/-- behind a line -/
structure Lx (wg wl wr : World) (p k : Nat) (d0 : Dr) (ls : List ByteArray) (d : Dr) (v : Value) (u : Bool) : Prop where
  st : StD wg wl wr p d v
  eq : runL ((ls.drop k).map (·.data.toList)) d u = runL (ls.map (·.data.toList)) d0 false
  le : d.sp.length ≤ d0.sp.length + k
/-- the fault that is kept -/
def BySaid (b : Addr) (x : Value) (u : Bool) : Prop := (u = false ∧ x = .nilIface) ∨ (u = true ∧ ∃ l, x = fltV l (errV b))
set_option maxRecDepth 16000 in
set_option maxHeartbeats 4000000 in
theorem takeAll_any {wg w : World} {p g : Nat} {d0 : Dr} {v0 : Value} {a b r s : Addr} {ls : List ByteArray} (hg : Gx wg a b r s) (h : StD wg w w p d0 v0) (hG : ∀ l ∈ ls, l.size ≤ 1000) (hl : ls.length + d0.sp.length ≤ 1000)
    (hr : ∀ i, i < ls.length → w.cell? ⟨g, i, none⟩ = some (.string (nthB ls i))) (hgp : g ≠ p) :
    Calls Tryz.prog 52 #[.pointer (some ⟨p, 0, none⟩), .slice (some ⟨g, 0, none⟩) ls.length ls.length] w (AllX wg w p a b (runL (ls.map (·.data.toList)) d0 false)) := by
  have HG := hid hg
  have HL := hid hG
  have HR := hid hr
  have HS : Hid (Lx wg w w p 0 d0 ls d0 v0 false) := hid ⟨h, rfl, Nat.le_refl _⟩
  have HN := hid hl
  have hl' : ls.length ≤ 1000 := by omega
  clear hg hG hr h hl
  go_enter Tryz.func52, Tryz.ntmps52
  go_wp2_with fail
  go_loopg [5, 11] ls.length (fun gg s5 s11 wr => ∃ k : Nat, k ≤ ls.length ∧ gg = ls.length - k ∧ s11 = .int .i64 k ∧ ∃ d v u, Hid (BySaid b s5 u) ∧ Hid (Lx wg w wr p k d0 ls d v u))
  case atStart => exact ⟨0, by omega, by omega, rfl, d0, v0, false, hid (.inl ⟨rfl, rfl⟩), HS⟩
  case round =>
    obtain ⟨k, hk, rfl, rfl, d, v, u, HY, HQ⟩ := hrel
    by_cases hlt : k < ls.length
    · have c0 : wr.cell? ⟨g, k, none⟩ = some (.string (nthB ls k)) := HQ.out.st.onl.cell hgp (HR.out k hlt)
      obtain ⟨L, hL⟩ : ∃ L, L = nthB ls k := ⟨_, rfl⟩
      have hmem : nthB ls k ∈ ls := by simp [nthB, hlt]
      have hGL := HL.out _ hmem
      have HT := hid (takeL_is HG.out HQ.out.st hGL (by have := HQ.out.le; have := HN.out; omega))
      have HZ := hid (runx_at hlt HQ.out.eq)
      have HD := hid (takeL_012 d (nthB ls k).data.toList)
      rw [← hL] at c0 HT HZ HD
      have HX := hid hL
      clear hL hmem hGL
      rcases HD.out.1 with h0 | h1 | h2
      · rw [h0] at HT
        have HK := hid h0
        clear h0
        go_wp2_with (go_at_call 87; refine HT.out.mono ?_; rintro e w2 ⟨rfl, v2, hs2⟩; have HS2 := hid hs2; clear hs2; simp only [rOx, if_true])
        go_roundg (ls.length - (k + 1))
        case measure => omega
        case rel => exact ⟨k + 1, by omega, rfl, by go_num, _, v2, u, HY, hid ⟨HS2.out, HZ.out.1 HK.out, by have := HD.out.2; have := HQ.out.le; omega⟩⟩
      · rw [h1] at HT
        have HK := hid (HZ.out.2.2 h1)
        clear h1
        go_wp2_with (first | (go_at_call 87; refine HT.out.mono ?_; rintro e w2 ⟨rfl, v2, hs2⟩; have HS2 := hid hs2; have hE := (HG.out.later hs2.bel).errs; have g1 := hE.limit; have HE2 := hid hE; clear hs2 hE; simp only [rOx, Nat.one_ne_zero, if_false, (by decide : ¬ ((1 : Nat) = 2))]) | (go_at_call 56; obtain ⟨ca, ta, ha⟩ := HE2.out.rowA; obtain ⟨cb, tb, hB⟩ := HE2.out.rowB; refine (is_flt_other _ a b ca cb ta tb _ HE2.out.ne ha hB).mono ?_; rintro e w3 ⟨rfl, hb3⟩))
        go_ret
        exact .inr (.inl ⟨⟨HK.out, _, rfl⟩, Below.on HS2.out.bel hb3, HS2.out.onl.on hb3⟩)
      · rw [h2] at HT
        have HK := hid h2
        clear h2
        go_wp2_with (first | (go_at_call 87; refine HT.out.mono ?_; rintro e w2 ⟨rfl, v2, hs2⟩; have HS2 := hid hs2; have hE := (HG.out.later hs2.bel).errs; have g1 := hE.limit; have HE2 := hid hE; clear hs2 hE; simp only [rOx, (by decide : ¬ ((2 : Nat) = 0)), if_false, if_true]) | (go_at_call 56; refine (is_flt_same _ b _).mono ?_; rintro e w3 ⟨rfl, hb3⟩))
        go_roundg (ls.length - (k + 1))
        case measure => omega
        case rel => exact ⟨k + 1, by omega, rfl, by go_num, _, v2, true, hid (.inr ⟨rfl, _, rfl⟩), hid ⟨HS2.out.later hb3, HZ.out.2.1 HK.out, by have := HD.out.2; have := HQ.out.le; omega⟩⟩
    · have hkk : k = ls.length := by omega
      have HE : Hid (runL (ls.map (·.data.toList)) d0 false = (if d.whole then (if u then 2 else 0) else 1, d)) := hid (runx_end (by have := HQ.out.eq; rw [hkk] at this; exact this))
      have HW := hid (whole_is HQ.out.st.box)
      have HG2 := hid (HG.out.later HQ.out.st.bel)
      subst hkk
      cases hw : d.whole
      · rw [hw] at HW HE
        go_wp2_with (go_at_call 88; refine HW.out.mono ?_; rintro e w2 ⟨rfl, hb2⟩; have g0 := (HG2.out.later hb2).errs.form)
        go_ret
        exact .inr (.inl ⟨⟨by rw [HE.out]; rfl, _, rfl⟩, Below.on HQ.out.st.bel hb2, HQ.out.st.onl.on hb2⟩)
      · rw [hw] at HW HE
        rcases HY.out with ⟨hu, hx⟩ | ⟨hu, l, hx⟩
        · subst hu hx
          go_wp2_with (go_at_call 88; refine HW.out.mono ?_; rintro e w2 ⟨rfl, hb2⟩)
          go_ret
          exact .inl ⟨by rw [HE.out]; rfl, rfl, v, by rw [HE.out]; exact HQ.out.st.later hb2⟩
        · subst hu hx
          go_wp2_with (go_at_call 88; refine HW.out.mono ?_; rintro e w2 ⟨rfl, hb2⟩)
          go_ret
          exact .inr (.inr ⟨⟨by rw [HE.out]; rfl, _, rfl⟩, Below.on HQ.out.st.bel hb2, HQ.out.st.onl.on hb2⟩)
end Go.Proofs.YthenfioddnkjbaaGreatDoor.Rt
