import Derived.Test.YtfkiccdjffhhhaaGreatDoorRdRead
import Derived.Test.YtfkiccdjffhhhaaGreatDoorRTwinW
/- Parse at the statement's texts. -/
namespace Go.Proofs.YtfkiccdjffhhhaaGreatDoor.Rt
open Go.RowKit Go.Sort Go.Stop Go.Extern.Stop
set_option linter.unusedVariables false

theorem lns_len : ∀ (t : List UInt8), (lns t).length ≤ t.length + 1 ∧ ∀ l ∈ lns t, l.length ≤ t.length
  | [] => ⟨by simp [lns], fun l hl => by simp [lns] at hl; simp [hl]⟩
  | b :: t => by
    obtain ⟨h1, h2⟩ := lns_len t
    by_cases hb : b = 10
    · simp only [lns, hb, if_true]
      refine ⟨by simp; omega, fun l hl => ?_⟩
      rcases List.mem_cons.1 hl with rfl | hl
      · simp
      · have := h2 l hl; simp; omega
    · simp only [lns, hb, if_false]
      cases hl : lns t with
      | nil => exact ⟨by simp, fun l hm => by simp at hm; simp [hm]⟩
      | cons x r =>
        rw [hl] at h1 h2
        refine ⟨by simp at h1 ⊢; omega, fun l hm => ?_⟩
        rcases List.mem_cons.1 hm with rfl | hm
        · have := h2 x (by simp); simp; omega
        · have := h2 l (by simp [hm]); simp; omega
section
variable {c : Cf}
theorem gd_part (hc : c.okB = true) (hw : 0 ≤ c.wi ∧ c.wi ≤ 18446744073709551615) {o : List Nat} (ho : ∀ k ∈ o, k < 5) : ∀ l ∈ lns (flat (c.part o)), Gd l := by
  intro l hl
  rw [lns_part hc] at hl
  rcases List.mem_append.1 hl with h | h
  · obtain ⟨k, hk, rfl⟩ := List.mem_map.1 h
    exact .inr (.inr (.inl ⟨k, c.vN k, ho k hk, vN_lt hc hw k, by rw [wN_dec hc]⟩))
  · rcases List.mem_append.1 h with h | h
    · obtain ⟨t, ht, rfl⟩ := List.mem_map.1 h
      have hs : unword (t.map UInt8.toNat) ∈ c.wS.map (fun w => unword (w.map UInt8.toNat)) := List.mem_map.2 ⟨t, ht, rfl⟩
      rw [wS_word] at hs
      obtain ⟨s, _, e⟩ := List.mem_map.1 hs
      exact .inr (.inr (.inr ⟨t, s, e.symm, rfl⟩))
    · exact .inl (by simpa using h)
/-- what may stand ahead: nothing, an empty line, a note -/
def Ahead (n : List UInt8) : Prop := n = [] ∨ ∃ m, n = m ++ [10] ∧ (10 : UInt8) ∉ m ∧ (m = [] ∨ ∃ r, m = 35 :: r)
theorem ahead_run {n t : List UInt8} (h : Ahead n) (d : Dr) (b : Bool) : runL (lns (n ++ t)) d b = runL (lns t) d b := by
  rcases h with rfl | ⟨m, rfl, h1, h2⟩
  · rfl
  · rw [List.append_assoc]
    exact run_ahead h2 h1 d b
theorem ahead_gd {n t : List UInt8} (h : Ahead n) (hG : ∀ l ∈ lns t, Gd l) : ∀ l ∈ lns (n ++ t), Gd l := by
  rcases h with rfl | ⟨m, rfl, h1, h2⟩
  · exact hG
  · rw [List.append_assoc]
    show ∀ l ∈ lns (m ++ 10 :: t), Gd l
    rw [lns_line h1]
    intro l hl
    rcases List.mem_cons.1 hl with rfl | hl
    · rcases h2 with rfl | ⟨r, rfl⟩
      · exact .inl rfl
      · exact .inr (.inl ⟨r, rfl⟩)
    · exact hG l hl
theorem cf_of (hc : c.okB = true) (hw : 0 ≤ c.wi ∧ c.wi ≤ 18446744073709551615) (a : Option Addr) (cp : Nat) : (Dr.of c.vN (c.ss.map nums)).cf a cp = c.at a cp := by
  have h := ok_nums hc
  have hs : ∀ i : Int, 0 ≤ i ∧ i ≤ 1048577 → ((smallN i.toNat : Nat) : Int) = i := fun i hi => by
    rw [small_of (by omega)]; omega
  have hss : (c.ss.map nums).map ofNats = c.ss := by
    rw [List.map_map]
    have : (ofNats ∘ nums) = id := by funext s; exact ofNats_nums s
    rw [this, List.map_id]
  have e0 : ((smallN (((Dr.of c.vN (c.ss.map nums)).f 0).getD 0) : Nat) : Int) = c.sh := hs c.sh (by omega)
  have e1 : ((smallN (((Dr.of c.vN (c.ss.map nums)).f 1).getD 0) : Nat) : Int) = c.cl := hs c.cl (by omega)
  have e2 : ((smallN (((Dr.of c.vN (c.ss.map nums)).f 2).getD 0) : Nat) : Int) = c.ca := hs c.ca (by omega)
  have e3 : ((smallN (((Dr.of c.vN (c.ss.map nums)).f 3).getD 0) : Nat) : Int) = c.pk := hs c.pk (by omega)
  have e4 : ((((Dr.of c.vN (c.ss.map nums)).f 4).getD 0 : Nat) : Int) = c.wi := by
    show ((c.wi.toNat : Nat) : Int) = c.wi
    omega
  unfold Dr.cf
  rw [e0, e1, e2, e3, e4]
  show Cf.mk c.sh c.cl a cp ((c.ss.map nums).map ofNats) c.ca c.pk c.wi = _
  rw [hss]
/-- what Parse answers at a text of the configuration's -/
def UP (w : World) (c : Cf) (t : ByteArray) (e : Ending) (w' : World) : Prop := Below w.heap.size w w' ∧ ((600 < t.size ∧ e = .returned (.tuple #[zeroC, .int .i64 120])) ∨ (t.size ≤ 600 ∧ ∃ a cp, e = .returned (.tuple #[(c.at a cp).val, .int .i64 0]) ∧ (∀ g o, a = some ⟨g, o, none⟩ → w.heap.size ≤ g) ∧ RowS w' a c.ss))
theorem parse_u {w : World} {a b : Addr} {t : ByteArray} {n : List UInt8} {o : List Nat} (hg : Gl w a b) (hc : c.okB = true) (hw : 0 ≤ c.wi ∧ c.wi ≤ 18446744073709551615) (hn : Ahead n) (ho : o = [0, 1, 2, 3, 4] ∨ ∃ x, x < 5 ∧ o = front x) (ht : t.data.toList = n ++ flat (c.part o)) (hs : t.size ≤ 9223372036854775807) :
    Calls Tryz.prog 7 #[.string t] w (UP w c t) := by
  by_cases h6 : 600 < t.size
  · refine (parse_long hg h6 hs).mono ?_
    rintro e w' ⟨hb, ⟨h0, _⟩ | ⟨_, rfl⟩⟩
    · cases h0
    · exact ⟨hb, .inl ⟨h6, rfl⟩⟩
  · have ho5 : ∀ k ∈ o, k < 5 := by
      rcases ho with rfl | ⟨x, hx, rfl⟩
      · decide
      · exact fun k hk => ((front_mem hx).1 k).1 hk
    have hr : runL (lns t.data.toList) Dr.none false = (0, Dr.of c.vN (c.ss.map nums)) := by
      rw [ht, ahead_run hn]
      rcases ho with rfl | ⟨x, hx, rfl⟩
      · have := run_text hc hw
        rw [text_flat] at this
        exact this
      · exact run_front hc hw hx
    have hG := ahead_gd hn (gd_part hc hw ho5)
    rw [← ht] at hG
    have hL := lns_len t.data.toList
    have hsz : t.data.toList.length = t.size := (Lib.size_eq t).symm
    refine (parse_of hg fun w0 h => read_is (hg.later h) (by omega) hr (fun l hl => ⟨hG l hl, by have := hL.2 l hl; omega⟩) (by have := hL.1; omega) (fun _ a' c' => by rw [cf_of hc hw]; exact hc)).mono ?_
    rintro e w' ⟨hb, ⟨_, va, vc, rfl, hnew, hrow⟩ | ⟨h1, _⟩⟩
    · refine ⟨hb, .inr ⟨by omega, va, vc, ?_, hnew, ?_⟩⟩
      · show Ending.returned (.tuple #[((Dr.of c.vN (c.ss.map nums)).cf va vc).val, .int .i64 0]) = _
        rw [cf_of hc hw]
      · have e : (Dr.of c.vN (c.ss.map nums)).sp.map ofNats = c.ss := congrArg Cf.ss (cf_of hc hw va vc)
        rw [← e]; exact hrow
    · cases h1
/-- a line less, or twice: not of the form -/
theorem parse_no {w : World} {a b : Addr} {t : ByteArray} {o : List Nat} (hg : Gl w a b) (hc : c.okB = true) (hw : 0 ≤ c.wi ∧ c.wi ≤ 18446744073709551615) (ho : ∃ x, x < 5 ∧ (o = [0, 1, 2, 3, 4].erase x ∨ o = x :: [0, 1, 2, 3, 4])) (ht : t.data.toList = flat (c.part o)) (hs : t.size ≤ 9223372036854775807) :
    Calls Tryz.prog 7 #[.string t] w fun e w' => e = .returned (.tuple #[zeroC, .int .i64 120]) ∧ Below w.heap.size w w' := by
  by_cases h6 : 600 < t.size
  · refine (parse_long hg h6 hs).mono ?_
    rintro e w' ⟨hb, ⟨h0, _⟩ | ⟨_, rfl⟩⟩
    · cases h0
    · exact ⟨rfl, hb⟩
  · obtain ⟨x, hx, ho⟩ := ho
    have ho5 : ∀ k ∈ o, k < 5 := by
      rcases ho with rfl | rfl
      · exact fun k hk => ((rest_mem hx).1 k hk).1
      · intro k hk
        rcases List.mem_cons.1 hk with rfl | hk
        · exact hx
        · have : ∀ j ∈ [0, 1, 2, 3, 4], j < 5 := by decide
          exact this k hk
    have hr : (runL (lns t.data.toList) Dr.none false).1 = 1 := by
      rw [ht]
      rcases ho with rfl | rfl
      · exact run_rest hc hw hx
      · exact run_two hc hw hx
    have hG := gd_part hc hw ho5
    rw [← ht] at hG
    have hL := lns_len t.data.toList
    have hsz : t.data.toList.length = t.size := (Lib.size_eq t).symm
    refine (parse_of hg fun w0 h => read_is (hg.later h) (by omega) rfl (fun l hl => ⟨hG l hl, by have := hL.2 l hl; omega⟩) (by have := hL.1; omega) (fun h0 => by rw [hr] at h0; cases h0)).mono ?_
    rintro e w' ⟨hb, ⟨h0, _⟩ | ⟨_, rfl⟩⟩
    · rw [hr] at h0; cases h0
    · exact ⟨rfl, hb⟩
end
end Go.Proofs.YtfkiccdjffhhhaaGreatDoor.Rt
