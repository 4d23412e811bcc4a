import Derived.Test.YtggmhodogfngdaaDoorGtGs
import Derived.Test.YtggmhodogfngdaaDoorGtRefW
/- The document's fields of a line. -/
namespace Go.Proofs.YtggmhodogfngdaaDoor.Gt
open Go.Proofs.YtggmhodogfngdaaDoor Go.Proofs.YtggmhodogfngdaaDoor.Rt Go.RowKit Go.Sort Go.Shelf
set_option linter.unusedVariables false
set_option linter.unusedSimpArgs false

theorem info_ofX {P : Program} {t : TypeId} {z : Value} {n m : Nat} (h : (P.info? t).map (fun i => (i.zero, i.size, i.bytes)) = some (some z, n, m)) : ∃ i, P.info? t = some i ∧ i.zero = some z ∧ i.size = n ∧ i.bytes = m := by
  obtain ⟨i, hi, he⟩ := Option.map_eq_some_iff.1 h
  simp only [Prod.mk.injEq] at he
  exact ⟨i, hi, he.1, he.2.1, he.2.2⟩
theorem infoStr : (Tryd.prog.info? 9).map (fun i => (i.zero, i.size, i.bytes)) = some (some (.string ⟨#[]⟩), 1, 16) := by kernel_rfl
/-- texts as a row's cells -/
def txs (A : List (List Nat)) : List Value := A.map fun l => .string (ofNats l)
theorem txs_snoc (A : List (List Nat)) (x : List Nat) : txs (A ++ [x]) = txs A ++ [.string (ofNats x)] := by simp [txs]
theorem take_snocN {l : List Nat} {f k : Nat} {c : Nat} (hf : f ≤ k) (hc : l[k]? = some c) : (l.take (k + 1)).drop f = (l.take k).drop f ++ [c] := by
  have hk : k < l.length := (List.getElem?_eq_some_iff.1 hc).1
  rw [List.take_add_one, hc, List.drop_append_of_le_length (by rw [List.length_take]; omega)]
  rfl
/-- the fields up to a place: A is out, the one that stands open begins at f -/
structure Lf (s : List Nat) (A : List (List Nat)) (f k : Nat) : Prop where
  len : A.length ≤ k
  le : f ≤ k
  op : (k ≤ s.length ∧ 32 ∉ (s.take k).drop f ∧ A ++ fld (s.drop f) = fld s) ∨ (k = s.length + 1 ∧ A = fld s)
theorem Lf.zero (s : List Nat) : Lf s [] 0 0 := ⟨Nat.le_refl _, Nat.le_refl _, .inl ⟨Nat.zero_le _, by simp, by simp⟩⟩
theorem Lf.skip {s : List Nat} {A : List (List Nat)} {f k c : Nat} (h : Lf s A f k) (hc : s[k]? = some c) (hn : c ≠ 32) : Lf s A f (k + 1) := by
  have hk : k < s.length := (List.getElem?_eq_some_iff.1 hc).1
  obtain ⟨h1, h2, h3 | h3⟩ := h
  · refine ⟨by omega, by omega, .inl ⟨by omega, ?_, h3.2.2⟩⟩
    rw [take_snocN h2 hc]
    intro hm
    rcases List.mem_append.1 hm with hm | hm
    · exact h3.2.1 hm
    · simp at hm; exact hn hm.symm
  · omega
theorem Lf.more {s : List Nat} {A : List (List Nat)} {f k : Nat} (h : Lf s A f k) (hc : s[k]? = some 32) : Lf s (A ++ [(s.take k).drop f]) (k + 1) (k + 1) := by
  have hk : k < s.length := (List.getElem?_eq_some_iff.1 hc).1
  obtain ⟨h1, h2, h3 | h3⟩ := h
  · refine ⟨by simp; omega, Nat.le_refl _, .inl ⟨by omega, by simp, ?_⟩⟩
    have e2 : s.drop f = (s.take k).drop f ++ s.drop k := by
      have := List.take_append_drop k s
      conv => lhs; rw [← this]
      rw [List.drop_append_of_le_length (by rw [List.length_take]; omega)]
    have e1 : s.drop f = (s.take k).drop f ++ 32 :: s.drop (k + 1) := by
      rw [e2, List.drop_eq_getElem_cons hk, (List.getElem?_eq_some_iff.1 hc).2]
    have h4 := h3.2.2
    rw [e1, fld_cons _ h3.2.1] at h4
    rw [← h4]
    simp
  · omega
theorem Lf.end {s : List Nat} {A : List (List Nat)} {f : Nat} (h : Lf s A f s.length) : Lf s (A ++ [(s.take s.length).drop f]) (s.length + 1) (s.length + 1) := by
  obtain ⟨h1, h2, h3 | h3⟩ := h
  · refine ⟨by simp; omega, Nat.le_refl _, .inr ⟨rfl, ?_⟩⟩
    have h4 := h3.2.1
    rw [List.take_length] at h4 ⊢
    have h5 := h3.2.2
    rw [fld_one h4] at h5
    exact h5
  · omega
theorem Lf.all {s : List Nat} {A : List (List Nat)} {f k : Nat} (h : Lf s A f k) (hk : s.length < k) : A = fld s := by
  rcases h.op with h3 | h3
  · omega
  · exact h3.2
theorem Lf.lk {s : List Nat} {A : List (List Nat)} {f k : Nat} (h : Lf s A f k) : k ≤ s.length + 1 := by
  rcases h.op with h3 | h3
  · omega
  · omega
/-- what fields answers: a list of its own -/
def FdP (w : World) (s : List Nat) (e : Ending) (w' : World) : Prop := (∃ (a : Option Addr) (c : Nat), e = .returned (.slice a (fld s).length c) ∧ w'.ownsRow w.heap.size 9 1 (.slice a (fld s).length c) (fld s).length (txs (fld s))) ∧ Below w.heap.size w w'
set_option maxRecDepth 100000 in
set_option maxHeartbeats 4000000 in
theorem dfields_is {s : List Nat} (h8 : B8 s) (hs : s.length ≤ 400) (w : World) :
    Calls Tryd.prog 28 #[.string (ofNats s)] w (FdP w s) := by
  obtain ⟨i0, hi, hz0, hz1, hz2⟩ := info_ofX infoStr
  have hsz : (ofNats s).size = s.length := ofNats_size s
  have H8 := hid h8
  clear h8
  go_enter Tryd.func28, Tryd.ntmps28
  go_wp2_with fail
  go_loopg [3, 4, 5] (s.length + 1) (fun g s2 s3 s4 wr => ∃ (k f : Nat) (a : Option Addr) (n c : Nat) (A : List (List Nat)), k ≤ s.length + 1 ∧ f ≤ k ∧ g = s.length + 1 - k ∧ s2 = .slice a n c ∧ s3 = .int .i64 f ∧ s4 = .int .i64 k ∧ Hid (A.length = n) ∧ Hid (Lf s A f k) ∧ Hid (wr.ownsRow w.heap.size 9 1 (.slice a n c) n (txs A)) ∧ Hid (Below w.heap.size w wr))
  case atStart => exact ⟨0, 0, none, 0, 0, [], by omega, by omega, by omega, rfl, rfl, rfl, hid rfl, hid (Lf.zero _), hid (World.ownsRow_nil _ _ _ _), hid (Below.refl _ _)⟩
  case round =>
    obtain ⟨k, f, a, n, c, A, hk, hf, rfl, rfl, rfl, rfl, HN, HQ, HO, HB⟩ := hrel
    have HL2 : Hid (n ≤ k) := by have h1 := HQ.out.len; rw [HN.out] at h1; exact h1
    by_cases hgt : s.length < k
    · obtain rfl : k = s.length + 1 := by omega
      have HA := hid (HQ.out.all hgt)
      have d1 : decide ((s.length : Int) + 1 ≤ (s.length : Int)) = false := by simp; omega
      clear hgt
      go_wp2_with fail
      go_ret
      refine ⟨⟨a, c, ?_, ?_⟩, HB.out⟩
      · rw [← HA.out, HN.out]; rfl
      · rw [← HA.out, HN.out]; exact HO.out
    · have d1 : decide ((k : Int) ≤ (s.length : Int)) = true := by simp; omega
      have hfk : (f : Int) ≤ (k : Int) := by omega
      by_cases hlt : k < s.length
      · obtain ⟨ch, hc⟩ : ∃ c, s[k]? = some c := ⟨_, List.getElem?_eq_getElem hlt⟩
        have hix : ∀ w, (Instr.index 9 (.string (ofNats s)) (.int .i64 (k : Int))).run Tryd.prog w = .ok (.int .u8 (ch : Int)) w := fun w => index_ofNats H8.out hc w
        have d2 : ((k : Int) == (s.length : Int)) = false := by simp; omega
        have HC := hid hc
        clear hc
        by_cases h32 : ch = 32
        · have HM : Hid (Lf s (A ++ [(s.take k).drop f]) (k + 1) (k + 1)) := HQ.out.more (by rw [HC.out, h32])
          have hx := ofNats_extract H8.out f k
          replace hix : ∀ w, (Instr.index 9 (.string (ofNats s)) (.int .i64 (k : Int))).run Tryd.prog w = .ok (.int .u8 32) w := by subst h32; exact hix
          clear h32
          go_wp2_with (at_builtin; refine wpList_append_own _ rfl _ _ 54 rfl w.heap.size 9 i0 (.string ⟨#[]⟩) 1 16 Tryd.underlying54 hi hz0 hz1 hz2 rfl (by decide) _ _ _ rfl (HO.out.alloc _) ⟨wr.heap.size, 0, none⟩ 1 1 [.string (ofNats ((s.take k).drop f))] rfl rfl ?c1 ?c2 ?c3 ?c4 ?c5 ?_)
          case c1 =>
            intro j u hj
            match j, hj with
            | 0, hj => simp at hj; subst hj; simp [Addr.add]
          case c2 => intro u hu; simp at hu; subst hu; rfl
          case c3 => have := HL2.out; unfold maxLen; omega
          case c4 => have := HL2.out; omega
          case c5 => have := HB.out.size; simp; omega
          intro v' w2 hown' hgrow _
          obtain ⟨a', c', rfl⟩ := owns_sl hown'
          have HB2 : Hid (Below w.heap.size w w2) := hid ((Below.al HB.out _).grown hgrow (by have := HB.out.size; simp; omega) (fun k hk => (HO.out.lt k hk).1))
          have HO2 : Hid (w2.ownsRow w.heap.size 9 1 (.slice a' (n + 1) c') (n + 1) (txs (A ++ [(s.take k).drop f]))) := hid (by rw [txs_snoc]; simpa using hown')
          clear hown' hgrow hx
          go_wp2_with fail
          go_roundg (s.length + 1 - (k + 1))
          case measure => omega
          case rel => exact ⟨k + 1, k + 1, a', n + 1, c', A ++ [(s.take k).drop f], by omega, by omega, rfl, rfl, by go_num, by go_num, hid (by simp [HN.out]), HM, HO2, HB2⟩
        · have HM : Hid (Lf s A f (k + 1)) := HQ.out.skip HC.out h32
          have h32' : ((ch : Int) == 32) = false := by simp; omega
          clear h32
          go_wp2_with fail
          go_roundg (s.length + 1 - (k + 1))
          case measure => omega
          case rel => exact ⟨k + 1, f, a, n, c, A, by omega, by omega, rfl, rfl, rfl, by go_num, HN, HM, HO, HB⟩
      · obtain rfl : k = s.length := by omega
        have HM := hid HQ.out.end
        have hx := ofNats_extract H8.out f s.length
        clear hlt
        go_wp2_with (at_builtin; refine wpList_append_own _ rfl _ _ 54 rfl w.heap.size 9 i0 (.string ⟨#[]⟩) 1 16 Tryd.underlying54 hi hz0 hz1 hz2 rfl (by decide) _ _ _ rfl (HO.out.alloc _) ⟨wr.heap.size, 0, none⟩ 1 1 [.string (ofNats ((s.take s.length).drop f))] rfl rfl ?c1 ?c2 ?c3 ?c4 ?c5 ?_)
        case c1 =>
          intro j u hj
          match j, hj with
          | 0, hj => simp at hj; subst hj; simp [Addr.add]
        case c2 => intro u hu; simp at hu; subst hu; rfl
        case c3 => have := HL2.out; unfold maxLen; omega
        case c4 => have := HL2.out; omega
        case c5 => have := HB.out.size; simp; omega
        intro v' w2 hown' hgrow _
        obtain ⟨a', c', rfl⟩ := owns_sl hown'
        have HB2 : Hid (Below w.heap.size w w2) := hid ((Below.al HB.out _).grown hgrow (by have := HB.out.size; simp; omega) (fun k hk => (HO.out.lt k hk).1))
        have HO2 : Hid (w2.ownsRow w.heap.size 9 1 (.slice a' (n + 1) c') (n + 1) (txs (A ++ [(s.take s.length).drop f]))) := hid (by rw [txs_snoc]; simpa using hown')
        clear hown' hgrow hx
        go_wp2_with fail
        go_roundg (s.length + 1 - (s.length + 1))
        case measure => omega
        case rel => exact ⟨s.length + 1, s.length + 1, a', n + 1, c', A ++ [(s.take s.length).drop f], by omega, by omega, rfl, rfl, by go_num, by go_num, hid (by simp [HN.out]), HM, HO2, HB2⟩
/-- a list of texts that is read -/
def TxRow (w : World) (a : Option Addr) (A : List (List Nat)) : Prop := ∀ k, k < A.length → ∃ g, a = some ⟨g, 0, none⟩ ∧ w.cell? ⟨g, k, none⟩ = some (.string (ofNats (A.getD k [])))
theorem TxRow.later {w w' : World} {a : Option Addr} {A : List (List Nat)} (h : TxRow w a A) (hb : Below w.heap.size w w') : TxRow w' a A := fun k hk => by
  obtain ⟨g, e, hc⟩ := h k hk
  exact ⟨g, e, by rw [hb.cell (World.block_lt_of_cell? _ _ hc)]; exact hc⟩
theorem txrow_of {w : World} {B c : Nat} {a : Option Addr} {A : List (List Nat)} (h : w.ownsRow B 9 1 (.slice a A.length c) A.length (txs A)) : TxRow w a A := fun k hk => by
  have h' := h
  obtain ⟨_, ⟨e, h0⟩ | ⟨g, cap, cur, e, _⟩⟩ := h
  · omega
  · injection e with e1 e2 e3
    subst e1
    refine ⟨g, rfl, ?_⟩
    rw [World.ownsRow.cellAt h' k (by omega)]
    simp [txs, hk, List.getD]
end Go.Proofs.YtggmhodogfngdaaDoor.Gt
