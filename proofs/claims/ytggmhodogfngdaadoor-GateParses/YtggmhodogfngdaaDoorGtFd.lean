import Derived.Test.YtggmhodogfngdaaDoorGtO
import Derived.Test.YtggmhodogfngdaaDoorRRead
import Derived.Test.YtggmhodogfngdaaDoorDOnl
/- The fields of a line, as they are read one behind the other. -/
namespace Go.Proofs.YtggmhodogfngdaaDoor.Gt
open Go.Proofs.YtggmhodogfngdaaDoor Go.Proofs.YtggmhodogfngdaaDoor.Rt Go.RowKit Go.Sort
set_option linter.unusedVariables false

abbrev FT : TypeId := 57
/-- fields as they lie: those that are left, and whether one was wrong -/
structure FdX (w : World) (F B : Nat) (r : List (List Nat)) (bad : Bool) (a : Option Addr) (cap : Nat) : Prop where
  box : w.heap[F]? = some (.cells #[.slice a r.length cap, .bool bad] FT (0, 0))
  len : r.length ≤ cap
  cap : cap ≤ 1000
  row : ∀ i (h : i < r.length), ∃ b o, a = some ⟨b, o, none⟩ ∧ (b ≠ F ∧ b < B) ∧ w.cell? ⟨b, o + i, none⟩ = some (.string (ofNats r[i]))
def Fd (w : World) (F B : Nat) (r : List (List Nat)) (bad : Bool) : Prop := ∃ a cap, FdX w F B r bad a cap
abbrev Chg (F : Nat) (w w' : World) : Prop := Onl (fun k => k = F) w w'
theorem chg_put {F : Nat} {w : World} {o : Nat} {v : Value} : Chg F w (w.setCell ⟨F, o, none⟩ v) := (Onl.refl (fun k => k = F) w).set (p := F) rfl o v
theorem FdX.lt {w : World} {F B : Nat} {r : List (List Nat)} {bad : Bool} {a : Option Addr} {cap : Nat} (h : FdX w F B r bad a cap) : F < w.heap.size := by
  rcases Nat.lt_or_ge F w.heap.size with h' | h'
  · exact h'
  · have := h.box; simp [Array.getElem?_eq_none h'] at this
theorem put0 {w : World} {F : Nat} {u v x : Value} {T : TypeId} (h : w.heap[F]? = some (.cells #[u, v] T (0, 0))) : (w.setCell ⟨F, 0, none⟩ x).heap[F]? = some (.cells #[x, v] T (0, 0)) := by
  exact heap_setCell_same w F 0 _ _ x h
theorem put1 {w : World} {F : Nat} {u v x : Value} {T : TypeId} (h : w.heap[F]? = some (.cells #[u, v] T (0, 0))) : (w.setCell ⟨F, 1, none⟩ x).heap[F]? = some (.cells #[u, x] T (0, 0)) := by
  exact heap_setCell_same w F 1 _ _ x h
theorem FdX.step {w : World} {F B b o : Nat} {x : List Nat} {r : List (List Nat)} {bad : Bool} {a' : Option Addr} {cap : Nat} (h : FdX w F B (x :: r) bad (some ⟨b, o, none⟩) cap) (hb : b ≠ F ∧ b < B) (ha : r ≠ [] → a' = some ⟨b, o + 1, none⟩) :
    Fd (w.setCell ⟨F, 0, none⟩ (.slice a' r.length (cap - 1))) F B r bad := by
  have h1 := h.len
  have h2 := h.cap
  rw [List.length_cons] at h1
  refine ⟨a', cap - 1, put0 h.box, by omega, by omega, fun i hi => ?_⟩
  obtain ⟨b', o', e, _, hc⟩ := h.row (i + 1) (by simpa using hi)
  injection e with e
  injection e with e1 e2
  subst e1 e2
  refine ⟨b, o + 1, ha (by intro e; rw [e] at hi; simp at hi), hb, ?_⟩
  have e3 : o + 1 + i = o + (i + 1) := by omega
  rw [e3]
  exact cell_setc (by intro e; injection e with e; exact hb.1 e) (by simpa using hc)
theorem FdX.mark {w : World} {F B : Nat} {r : List (List Nat)} {bad bad' : Bool} {a : Option Addr} {cap : Nat} (h : FdX w F B r bad a cap) : Fd (w.setCell ⟨F, 1, none⟩ (.bool bad')) F B r bad' := by
  refine ⟨a, cap, put1 h.box, h.len, h.cap, fun i hi => ?_⟩
  obtain ⟨b, o, e, hb, hc⟩ := h.row i hi
  exact ⟨b, o, e, hb, cell_setc (by intro e; injection e with e; exact hb.1 e) hc⟩
theorem Fd.far {w w' : World} {F B : Nat} {r : List (List Nat)} {bad : Bool} (h : Fd w F B r bad) (hf : w'.heap[F]? = w.heap[F]?) (hb : ∀ k, k < B → k ≠ F → w'.heap[k]? = w.heap[k]?) : Fd w' F B r bad := by
  obtain ⟨a, cap, hx⟩ := h
  refine ⟨a, cap, by rw [hf]; exact hx.box, hx.len, hx.cap, fun i hi => ?_⟩
  obtain ⟨b, o, e, hn, hc⟩ := hx.row i hi
  refine ⟨b, o, e, hn, ?_⟩
  rw [← hc]; exact World.cell?_of_block (a := ⟨b, o + i, none⟩) (hb b hn.2 hn.1)
theorem Fd.on {w w' : World} {F B : Nat} {r : List (List Nat)} {bad : Bool} (h : Fd w F B r bad) (hb : Below w.heap.size w w') : Fd w' F B r bad := by
  obtain ⟨a, cap, hx⟩ := h
  refine ⟨a, cap, by rw [hb.block F hx.lt]; exact hx.box, hx.len, hx.cap, fun i hi => ?_⟩
  obtain ⟨b, o, e, hn, hc⟩ := hx.row i hi
  refine ⟨b, o, e, hn, ?_⟩
  rw [hb.cell (World.block_lt_of_cell? _ _ hc)]; exact hc

set_option maxHeartbeats 1000000 in
theorem next_is {w : World} {F B : Nat} {r : List (List Nat)} {bad : Bool} (h : Fd w F B r bad) :
    Calls Tryd.prog 54 #[.pointer (some ⟨F, 0, none⟩)] w fun e w' => e = .returned (.string (ofNats (hdF r))) ∧ Fd w' F B r.tail bad ∧ Chg F w w' := by
  obtain ⟨a, cap, hx⟩ := h
  have c0 : w.cell? ⟨F, 0, none⟩ = some (.slice a r.length cap) := by rw [Lib.cell_of_heap hx.box]; rfl
  have f0 : w.frozen? ⟨F, 0, none⟩ = false := Lib.frozen_of_heap hx.box 0
  cases r with
  | nil =>
    go_enter Tryd.func54, Tryd.ntmps54
    go_wp2_with fail
    go_ret
    exact ⟨rfl, ⟨a, cap, hx⟩, Onl.refl _ _⟩
  | cons x r =>
    obtain ⟨b, o, rfl, hb, hc⟩ := hx.row 0 (by simp)
    have hc' : w.cell? ⟨b, o, none⟩ = some (.string (ofNats x)) := by simpa using hc
    have h1 := hx.len
    have h2 := hx.cap
    rw [List.length_cons] at c0 h1
    have HX := hid hx
    clear hx hc
    by_cases hcap : cap = 1
    · subst hcap
      have hr : r = [] := List.eq_nil_of_length_eq_zero (by omega)
      subst hr
      go_enter Tryd.func54, Tryd.ntmps54
      go_wp2_with fail
      go_ret
      exact ⟨rfl, HX.out.step hb (fun h => absurd rfl h), chg_put⟩
    have g1 : (1 : Int) ≤ ((r.length + 1 : Nat) : Int) := by omega
    have g2 : ((r.length + 1 : Nat) : Int) ≤ (cap : Int) := by omega
    go_enter Tryd.func54, Tryd.ntmps54
    go_wp2_with fail
    go_ret
    exact ⟨rfl, HX.out.step hb (fun _ => rfl), chg_put⟩

set_option maxHeartbeats 1000000 in
theorem check_is {w : World} {F B : Nat} {r : List (List Nat)} {bad ok : Bool} (h : Fd w F B r bad) :
    Calls Tryd.prog 56 #[.pointer (some ⟨F, 0, none⟩), .bool ok] w fun e w' => e = .returned (.tuple #[]) ∧ Fd w' F B r (bad || !ok) ∧ Chg F w w' := by
  obtain ⟨a, cap, hx⟩ := h
  have c1 : w.cell? ⟨F, 1, none⟩ = some (.bool bad) := by rw [Lib.cell_of_heap hx.box]; rfl
  have f1 : w.frozen? ⟨F, 1, none⟩ = false := Lib.frozen_of_heap hx.box 1
  have HX := hid hx
  clear hx
  cases bad
  · go_enter Tryd.func56, Tryd.ntmps56
    go_wp2_with fail
    go_end0
    exact ⟨rfl, HX.out.mark, chg_put⟩
  · go_enter Tryd.func56, Tryd.ntmps56
    go_wp2_with fail
    go_end0
    exact ⟨rfl, HX.out.mark, chg_put⟩

/-- fields whose bytes are bytes, and few -/
def TxOk (r : List (List Nat)) : Prop := ∀ l ∈ r, B8 l ∧ l.length ≤ 400
theorem TxOk.hd {r : List (List Nat)} (h : TxOk r) : B8 (hdF r) ∧ (hdF r).length ≤ 400 := by
  cases r with
  | nil => rw [hdF_nil]; exact ⟨b8_nil, by simp⟩
  | cons x r => rw [hdF_cons]; exact h x (by simp)
theorem TxOk.tl {r : List (List Nat)} (h : TxOk r) : TxOk r.tail := fun l hl => h l (List.mem_of_mem_tail hl)
theorem unA_is (l : List Nat) : unA l = (unT l, if badT l then 120 else 0) := by
  unfold unA unT badT
  cases unword l <;> rfl

set_option maxHeartbeats 1000000 in
theorem text_is {w : World} {F B : Nat} {r : List (List Nat)} {bad : Bool} (h : Fd w F B r bad) (hr : TxOk r) :
    Calls Tryd.prog 42 #[.pointer (some ⟨F, 0, none⟩)] w fun e w' => e = .returned (.string (ofNats (unT (hdF r)))) ∧ Fd w' F B r.tail (bad || badT (hdF r)) ∧ Chg F w w' := by
  have CN := hid (next_is h)
  have CU := hid (fun W => unword_is hr.hd.1 (by have := hr.hd.2; omega) W)
  rw [unA_is] at CU
  have HE : Hid ((!(decide ((if badT (hdF r) then (120 : Int) else 0) = 0))) = badT (hdF r)) := hid (by cases badT (hdF r) <;> rfl)
  clear h hr
  generalize badT (hdF r) = bt at *
  generalize ofNats (unT (hdF r)) = res at *
  generalize ofNats (hdF r) = hd at *
  cases bt
  · go_enter Tryd.func42, Tryd.ntmps42
    go_wp2_with fail
    refine CN.out.mono ?_
    rintro e w1 ⟨rfl, h1, o1⟩
    have H1 := hid h1
    have O1 := hid o1
    clear h1 o1
    go_wp2_with fail
    refine (CU.out _).mono ?_
    rintro e w2 ⟨rfl, hb⟩
    have H2 := hid (H1.out.on hb)
    have O2 := hid (O1.out.on hb)
    clear hb
    go_wp2_with fail
    refine (check_is H2.out).mono ?_
    rintro e w3 ⟨rfl, h3, o3⟩
    have H3 := hid h3
    have O3 := hid (O2.out.trans o3)
    clear h3 o3
    go_wp2_with fail
    go_ret
    exact ⟨rfl, H3.out, O3.out⟩
  · go_enter Tryd.func42, Tryd.ntmps42
    go_wp2_with fail
    refine CN.out.mono ?_
    rintro e w1 ⟨rfl, h1, o1⟩
    have H1 := hid h1
    have O1 := hid o1
    clear h1 o1
    go_wp2_with fail
    refine (CU.out _).mono ?_
    rintro e w2 ⟨rfl, hb⟩
    have H2 := hid (H1.out.on hb)
    have O2 := hid (O1.out.on hb)
    clear hb
    go_wp2_with fail
    refine (check_is H2.out).mono ?_
    rintro e w3 ⟨rfl, h3, o3⟩
    have H3 := hid h3
    have O3 := hid (O2.out.trans o3)
    clear h3 o3
    go_wp2_with fail
    go_ret
    exact ⟨rfl, H3.out, O3.out⟩

theorem beg_is {l : List Nat} (h8 : B8 l) : ((ofNats l).toList == [98, 101, 103, 105, 110]) = decide (l = nBegin) := by
  rw [Bool.eq_iff_iff, beq_iff_eq, decide_eq_true_eq]
  constructor
  · intro h
    rw [ByteArray.toList_eq] at h
    have h2 : nums (ofNats l) = nBegin := by unfold nums; rw [h]; rfl
    rw [nums_ofNats h8] at h2
    exact h2
  · rintro rfl; simp [ofNats, ByteArray.toList_eq]
set_option maxHeartbeats 1000000 in
theorem name_is {w : World} {F B : Nat} {r : List (List Nat)} {bad : Bool} (h : Fd w F B r bad) (hr : TxOk r) :
    Calls Tryd.prog 41 #[.pointer (some ⟨F, 0, none⟩)] w fun e w' => e = .returned (.string (ofNats (nameF r).1)) ∧ Fd w' F B (nameF r).2 bad ∧ Chg F w w' := by
  have CN := hid (next_is h)
  have hbg := beg_is hr.hd.1
  have hz : (ofNats (hdF r.tail)).size ≤ 400 := by rw [ofNats_size]; exact hr.tl.hd.2
  by_cases hB : hdF r = nBegin
  · have e1 : nameF r = (nBegin ++ 32 :: hdF r.tail, r.tail.tail) := by rw [nameF, if_pos hB]
    rw [e1]
    rw [hB] at hbg CN
    simp only [decide_true] at hbg
    obtain ⟨bg, hbgd⟩ : ∃ bg : ByteArray, bg = ofNats nBegin := ⟨_, rfl⟩
    obtain ⟨sp, hsp0⟩ : ∃ sp : ByteArray, sp = ⟨#[32]⟩ := ⟨_, rfl⟩
    have HR : Hid (bg ++ (sp ++ ofNats (hdF r.tail)) = ofNats (nBegin ++ 32 :: hdF r.tail)) := hid (by
      rw [hbgd, hsp0, show (⟨#[32]⟩ : ByteArray) = ofNats [32] from rfl, ofNats_append, ofNats_append]; rfl)
    have zb : bg.size = 5 := by rw [hbgd]; rfl
    have zs : sp.size = 1 := by rw [hsp0]; rfl
    have hsp : (⟨#[32]⟩ : ByteArray) = sp := hsp0.symm
    rw [← hbgd] at hbg CN
    clear hbgd hsp0 e1 hB h hr
    simp only
    generalize ofNats (nBegin ++ 32 :: hdF r.tail) = res at *
    go_enter Tryd.func41, Tryd.ntmps41
    go_wp2_with fail
    refine CN.out.mono ?_
    rintro e w1 ⟨rfl, h1, o1⟩
    have C2 := hid (next_is h1)
    have O1 := hid o1
    clear h1 o1 CN
    generalize ofNats (hdF r.tail) = s2 at *
    have n1 : ¬ 9223372036854775807 < 1 + s2.size := by omega
    have n2 : ¬ 9223372036854775807 < 5 + (1 + s2.size) := by omega
    go_wp2_with fail
    refine C2.out.mono ?_
    rintro e w2 ⟨rfl, h2, o2⟩
    have H2 := hid h2
    have O2 := hid (O1.out.trans o2)
    clear h2 o2 C2
    go_wp2_with fail
    rw [HR.out]
    go_ret
    exact ⟨rfl, H2.out, O2.out⟩
  · have e1 : nameF r = (hdF r, r.tail) := by rw [nameF, if_neg hB]
    rw [e1]
    have hbf : decide (hdF r = nBegin) = false := by simp [hB]
    rw [hbf] at hbg
    clear e1 hB h hr hbf
    simp only
    generalize ofNats (hdF r) = s1 at *
    go_enter Tryd.func41, Tryd.ntmps41
    go_wp2_with fail
    refine CN.out.mono ?_
    rintro e w1 ⟨rfl, h1, o1⟩
    have H1 := hid h1
    have O1 := hid o1
    clear h1 o1 CN
    go_wp2_with fail
    go_ret
    exact ⟨rfl, H1.out, O1.out⟩
end Go.Proofs.YtggmhodogfngdaaDoor.Gt
