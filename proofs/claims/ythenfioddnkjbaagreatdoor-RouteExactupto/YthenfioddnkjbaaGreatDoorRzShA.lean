import Derived.Test.YthenfioddnkjbaaGreatDoorRxShares
import Derived.Test.YthenfioddnkjbaaGreatDoorRSharesW
import Derived.Test.YthenfioddnkjbaaGreatDoorRzStep
/- The document's Shares at any configuration; its Home. -/
namespace Go.Proofs.YthenfioddnkjbaaGreatDoor.Rt
open Go.RowKit Go.Sort
set_option linter.unusedVariables false

def Cf.shA (c : Cf) (rs : List T2) (ws : List Wr) : List Sh := if c.okB then shareL c.ss rs ws else []
set_option maxHeartbeats 4000000 in
theorem rShares_no {c : Cf} {w : World} (h : c.Ok w) (hv : c.okB = false) {ra wa : Option Addr} {rc wc rn wn : Nat} :
    Calls Tryz.prog 35 #[c.val, .slice ra rn rc, .slice wa wn wc] w (ShP w []) := by
  have H := hid h
  have HV := hid hv
  clear h hv
  go_enter Tryz.func35, Tryz.ntmps35
  go_wp2_with fail
  refine (rvalid_is (H.out.later (by (repeat (first | exact Below.refl _ _ | assumption | refine Below.drew ?_ | refine Below.al ?_ _ | refine Below.setCell ?_ (by first | exact Nat.le_refl _ | (simp; omega) | (simp; done)) _ | refine Below.on ?_ (by assumption))))) HV.out).mono ?_
  rintro e w0 ⟨rfl, hw0⟩
  have H0 : Hid (Below w.heap.size w w0) := hid (by (repeat (first | exact Below.refl _ _ | assumption | refine Below.drew ?_ | refine Below.al ?_ _ | refine Below.setCell ?_ (by first | exact Nat.le_refl _ | (simp; omega) | (simp; done)) _ | refine Below.on ?_ (by assumption))))
  clear hw0
  go_wp2_with fail
  go_ret
  exact ⟨⟨none, 0, rfl, fun i hi => by simp at hi⟩, H0.out⟩
theorem rShares_any {c : Cf} {w : World} (h : c.Ok w) {ra wa : Option Addr} {rc wc : Nat} {rs : List T2} {ws : List Wr} (hr : Row2 w ra rs) (hw : RowW w wa ws) (hrl : rs.length ≤ 4398046511104) (hwl : ws.length ≤ 3518437208883) :
    Calls Tryz.prog 35 #[c.val, .slice ra rs.length rc, .slice wa ws.length wc] w (ShP w (c.shA rs ws)) := by
  unfold Cf.shA
  cases hv : c.okB
  · exact rShares_no h hv
  · exact rShares_is h hv hr hw hrl hwl
theorem share_none {ss : List ByteArray} {ws : List Wr} : ∀ {n : Nat}, (∀ i, i < n → writesL ss ws i = []) → shareN ss [] ws n = []
  | 0, _ => rfl
  | n + 1, h => by
    rw [shareN, share_none (fun i hi => h i (by omega)), h n (by omega)]
    simp [readsL]
theorem share_some {ss : List ByteArray} {ws : List Wr} {K : Nat} (h : ∀ i, i < K → writesL ss ws i = []) (hK : writesL ss ws K ≠ []) : ∀ d, ∃ r, shareN ss [] ws (K + 1 + d) = (K, readsL ss [] K, writesL ss ws K) :: r
  | 0 => by
    refine ⟨[], ?_⟩
    rw [Nat.add_zero, shareN, share_none h, if_neg]
    · rfl
    · have := List.length_pos_iff.2 hK
      omega
  | d + 1 => by
    obtain ⟨r, hr⟩ := share_some h hK d
    rw [← Nat.add_assoc, shareN, hr]
    exact ⟨_, rfl⟩
/-- the first share's shard -/
theorem share_home (c : Cf) (ws : List Wr) : ((c.shA [] ws).length = 0 ∧ c.home ws = (0, false)) ∨ (0 < (c.shA [] ws).length ∧ c.home ws = ((nthSh (c.shA [] ws) 0).1, true)) := by
  unfold Cf.shA Cf.home
  cases hv : c.okB
  · exact .inl ⟨rfl, rfl⟩
  · rcases Nat.eq_zero_or_pos ws.length with h0 | h0
    · left
      have : ws = [] := List.length_eq_zero_iff.1 h0
      subst this
      rw [if_pos rfl, shareL, share_none (fun i _ => rfl)]
      exact ⟨rfl, rfl⟩
    · right
      obtain ⟨h1, h2⟩ := home_first (ss := c.ss) h0
      have hle : homeK c.ss ws (ws.length - 1) ≤ c.ss.length := by
        obtain ⟨x, hx⟩ := List.exists_mem_of_ne_nil _ h2
        rw [writesL, List.mem_filter, decide_eq_true_eq] at hx
        rw [← hx.2]
        exact own_le _ _
      obtain ⟨r, hr⟩ := share_some h1 h2 (c.ss.length - homeK c.ss ws (ws.length - 1))
      have e : homeK c.ss ws (ws.length - 1) + 1 + (c.ss.length - homeK c.ss ws (ws.length - 1)) = c.ss.length + 1 := by omega
      rw [e] at hr
      rw [if_pos rfl, shareL, hr]
      refine ⟨by simp, ?_⟩
      simp [h0, nthSh]
set_option maxHeartbeats 4000000 in
theorem rHome_is {c : Cf} {w : World} (h : c.Ok w) {wa : Option Addr} {wc : Nat} {ws : List Wr} (hw : RowW w wa ws) (hwl : ws.length ≤ 3518437208883) :
    Calls Tryz.prog 42 #[c.val, .slice wa ws.length wc] w fun e w' => e = .returned (.tuple #[.int .u32 ((c.home ws).1 : Int), .bool (c.home ws).2]) ∧ Below w.heap.size w w' := by
  have HSR : Hid (∀ W, Below w.heap.size w W → Calls Tryz.prog 35 #[c.val, .slice none 0 0, .slice wa ws.length wc] W (ShP W (c.shA [] ws))) := hid (fun W hW => rShares_any (h.later hW) (rs := []) (ra := none) (rc := 0) (fun i hi => by simp at hi) (hw.later hW) (by simp) hwl)
  have HB := hid (BoxC.new w c 26)
  have HH := hid (share_home c ws)
  clear h hw
  go_enter Tryz.func42, Tryz.ntmps42
  go_wp2_with fail
  refine (HSR.out _ (by (repeat (first | exact Below.refl _ _ | assumption | refine Below.drew ?_ | refine Below.al ?_ _ | refine Below.setCell ?_ (by first | exact Nat.le_refl _ | (simp; omega) | (simp; done)) _ | refine Below.on ?_ (by assumption))))).mono ?_
  rintro e w1 ⟨⟨a, cp, rfl, hrow⟩, hb1⟩
  have HB1 : Hid (Below w.heap.size w w1) := hid (by (repeat (first | exact Below.refl _ _ | assumption | refine Below.drew ?_ | refine Below.al ?_ _ | refine Below.setCell ?_ (by first | exact Nat.le_refl _ | (simp; omega) | (simp; done)) _ | refine Below.on ?_ (by assumption))))
  clear hb1 HB HSR
  rcases HH.out with ⟨h0, h1⟩ | ⟨h0, h1⟩
  · have HE := hid h1
    clear h1 hrow
    rw [h0]
    go_wp2_with fail
    go_ret2
    exact ⟨by rw [HE.out]; rfl, HB1.out⟩
  · obtain ⟨b, off, ra, rc, wa', wc', rfl, k0, _, _, _, _⟩ := hrow 0 h0
    have HE := hid h1
    obtain ⟨n, hn⟩ : ∃ n, n = (c.shA [] ws).length := ⟨_, rfl⟩
    rw [← hn] at h0 ⊢
    simp only [Nat.zero_mul, Nat.add_zero] at k0
    clear hrow hn h1
    go_wp2_with fail
    go_ret2
    exact ⟨by rw [HE.out]; rfl, HB1.out⟩
end Go.Proofs.YthenfioddnkjbaaGreatDoor.Rt
/- Shares at a configuration that is not valid. -/
namespace Go.Proofs.YthenfioddnkjbaaGreatDoor.Rt
open Go.RowKit Go.Sort
set_option linter.unusedVariables false

set_option maxHeartbeats 4000000 in
theorem Shares_not {c : Cf} {w : World} (h : c.Ok w) (hv : c.okB = false) {ra wa : Option Addr} {rc wc rn wn : Nat} :
    Calls Tryz.prog 33 #[c.val, .slice ra rn rc, .slice wa wn wc] w fun e w' => e = .returned (.slice none 0 0) ∧ Below w.heap.size w w' := by
  have H := hid h
  have HV := hid hv
  clear h hv
  go_enter Tryz.func33, Tryz.ntmps33
  go_wp2_with fail
  refine (mayBe_is (H.out.later (by (repeat (first | exact Below.refl _ _ | assumption | refine Below.drew ?_ | refine Below.al ?_ _ | refine Below.setCell ?_ (by first | exact Nat.le_refl _ | (simp; omega) | (simp; done)) _ | refine Below.on ?_ (by assumption))))) HV.out).mono ?_
  rintro e w0 ⟨rfl, hw0⟩
  have H0 : Hid (Below w.heap.size w w0) := hid (by (repeat (first | exact Below.refl _ _ | assumption | refine Below.drew ?_ | refine Below.al ?_ _ | refine Below.setCell ?_ (by first | exact Nat.le_refl _ | (simp; omega) | (simp; done)) _ | refine Below.on ?_ (by assumption))))
  clear hw0
  go_wp2_with fail
  go_ret
  exact ⟨rfl, H0.out⟩
end Go.Proofs.YthenfioddnkjbaaGreatDoor.Rt
/- Shares at any configuration; rooms that stay. -/
namespace Go.Proofs.YthenfioddnkjbaaGreatDoor.Bg
open Go.RowKit Go.Sort Go.Proofs.YthenfioddnkjbaaGreatDoor Go.Proofs.YthenfioddnkjbaaGreatDoor.Rt
set_option linter.unusedVariables false

theorem Shares_any {c : Cf} {w : World} (h : c.Ok w) {ra wa : Option Addr} {rc wc : Nat} {rs : List T2} {ws : List Wr} (hr : Row2 w ra rs) (hw : RowW w wa ws) (hrl : rs.length ≤ 1073741824) (hwl : ws.length ≤ 1073741824) :
    Calls Tryz.prog 33 #[c.val, .slice ra rs.length rc, .slice wa ws.length wc] w fun e w' => ∃ a cp, e = .returned (.slice a (c.shA rs ws).length cp) ∧ Hid (∃ vr vw, ShO w' w.heap.size a (c.shA rs ws) vr vw) ∧ Below w.heap.size w w' := by
  unfold Cf.shA
  cases hv : c.okB
  · refine (Shares_not h hv).mono ?_
    rintro e w' ⟨rfl, hb⟩
    refine ⟨none, 0, rfl, hid ⟨fun _ => .bool false, fun _ => .bool false, ?_⟩, hb⟩
    constructor <;> (intro i; intros; simp at *)
  · exact Shares_own h hv hr hw (by omega) (by omega)
theorem share_mem {ss : List ByteArray} {rs : List T2} {ws : List Wr} {p : Sh} : ∀ {n : Nat}, p ∈ shareN ss rs ws n → ∃ i, p = (i, readsL ss rs i, writesL ss ws i)
  | 0, h => by simp [shareN] at h
  | n + 1, h => by
    rw [shareN, List.mem_append] at h
    rcases h with h | h
    · exact share_mem h
    · split at h
      · simp at h
      · simp at h; exact ⟨n, h⟩
theorem share_len (ss : List ByteArray) (rs : List T2) (ws : List Wr) : ∀ n, (shareN ss rs ws n).length ≤ n
  | 0 => by simp [shareN]
  | n + 1 => by
    have := share_len ss rs ws n
    rw [shareN, List.length_append]
    split <;> simp <;> omega
theorem shA_len (c : Cf) (rs : List T2) (ws : List Wr) : (c.shA rs ws).length ≤ 6 := by
  unfold Cf.shA
  cases hv : c.okB
  · simp
  · have h1 := share_len c.ss rs ws (c.ss.length + 1)
    have h2 := ok_len hv
    rw [if_pos rfl, shareL]; omega
theorem shA_in (c : Cf) (rs : List T2) (ws : List Wr) (i : Nat) (hi : i < (c.shA rs ws).length) : (nthSh (c.shA rs ws) i).2.1.length ≤ rs.length ∧ (nthSh (c.shA rs ws) i).2.2.length ≤ ws.length := by
  have hm : nthSh (c.shA rs ws) i ∈ c.shA rs ws := by simp [nthSh, hi]
  generalize nthSh (c.shA rs ws) i = p at hm
  unfold Cf.shA at hm
  cases hv : c.okB
  · rw [hv] at hm; simp at hm
  · rw [hv, if_pos rfl, shareL] at hm
    obtain ⟨j, rfl⟩ := share_mem hm
    exact ⟨reads_le _ _ _, writes_le _ _ _⟩
theorem sameShA {c : Cf} {rs : List T2} {ws : List Wr} {a b : Option Addr} {k m : Nat} {w : World} (h1 : RowSh w a (c.shA rs ws)) (h2 : RowSh w b (c.shA rs ws)) (hr : rs.length ≤ 1048576) (hw : ws.length ≤ 1048576) :
    Calls Tryz.prog 34 #[.slice a (c.shA rs ws).length k, .slice b (c.shA rs ws).length m] w fun e w' => e = .returned (.bool true) ∧ Below w.heap.size w w' :=
  sameSh_is h1 h2 (by have := shA_len c rs ws; omega) (fun i hi => by have := shA_in c rs ws i hi; omega)
theorem _root_.Go.Proofs.YthenfioddnkjbaaGreatDoor.Rt.Rm2.keep {w w' : World} {g N : Nat} {f : Nat → T2} (h : Rm2 w g f N) (hb : w'.heap[g]? = w.heap[g]?) : Rm2 w' g f N :=
  ⟨fun i hi => by
    have h1 := h.at_ i hi
    exact ⟨(World.cell?_of_block (a := ⟨g, i * 2, none⟩) hb).trans h1.1, (World.cell?_of_block (a := ⟨g, i * 2 + 1, none⟩) hb).trans h1.2⟩, by obtain ⟨cur, h1, h2⟩ := h.blk; exact ⟨cur, hb.trans h1, h2⟩⟩
theorem _root_.Go.Proofs.YthenfioddnkjbaaGreatDoor.Rt.RmW.keep {w w' : World} {g N : Nat} {f : Nat → Wr} (h : RmW w g f N) (hb : w'.heap[g]? = w.heap[g]?) : RmW w' g f N :=
  ⟨fun i hi => by
    have h1 := h.at_ i hi
    exact ⟨(World.cell?_of_block (a := ⟨g, i * 3, none⟩) hb).trans h1.1, (World.cell?_of_block (a := ⟨g, i * 3 + 1, none⟩) hb).trans h1.2.1, (World.cell?_of_block (a := ⟨g, i * 3 + 2, none⟩) hb).trans h1.2.2⟩, by obtain ⟨cur, h1, h2⟩ := h.blk; exact ⟨cur, hb.trans h1, h2⟩⟩
theorem blk_ne {T T' : TypeId} {m m' : Nat} {w : World} {g g' : Nat} (h : Blk T m w g) (k : Blk T' m' w g') (hT : T ≠ T') : g ≠ g' := fun e => by
  subst e
  obtain ⟨cur, h1, _⟩ := h
  obtain ⟨cur', h2, _⟩ := k
  rw [h1] at h2
  injection h2 with h2
  injection h2 with _ h3 _
  exact hT h3
end Go.Proofs.YthenfioddnkjbaaGreatDoor.Bg
