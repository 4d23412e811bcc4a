import Derived.Test.YtofpaldolcnmiaaGreatStateFoldsC01
import Derived.Test.YtofpaldolcnmiaaGreatB27
set_option linter.unusedVariables false
namespace Go.Proofs.YtofpaldolcnmiaaGreat.Ig
open Go.RowKit Go.Sort Ys
def RowS (w : World) (a : Option Addr) (rs : List Rg) : Prop := ∀ i r, rs[i]? = some r → (∃ b off, a = some ⟨b, off, none⟩ ∧ BoxO w b (off + i * 12) r) ∧ r.ok w
theorem RowS.later {w w' : World} {a : Option Addr} {rs : List Rg} (h : RowS w a rs) (hb : Below w.heap.size w w') : RowS w' a rs := fun i r hr => by
  obtain ⟨⟨b, off, e, hx⟩, h2⟩ := h i r hr
  exact ⟨⟨b, off, e, hx.later hb⟩, h2.later hb⟩
set_option maxHeartbeats 4000000 in
theorem Replay_is {w : World} {n : Int} {a : Option Addr} {rs : List Rg} {c : Nat} {s : Ps} (hL : RowS w a rs) (hl : rs.length ≤ 1048576) (hf : Fol (zero n) rs s) :
    Calls Tryz.prog 14 #[.int .u32 n, .slice a rs.length c] w fun e w' => ∃ p, e = .returned (.tuple #[sp p, .int .i64 0]) ∧ Hid (Sta w.heap.size w' p s) ∧ Below w.heap.size w w' := by
  have NW := hid (new_is w n)
  have HL := hid hL
  have HF := hid hf
  obtain ⟨N, hN⟩ : ∃ N, rs.length = N := ⟨_, rfl⟩
  rw [hN] at hl ⊢
  have HN := hid hN
  clear hL hf hN
  go_enter Tryz.func14, Tryz.ntmps14
  go_wp2_with fail
  refine NW.out.mono ?_
  rintro e w1 ⟨rfl, T, hb1⟩
  have HT1 : Hid (Sta w.heap.size w1 w.heap.size (zero n)) := hid ⟨_, none, none, none, [], [], T, fun b hb => by
    rcases hb with hb | hb | hb | hb | hb
    · exact Nat.le_of_eq hb.symm
    · exact Nat.le_of_eq hb.symm
    · cases hb
    · cases hb
    · cases hb⟩
  have HB1 := hid hb1
  clear T hb1 NW
  go_wp2_with fail
  go_loopg [14] N (fun gg s14 wr => ∃ (k : Nat) (s' : Ps), k ≤ N ∧ gg = N - k ∧ s14 = .int .i64 k ∧ Hid (Sta w.heap.size wr w.heap.size s') ∧ Hid (Fol s' (rs.drop k) s) ∧ Hid (Below w.heap.size w wr))
  case atStart => exact ⟨0, _, by omega, by omega, rfl, HT1, hid (by rw [List.drop_zero]; exact HF.out), HB1⟩
  case round =>
    obtain ⟨k, s', hk, rfl, rfl, HT, HG, HB⟩ := hrel
    clear HT1 HB1 HF
    by_cases hlt : k < N
    · have hkl : k < rs.length := by rw [HN.out]; exact hlt
      obtain ⟨r, hr⟩ : ∃ r, rs[k]? = some r := ⟨rs[k]'hkl, by simp⟩
      obtain ⟨⟨rb, ro, hla, BX⟩, hok⟩ := HL.out k r hr
      have hd : rs.drop k = r :: rs.drop (k + 1) := by
        rw [List.drop_eq_getElem_cons hkl]
        have : rs[k]'hkl = r := by rw [List.getElem?_eq_getElem hkl] at hr; exact Option.some.inj hr
        rw [this]
      have hG := HG.out
      rw [hd] at hG
      obtain ⟨s2, hs2, hf2⟩ : ∃ s2, Stp s' r s2 ∧ Fol s2 (rs.drop (k + 1)) s := by
        cases hG with
        | cons h1 h2 => exact ⟨_, h1, h2⟩
      have bx := BX.later HB.out
      have b0 := bx.c0; have b1 := bx.c1; have b2 := bx.c2; have b3 := bx.c3; have b4 := bx.c4; have b5 := bx.c5; have b6 := bx.c6; have b7 := bx.c7; have b8 := bx.c8; have b9 := bx.c9; have b10 := bx.c10; have b11 := bx.c11
      obtain ⟨wa, hwa⟩ : ∃ wa, wa = wr.alloc (.cells r.cells 40) := ⟨_, rfl⟩
      have hba : Below wr.heap.size wr wa := by rw [hwa]; exact Below.al (Below.refl _ _) _
      have AP := hid (sta_stp (HT.out.later hba) (Below.on HB.out hba).size (hok.later (Below.on HB.out hba)) hs2)
      have HBA := hid (Below.on HB.out hba)
      have HF2 := hid hf2
      subst hla
      clear BX hok hd hG hs2 hf2 bx hba hr hkl HG HT
      go_wp2_with fail
      rw [← hwa]
      refine AP.out.mono ?_
      rintro e w5 ⟨rfl, HP⟩
      have HB5 := hid (HBA.out.trans HP.out.2)
      have HT5 := hid HP.out.1
      clear AP HP b0 b1 b2 b3 b4 b5 b6 b7 b8 b9 b10 b11 hwa HB
      go_wp2_with fail
      go_roundg (N - (k + 1))
      case measure => omega
      case rel => exact ⟨k + 1, s2, by omega, rfl, by go_num, HT5, HF2, HB5⟩
    · obtain rfl : k = N := by omega
      have hs : s' = s := by
        have h := HG.out
        rw [List.drop_eq_nil_of_le (Nat.le_of_eq HN.out)] at h
        cases h
        rfl
      subst hs
      go_wp2_with fail
      refine bodyPost_ret (results_tmp2 rfl _ _ _) rfl ?_
      exact ⟨_, rfl, HT, HB.out⟩
end Go.Proofs.YtofpaldolcnmiaaGreat.Ig
namespace Go.Proofs.YtofpaldolcnmiaaGreat.Ig
open Go.RowKit Go.Sort Ys
abbrev rcz (m : Rg) : List Value := [.int .i64 m.k, .int .u64 m.x, .int .u32 m.c, .int .u32 m.s, .int .u32 m.h, .int .i64 m.oc, .int .u64 m.w, .int .u32 m.l, .int .u32 m.n, .slice m.ra m.rs.length m.rc, .slice m.wa m.ws.length m.wc, .string m.im]
theorem rcz_one (m : Rg) : ∀ x ∈ rcz m, x.oneCell' = true := by
  intro x hx
  simp [rcz] at hx
  rcases hx with rfl | rfl | rfl | rfl | rfl | rfl | rfl | rfl | rfl | rfl | rfl | rfl <;> rfl
def OwnZ (B : Nat) (w : World) (s : Value) (n : Nat) (U : List Rg) : Prop := w.ownsRow B 40 12 s n (U.flatMap rcz)
theorem infoZ : (Tryz.prog.info? 40).map (fun i => (i.zero, i.size, i.bytes)) = some (some Rg.zero.val, 12, 120) := by kernel_rfl
theorem flatZ {α : Type} {f : α → List Value} {k : Nat} (hf : ∀ x, (f x).length = k) : ∀ (U : List α) (i j : Nat) (x : α), U[i]? = some x → j < k → (U.flatMap f)[i * k + j]? = (f x)[j]?
  | [], i, j, x, h, _ => by simp at h
  | y :: U, i, j, x, h, hj => by
    rw [List.flatMap_cons]
    cases i with
    | zero =>
      simp at h
      subst h
      rw [Nat.zero_mul, Nat.zero_add, List.getElem?_append_left (by rw [hf]; exact hj)]
    | succ i =>
      rw [List.getElem?_append_right (by rw [hf, Nat.succ_mul]; omega), hf, show (i + 1) * k + j - k = i * k + j by rw [Nat.succ_mul]; omega]
      exact flatZ hf U i j x (by simpa using h) hj
section
variable {B : Nat} {w w' : World} {a : Option Addr} {n c : Nat} {U : List Rg}
theorem OwnZ.at (h : OwnZ B w (.slice a n c) n U) {i : Nat} {v : Rg} (hv : U[i]? = some v) (hi : i < n) : ∃ g, a = some ⟨g, 0, none⟩ ∧ BoxO w g (i * 12) v := by
  obtain ⟨g, ha, _, hc⟩ := Lk.own_cells h (by omega)
  have hg : ∀ j, j < 12 → ∀ x, (rcz v)[j]? = some x → w.cell? ⟨g, i * 12 + j, none⟩ = some x := fun j hj x hx => hc _ _ (by rw [flatZ (k := 12) (fun _ => rfl) U i j v hv hj]; exact hx)
  exact ⟨g, ha, hg 0 (by omega) _ rfl, hg 1 (by omega) _ rfl, hg 2 (by omega) _ rfl, hg 3 (by omega) _ rfl, hg 4 (by omega) _ rfl, hg 5 (by omega) _ rfl, hg 6 (by omega) _ rfl, hg 7 (by omega) _ rfl, hg 8 (by omega) _ rfl, hg 9 (by omega) _ rfl, hg 10 (by omega) _ rfl, hg 11 (by omega) _ rfl⟩
theorem OwnZ.later {s : Value} (h : OwnZ B w s n U) (hb : Below w.heap.size w w') : OwnZ B w' s n U := owns_keep h fun g hg => hb.block g (h.lt g hg).2
theorem OwnZ.front {s : Value} (h : OwnZ B w s n U) (hn : U.length = n) {g : Nat} (hg : s.ownBlock = some g) : n = 0 ∨ ∃ k, w.cell? ⟨g, 0, none⟩ = some (.int .i64 k) := by
  obtain ⟨a, c, rfl⟩ := owns_slice h
  cases n with
  | zero => exact .inl rfl
  | succ n =>
    cases U with
    | nil => simp at hn
    | cons u U =>
      obtain ⟨g', ha, bx⟩ := h.at (i := 0) (v := u) rfl (by omega)
      subst ha
      have e : g' = g := by simpa [Value.ownBlock] using hg
      subst e
      exact .inr ⟨_, by have := bx.c0; rwa [Nat.zero_mul] at this⟩
def Uok (w : World) (u : Rg) : Prop := u.ok w ∧ ∃ g1 g2, u.ra = some ⟨g1, 0, none⟩ ∧ u.wa = some ⟨g2, 0, none⟩ ∧ (∃ s, w.cell? ⟨g1, 0, none⟩ = some (.string s)) ∧ ∃ s, w.cell? ⟨g2, 0, none⟩ = some (.string s)
theorem Uok.onl {F : Nat → Prop} {u : Rg} (h : Uok w u) (ho : Onl F w w') (hF : ∀ g s, w.cell? ⟨g, 0, none⟩ = some (.string s) → ¬ F g) : Uok w' u := by
  obtain ⟨hk, g1, g2, e1, e2, ⟨s1, c1⟩, s2, c2⟩ := h
  have n1 := hF g1 s1 c1
  have n2 := hF g2 s2 c2
  refine ⟨⟨fun i hi => ?_, fun i hi => ?_, hk.rl, hk.wl, hk.rg⟩, g1, g2, e1, e2, ⟨s1, ho.cell n1 c1⟩, s2, ho.cell n2 c2⟩
  · obtain ⟨b, off, e, x0, x1⟩ := hk.r i hi
    have eb : b = g1 := by rw [e1] at e; injection e with e; injection e with e; exact e.symm
    subst eb
    exact ⟨b, off, e, ho.cell n1 x0, ho.cell n1 x1⟩
  · obtain ⟨b, off, e, x0, x1, x2⟩ := hk.w i hi
    have eb : b = g2 := by rw [e2] at e; injection e with e; injection e with e; exact e.symm
    subst eb
    exact ⟨b, off, e, ho.cell n2 x0, ho.cell n2 x1, ho.cell n2 x2⟩
theorem Uok.later {u : Rg} (h : Uok w u) (hb : Below w.heap.size w w') : Uok w' u := h.onl (F := fun _ => False) (Onl.of_below hb) fun _ _ _ k => k
theorem uok_own {w0 : World} {r : Rg} {g1 g2 : Nat} (h : r.ok w) (h1 : Room2 w0 w g1 r.rs) (h2 : RoomW w0 w g2 r.ws) : Uok w (r.own g1 g2) := by
  refine ⟨own_ok h h1 h2, g1, g2, rfl, rfl, ?_, ?_⟩
  · obtain ⟨f, hf, _⟩ := h1.cells
    exact ⟨_, by have := (hf 0 (by omega)).1; simpa using this⟩
  · obtain ⟨f, hf, _⟩ := h2.cells
    exact ⟨_, by have := (hf 0 (by omega)).1; simpa using this⟩
end
end Go.Proofs.YtofpaldolcnmiaaGreat.Ig
namespace Go.Proofs.YtofpaldolcnmiaaGreat.Ig
open Go.RowKit Go.Sort Ys
def RowT (w : World) (a : Option Addr) (rs : List Rg) : Prop := ∀ i r, rs[i]? = some r → (∃ b off, a = some ⟨b, off, none⟩ ∧ BoxO w b (off + i * 12) r) ∧ r.ok w ∧ r.rs.length + 1 ≤ 8796093022208 ∧ r.ws.length + 1 ≤ 7036874417766
theorem RowT.later {w w' : World} {a : Option Addr} {rs : List Rg} (h : RowT w a rs) (hb : Below w.heap.size w w') : RowT w' a rs := fun i r hr => by
  obtain ⟨⟨b, off, e, hx⟩, h2, h3⟩ := h i r hr
  exact ⟨⟨b, off, e, hx.later hb⟩, h2.later hb, h3⟩
structure Cop (B : Nat) (w0 w : World) (oa : Option Addr) (oc : Nat) (rs U : List Rg) (k : Nat) : Prop where
  ow : OwnZ B w (.slice oa k oc) k U
  ln : U.length = k
  un : ∀ u ∈ U, Uok w u
  os : Own (rs.take k) U
  z : k = 0 → oa = none
  bl : Below B w0 w
theorem Cop.later {B : Nat} {w0 w w' : World} {oa : Option Addr} {oc : Nat} {rs U : List Rg} {k : Nat} (h : Cop B w0 w oa oc rs U k) (hB : B ≤ w.heap.size) (hb : Below w.heap.size w w') : Cop B w0 w' oa oc rs U k :=
  ⟨h.ow.later hb, h.ln, fun u hu => (h.un u hu).later hb, h.os, h.z, h.bl.trans (hb.mono hB)⟩
theorem Cop.more {B : Nat} {w0 w w' : World} {oa : Option Addr} {oc : Nat} {rs U : List Rg} {k : Nat} (h : Cop B w0 w oa oc rs U k) (hB : B ≤ w.heap.size) {r : Rg} {g1 g2 : Nat} (hr : rs[k]? = some r) (hu : Uok w (r.own g1 g2)) {oa' : Option Addr} {oc' : Nat}
    (ho : w'.ownsRow B 40 12 (.slice oa' (k + 1) oc') (k + 1) (U.flatMap rcz ++ rcz (r.own g1 g2))) (hg : w.grownBy w' (Value.slice oa k oc).ownBlock) : Cop B w0 w' oa' oc' rs (U ++ [r.own g1 g2]) (k + 1) := by
  have hn : ∀ g s, w.cell? ⟨g, 0, none⟩ = some (.string s) → ¬ ((Value.slice oa k oc).ownBlock = some g) := fun g s hc e => by
    rcases h.ow.front h.ln e with h0 | ⟨j, hj⟩
    · rw [h.z h0] at e
      simp [Value.ownBlock] at e
    · rw [hc] at hj
      simp at hj
  have hO := grown_onl hg
  refine ⟨by unfold OwnZ; rw [List.flatMap_append]; simpa using ho, by simp [h.ln], fun u hu' => ?_, ?_, fun e => by omega, h.bl.trans (hO.below (fun b hb => (h.ow.lt b hb).1) hB)⟩
  · rcases List.mem_append.1 hu' with hm | hm
    · exact (h.un u hm).onl hO hn
    · rw [List.mem_singleton.1 hm]
      exact hu.onl hO hn
  · rw [List.take_add_one, hr]
    exact h.os.snoc r g1 g2
set_option maxHeartbeats 4000000 in
theorem own_is {w : World} {a : Option Addr} {rs : List Rg} {c : Nat} (hL : RowT w a rs) (hl : rs.length ≤ 1048576) :
    Calls Tryz.prog 15 #[.slice a rs.length c] w fun e w' => ∃ (oa : Option Addr) (oc : Nat) (U : List Rg), e = .returned (.slice oa rs.length oc) ∧ Hid (Cop w.heap.size w w' oa oc rs U rs.length) := by
  obtain ⟨i0, hi, hz0, hz1, hz2⟩ := Go.Proofs.YtofpaldolcnmiaaGreat.info_of infoZ
  have HL := hid hL
  obtain ⟨N, hN⟩ : ∃ N, rs.length = N := ⟨_, rfl⟩
  rw [hN] at hl ⊢
  have HN := hid hN
  have HC0 : Hid (Cop w.heap.size w w none 0 rs [] 0) := hid ⟨⟨rfl, .inl ⟨rfl, rfl⟩⟩, rfl, fun u hu => (by cases hu), (by rw [List.take_zero]; exact .nil), fun _ => rfl, Below.refl _ _⟩
  clear hL hN
  go_enter Tryz.func15, Tryz.ntmps15
  go_wp2_with fail
  go_loopg [3, 4] N (fun gg s3 s4 wr => ∃ (k : Nat) (oa : Option Addr) (oc : Nat) (U : List Rg), k ≤ N ∧ gg = N - k ∧ s4 = .int .i64 k ∧ s3 = .slice oa k oc ∧ Hid (Cop w.heap.size w wr oa oc rs U k))
  case atStart => exact ⟨0, none, 0, [], by omega, by omega, rfl, rfl, HC0⟩
  case round =>
    obtain ⟨k, oa, oc, U, hk, rfl, rfl, rfl, HC⟩ := hrel
    clear HC0
    by_cases hlt : k < N
    · have hkl : k < rs.length := by rw [HN.out]; exact hlt
      obtain ⟨r, hr⟩ : ∃ r, rs[k]? = some r := ⟨rs[k]'hkl, by simp⟩
      obtain ⟨⟨rb, ro, hla, BX⟩, hok, h1, h2⟩ := HL.out k r hr
      have HR := hid hr
      have bx := BX.later HC.out.bl
      have b0 := bx.c0; have b1 := bx.c1; have b2 := bx.c2; have b3 := bx.c3; have b4 := bx.c4; have b5 := bx.c5; have b6 := bx.c6; have b7 := bx.c7; have b8 := bx.c8; have b9 := bx.c9; have b10 := bx.c10; have b11 := bx.c11
      have HOK := hid (hok.later HC.out.bl)
      have CO := hid (copied_is HOK.out h1 h2)
      subst hla
      clear BX hok bx hr hkl h1 h2
      go_wp2_with fail
      refine CO.out.mono ?_
      rintro e w4 ⟨g1, g2, rfl, hr1, hr2, hne⟩
      have hsz : w.heap.size ≤ wr.heap.size := HC.out.bl.size
      have HC4 := hid (HC.out.later hsz hr1.bl)
      have HU4 := hid (uok_own (HOK.out.later hr1.bl) hr1 hr2)
      obtain ⟨v, hv⟩ : ∃ v, v = r.own g1 g2 := ⟨_, rfl⟩
      have HV := hid hv
      rw [← hv] at HU4 ⊢
      obtain ⟨w6, hw6⟩ : ∃ w6, w6 = w4.alloc (.cells #[.int .i64 v.k, .int .u64 v.x, .int .u32 v.c, .int .u32 v.s, .int .u32 v.h, .int .i64 v.oc, .int .u64 v.w, .int .u32 v.l, .int .u32 v.n, .slice v.ra v.rs.length v.rc, .slice v.wa v.ws.length v.wc, .string v.im] 40) := ⟨_, rfl⟩
      have hb6 : Below w4.heap.size w4 w6 := by rw [hw6]; exact Below.al (Below.refl _ _) _
      have blk6 : w6.heap[w4.heap.size]? = some (.cells (rcz v).toArray 40 (0, 0)) := by rw [hw6]; exact World.alloc_heap_new _ _
      have HCL : Hid (∀ j y, (rcz v)[j]? = some y → w6.cell? ((⟨w4.heap.size, 0, none⟩ : Addr).add j) = some y) := hid fun j y hj => by
        rw [Addr.add_lit, Nat.zero_add]
        exact Vs.cell_of_obj blk6 (by simpa using hj)
      have hs4 : w.heap.size ≤ w4.heap.size := HC4.out.bl.size
      have HC6 := hid (HC4.out.later hs4 hb6)
      have HU6 := hid (HU4.out.later hb6)
      have HO6 : Hid (w6.ownsRow w.heap.size 40 12 (.slice oa k oc) k (U.flatMap rcz)) := hid HC6.out.ow
      have hs6 : w.heap.size ≤ w6.heap.size := HC6.out.bl.size
      have hmb : k + 1 ≤ 1048576 := by omega
      clear hb6 blk6 hr1 hr2 hne b0 b1 b2 b3 b4 b5 b6 b7 b8 b9 b10 b11 CO HC4 HU4 HC HOK hv
      go_wp2_with (at_builtin; refine wpList_append_own _ rfl _ _ 23 rfl w.heap.size 40 i0 Rg.zero.val 12 120 Tryz.underlying23 hi hz0 hz1 hz2 rfl (by decide) (.slice oa k oc) k (U.flatMap rcz) rfl (by rw [← hw6]; exact HO6.out) ⟨w4.heap.size, 0, none⟩ 1 1 (rcz v) rfl rfl (by rw [← hw6]; exact HCL.out) (rcz_one v) (by unfold maxLen; omega) (by omega) (by rw [← hw6]; exact hs6) ?_)
      intro v2 w7 hown hgrow hnil
      rw [← hw6] at hgrow
      obtain ⟨oa', oc', rfl⟩ := owns_slice hown
      have HC7 : Hid (Cop w.heap.size w w7 oa' oc' rs (U ++ [v]) (k + 1)) := hid (by
        have hU := HU6.out
        rw [HV.out] at hown hU ⊢
        exact HC6.out.more hs6 HR.out hU hown hgrow)
      clear hown hgrow hnil HO6 HCL hw6 hs6 HC6 HU6
      go_wp2_with fail
      go_roundg (N - (k + 1))
      case measure => omega
      case rel => exact ⟨k + 1, oa', oc', U ++ [v], by omega, rfl, by go_num, rfl, HC7⟩
    · obtain rfl : k = N := by omega
      go_wp2_with fail
      go_ret
      exact ⟨oa, oc, U, rfl, HC⟩
end Go.Proofs.YtofpaldolcnmiaaGreat.Ig
namespace Go.Proofs.YtofpaldolcnmiaaGreat.Ig
open Go.RowKit Go.Sort Ys
structure Rok (B : Nat) (w : World) (r : Rg) : Prop where
  ok : r.ok w
  rl : r.rs.length + 1 ≤ 8796093022208
  wl : r.ws.length + 1 ≤ 7036874417766
  rb : 0 < r.rs.length → ∀ b off, r.ra = some ⟨b, off, none⟩ → b < B
  wb : 0 < r.ws.length → ∀ b off, r.wa = some ⟨b, off, none⟩ → b < B ∨ ∃ cs, w.heap[b]? = some (.cells cs 117 (0, 0))
theorem Rok.onl {B : Nat} {w w' : World} {r : Rg} {G : Nat → Prop} (h : Rok B w r) (ho : Onl G w w') (hG : ∀ b, G b → B ≤ b ∧ ∀ cs, w.heap[b]? ≠ some (.cells cs 117 (0, 0))) : Rok B w' r := by
  have n1 : 0 < r.rs.length → ∀ b off, r.ra = some ⟨b, off, none⟩ → ¬ G b := fun h0 b off e hg => by
    have := h.rb h0 b off e
    have := (hG b hg).1
    omega
  have n2 : 0 < r.ws.length → ∀ b off, r.wa = some ⟨b, off, none⟩ → ¬ G b := fun h0 b off e hg => by
    rcases h.wb h0 b off e with k | ⟨cs, k⟩
    · have := (hG b hg).1; omega
    · exact (hG b hg).2 cs k
  refine ⟨⟨fun i hi => ?_, fun i hi => ?_, h.ok.rl, h.ok.wl, h.ok.rg⟩, h.rl, h.wl, h.rb, fun h0 b off e => ?_⟩
  · obtain ⟨b, off, e, c0, c1⟩ := h.ok.r i hi
    have hn := n1 (by omega) b off e
    exact ⟨b, off, e, ho.cell hn c0, ho.cell hn c1⟩
  · obtain ⟨b, off, e, c0, c1, c2⟩ := h.ok.w i hi
    have hn := n2 (by omega) b off e
    exact ⟨b, off, e, ho.cell hn c0, ho.cell hn c1, ho.cell hn c2⟩
  · rcases h.wb h0 b off e with k | ⟨cs, k⟩
    · exact .inl k
    · exact .inr ⟨cs, (ho.block b (Array.getElem?_eq_some_iff.1 k).1 (n2 h0 b off e)).trans k⟩
theorem Rok.later {B : Nat} {w w' : World} {r : Rg} (h : Rok B w r) (hb : Below w.heap.size w w') : Rok B w' r := h.onl (G := fun _ => False) (Onl.of_below hb) fun b k => k.elim
theorem Rok.chg {B : Nat} {w w' : World} {r : Rg} (h : Rok B w r) (hc : Chg B w w') : Rok B w' r := by
  obtain ⟨G, ho, hg⟩ := hc
  refine h.onl ho fun b hb => ⟨(hg b hb).1, fun cs k => ?_⟩
  rcases (hg b hb).2 _ _ _ k with e | e <;> exact absurd e (by decide)
theorem rok_arg {B : Nat} {w w' : World} {r : Rg} (h : RgL w r) (hB : w.heap.size ≤ B) (hb : Below w.heap.size w w') : Rok B w' r := by
  refine ⟨h.ok.later hb, h.rl, h.wl, fun h0 b off e => ?_, fun h0 b off e => .inl ?_⟩
  · obtain ⟨b', off', e', c0, _⟩ := h.ok.r 0 h0
    have e2 : (some ⟨b, off, none⟩ : Option Addr) = some ⟨b', off', none⟩ := e.symm.trans e'
    injection e2 with e3
    injection e3 with e4
    have := World.block_lt_of_cell? _ _ c0
    show b < B
    rw [e4]
    exact Nat.lt_of_lt_of_le this hB
  · obtain ⟨b', off', e', c0, _⟩ := h.ok.w 0 h0
    have e2 : (some ⟨b, off, none⟩ : Option Addr) = some ⟨b', off', none⟩ := e.symm.trans e'
    injection e2 with e3
    injection e3 with e4
    have := World.block_lt_of_cell? _ _ c0
    show b < B
    rw [e4]
    exact Nat.lt_of_lt_of_le this hB
theorem sta_applyChg {B : Nat} {w : World} {p : Nat} {s : Ps} (h : Sta B w p s) (hB : B ≤ w.heap.size) {r : Rg} {g1 g2 : Nat} (hr : (r.own g1 g2).ok w) (hR : RgR r) (hc : (s.ceil == 0) = false) (hn : Vs.countM s.M ≤ 268435456) (hj : r.k = 2 → acB s (at' r) = true → jbB (at' r) = true) :
    Calls Tryz.prog 7 #[sp p, (r.own g1 g2).val] w fun e w' => e = .returned (.int .i64 (axE s r)) ∧ Hid (Sta B w' p (axS s r) ∧ Chg B w w') := by
  obtain ⟨F, m1, m2, m, V, I, T, hl⟩ := h
  have h := apply_all T (r.own g1 g2) hr ⟨hR.x, hR.t⟩ hc hn hj
  rw [(own_axE s r g1 g2).1, (own_axE s r g1 g2).2] at h
  refine h.mono ?_
  rintro e w' ⟨he, F', m1', m2', m', V', I', T', g1, g2⟩
  refine ⟨he, hid ⟨⟨F', m1', m2', m', V', I', T', fun b hb => ?_⟩, _, g2, fun b hb => ⟨hl b hb, fun cs t z hc => ?_⟩⟩⟩
  · rcases g1 b hb with k | k
    · exact hl b k
    · exact Nat.le_trans hB k
  · rcases T.own hb with ⟨ds, u, y, hd, hu⟩ | hn
    · rw [hc] at hd
      injection hd with hd
      injection hd with _ e _
      subst e
      exact hu
    · exact absurd hc (hn _ _ _)
structure Tk (wx wr : World) (p : Nat) (n : Int) (k : Nat) (s : Ps) (L : List Rg) (la : Option Addr) (m lc : Nat) : Prop where
  st : Sta wx.heap.size wr p s
  run : Run n k s
  tk : Tkn n L s
  ow : OwnZ wx.heap.size wr (.slice la m lc) m L
  ln : L.length = m
  mb : 3 ≤ m ∧ m ≤ k + 3
  ok : ∀ r ∈ L, Rok wx.heap.size wr r
  bl : Below wx.heap.size wx wr
section
variable {wx w w' : World} {p : Nat} {n : Int} {k : Nat} {s : Ps} {L : List Rg} {la : Option Addr} {m lc : Nat}
theorem Tk.later (h : Tk wx w p n k s L la m lc) (hb : Below w.heap.size w w') : Tk wx w' p n k s L la m lc := ⟨h.st.later hb, h.run, h.tk, h.ow.later hb, h.ln, h.mb, fun r hr => (h.ok r hr).later hb, Below.on h.bl hb⟩
theorem Tk.image (h : Tk wx w p n k s L la m lc) (hk : k ≤ 93000) : Calls Tryz.prog 10 #[sp p] w fun e w' => e = .returned (.string (ofNats (imgB s))) ∧ Below w.heap.size w w' := sta_image h.st (h.run.imOk hk) (h.run.len hk)
theorem Tk.apply (h : Tk wx w p n k s L la m lc) (hk : k + 1 ≤ 93000) {r : Rg} {g1 g2 : Nat} (hr : (r.own g1 g2).ok w) (hR : RgR r) (hx : RgX r) :
    Calls Tryz.prog 7 #[sp p, (r.own g1 g2).val] w fun e w' => e = .returned (.int .i64 (axE s r)) ∧ Hid ((axE s r ≠ 0 → Tk wx w' p n (k + 1) s L la m lc) ∧ (axE s r = 0 → Sta wx.heap.size w' p (axS s r) ∧ Run n (k + 1) (axS s r) ∧ Tkn n (L ++ [r]) (axS s r) ∧ OwnZ wx.heap.size w' (.slice la m lc) m L ∧ (∀ x ∈ L, Rok wx.heap.size w' x) ∧ Below wx.heap.size wx w')) := by
  refine (sta_applyChg h.st h.bl.size hr hR h.run.ceil (run_cnt h.run (by omega)) (fun _ => h.run.jb)).mono ?_
  rintro e w' ⟨rfl, H⟩
  obtain ⟨I, hI⟩ := h.st.okI
  obtain ⟨hS, hC⟩ := H.out
  have ho : OwnZ wx.heap.size w' (.slice la m lc) m L := hC.owns h.ow (by decide) (by decide)
  have hk' : ∀ x ∈ L, Rok wx.heap.size w' x := fun x hx => (h.ok x hx).chg hC
  have hb := h.bl.trans (hC.below h.bl.size)
  have hrun := h.run.step h.st.good hI hR hx
  refine ⟨rfl, hid ⟨fun hne => ?_, fun he => ?_⟩⟩
  · have es : axS s r = s := by
      unfold axE at hne
      unfold axS
      split
      · rfl
      · rename_i h5
        rw [if_neg h5] at hne
        exact ap_no hne
    rw [es] at hS hrun
    exact ⟨hS, hrun, h.tk, ho, h.ln, ⟨h.mb.1, by have := h.mb.2; omega⟩, hk', hb⟩
  · obtain ⟨J, hJ⟩ := hS.okI
    exact ⟨hS, hrun, h.tk.run h.run hk h.st.good hI hR hx he hS.good hJ, ho, hk', hb⟩
end
end Go.Proofs.YtofpaldolcnmiaaGreat.Ig
namespace Go.Proofs.YtofpaldolcnmiaaGreat.Ig
open Go.RowKit Go.Sort Ys
def HdZ (B : Nat) (w : World) (g h : Nat) : Prop := OwnZ B w (.slice (some ⟨g, 0, none⟩) 3 3) 3 [hdR h 0, hdR h 1, hdR h 2] ∧ ∀ r ∈ [hdR h 0, hdR h 1, hdR h 2], Rok 0 w r
theorem Rok.mono {B B' : Nat} {w : World} {r : Rg} (h : Rok B w r) (hB : B ≤ B') : Rok B' w r := ⟨h.ok, h.rl, h.wl, fun h0 b off e => Nat.lt_of_lt_of_le (h.rb h0 b off e) hB, fun h0 b off e => (h.wb h0 b off e).imp (fun k => Nat.lt_of_lt_of_le k hB) id⟩
theorem Head_own (w : World) : Calls Tryz.prog 29 #[] w fun e w' => ∃ g h : Nat, e = .returned (.slice (some ⟨g, 0, none⟩) 3 3) ∧ Hid (HdZ w.heap.size w' g h) ∧ Below w.heap.size w w' := by
  obtain ⟨w1, hw1⟩ : ∃ w1, w1 = w.alloc (.cells #[.int .u32 4294967295, .int .u32 1] 33) := ⟨_, rfl⟩
  obtain ⟨w2, hw2⟩ : ∃ w2, w2 = w1.alloc (.cells #[.string ⟨#[107]⟩, .bool false, .string ⟨#[118]⟩] 117) := ⟨_, rfl⟩
  have s1 : w1.heap.size = w.heap.size + 1 := by rw [hw1]; simp
  have s2 : w2.heap.size = w.heap.size + 1 + 1 := by rw [hw2]; simp [s1]
  obtain ⟨w3, hw3⟩ : ∃ w3, w3 = w2.alloc (.cells #[.int .i64 1, .int .u64 8, .int .u32 0, .int .u32 0, .int .u32 0, .int .i64 0, .int .u64 0, .int .u32 0, .int .u32 0, .slice none 0 0, .slice none 0 0, .string ⟨#[]⟩, .int .i64 2, .int .u64 0, .int .u32 4294967295, .int .u32 1, .int .u32 0, .int .i64 0, .int .u64 1, .int .u32 0, .int .u32 0, .slice none 0 0, .slice (some ⟨w.heap.size + 1, 0, none⟩) 1 1, .string ⟨#[]⟩, .int .i64 3, .int .u64 0, .int .u32 4294967295, .int .u32 1, .int .u32 0, .int .i64 1, .int .u64 2, .int .u32 0, .int .u32 0, .slice none 0 0, .slice none 0 0, .string ⟨#[]⟩] 40) := ⟨_, rfl⟩
  have hb2 : Below w2.heap.size w2 w3 := by rw [hw3]; exact Below.al (Below.refl _ _) _
  have k2 : w2.heap[w.heap.size + 1]? = some (.cells #[.string ⟨#[107]⟩, .bool false, .string ⟨#[118]⟩] 117 (0, 0)) := by rw [← s1, hw2]; exact World.alloc_heap_new _ _
  have k3 := (hb2.block _ (by omega)).trans k2
  have k4 : w3.heap[w.heap.size + 1 + 1]? = some (.cells #[.int .i64 1, .int .u64 8, .int .u32 0, .int .u32 0, .int .u32 0, .int .i64 0, .int .u64 0, .int .u32 0, .int .u32 0, .slice none 0 0, .slice none 0 0, .string ⟨#[]⟩, .int .i64 2, .int .u64 0, .int .u32 4294967295, .int .u32 1, .int .u32 0, .int .i64 0, .int .u64 1, .int .u32 0, .int .u32 0, .slice none 0 0, .slice (some ⟨w.heap.size + 1, 0, none⟩) 1 1, .string ⟨#[]⟩, .int .i64 3, .int .u64 0, .int .u32 4294967295, .int .u32 1, .int .u32 0, .int .i64 1, .int .u64 2, .int .u32 0, .int .u32 0, .slice none 0 0, .slice none 0 0, .string ⟨#[]⟩] 40 (0, 0)) := by rw [← s2, hw3]; exact World.alloc_heap_new _ _
  have HA := head_at k4 k3
  have HH : Hid (HdZ w.heap.size w3 (w.heap.size + 1 + 1) (w.heap.size + 1)) := by
    refine hid ⟨⟨rfl, .inr ⟨w.heap.size + 1 + 1, 3, _, rfl, by omega, k4, Nat.le_refl _, by decide, rfl, rfl⟩⟩, fun r hr => ?_⟩
    have hmem : r = hdR (w.heap.size + 1) 0 ∨ r = hdR (w.heap.size + 1) 1 ∨ r = hdR (w.heap.size + 1) 2 := by simpa using hr
    have hok := hd_ok HA
    rcases hmem with rfl | rfl | rfl
    · exact ⟨hok 0, by simp [hdR], by simp [hdR], fun h0 => absurd h0 (by simp [hdR]), fun h0 => absurd h0 (by simp [hdR])⟩
    · refine ⟨hok 1, by simp [hdR], by simp [hdR], fun h0 => absurd h0 (by simp [hdR]), fun h0 b off e => .inr ?_⟩
      have e2 : (some ⟨w.heap.size + 1, 0, none⟩ : Option Addr) = some ⟨b, off, none⟩ := e
      injection e2 with e3
      injection e3 with e4
      rw [← e4]
      exact ⟨_, k3⟩
    · exact ⟨hok 2, by simp [hdR], by simp [hdR], fun h0 => absurd h0 (by simp [hdR]), fun h0 => absurd h0 (by simp [hdR])⟩
  have hb : Below w.heap.size w w3 := by rw [hw3, hw2, hw1]; exact Below.al (Below.al (Below.al (Below.refl _ _) _) _) _
  subst hw1
  subst hw2
  have HB := hid hb
  clear hb hb2 k2 k3 k4 s1 s2 HA
  go_enter Tryz.func29, Tryz.ntmps29
  go_wp2_with fail
  go_ret
  rw [← hw3]
  exact ⟨_, rfl, ⟨_, HH⟩, HB.out⟩
end Go.Proofs.YtofpaldolcnmiaaGreat.Ig
namespace Go.Proofs.YtofpaldolcnmiaaGreat.Ig
open Go.RowKit Go.Sort Ys
theorem Tk.grow {wx w w' : World} {p : Nat} {n : Int} {k : Nat} {s : Ps} {L : List Rg} {la : Option Addr} {m lc : Nat} {r : Rg} (h1 : Sta wx.heap.size w p s) (h2 : Run n k s) (h3 : Tkn n (L ++ [r]) s) (h4 : OwnZ wx.heap.size w (.slice la m lc) m L) (h5 : L.length = m) (h6 : 3 ≤ m + 1 ∧ m + 1 ≤ k + 3) (h7 : ∀ x ∈ L, Rok wx.heap.size w x) (h8 : Rok wx.heap.size w r) (h9 : Below wx.heap.size wx w) {la' : Option Addr} {lc' : Nat}
    (ho : w'.ownsRow wx.heap.size 40 12 (.slice la' (m + 1) lc') (m + 1) (L.flatMap rcz ++ rcz r)) (hg : w.grownBy w' (Value.slice la m lc).ownBlock) : Tk wx w' p n k s (L ++ [r]) la' (m + 1) lc' := by
  have hO := grown_onl hg
  have hty : ∀ b, (Value.slice la m lc).ownBlock = some b → ∃ cs, w.heap[b]? = some (.cells cs 40 (0, 0)) := fun b hb => by
    obtain ⟨cur, hc⟩ := Lk.own_type h4 hb
    exact ⟨cur, hc⟩
  have hR : ∀ x, Rok wx.heap.size w x → Rok wx.heap.size w' x := fun x hx => hx.onl hO fun b hb => ⟨(h4.lt b hb).1, fun cs hc => by
    obtain ⟨ds, hd⟩ := hty b hb
    rw [hd] at hc
    injection hc with hc
    injection hc with _ e _
    exact absurd e (by decide)⟩
  refine ⟨h1.other hO fun b hb => ?_, h2, h3, by unfold OwnZ; rw [List.flatMap_append]; simpa using ho, by simp [h5], h6, fun x hx => ?_, h9.trans (hO.below (fun b hb => (h4.lt b hb).1) h9.size)⟩
  · obtain ⟨ds, hd⟩ := hty b hb
    exact ⟨ds, _, _, hd, by decide, by decide, by unfold Vs.IxT; decide, by decide, by decide⟩
  · rcases List.mem_append.1 hx with hm | hm
    · exact hR x (h7 x hm)
    · rw [List.mem_singleton.1 hm]; exact hR r h8
set_option maxRecDepth 16000 in
set_option maxHeartbeats 4000000 in
theorem taken_is {w : World} {x : Lx} (hL : RowL w x.la x.ls) (hl : x.ls.length ≤ 92000) (hn : okU 4294967295 x.node) :
    Calls Tryz.prog 13 #[x.val] w fun e w' => ∃ (la : Option Addr) (m lc p : Nat), e = .returned (.tuple #[.slice la m lc, sp p]) ∧ Hid (∃ wx s L, w.heap.size ≤ wx.heap.size ∧ Tk wx w' p x.node x.ls.length s L la m lc) ∧ Below w.heap.size w w' := by
  obtain ⟨i0, hi, hz0, hz1, hz2⟩ := Go.Proofs.YtofpaldolcnmiaaGreat.info_of infoZ
  obtain ⟨wx, hwx⟩ : ∃ wx, wx = w.alloc (.cells x.cells 25) := ⟨_, rfl⟩
  have hbx : Below w.heap.size w wx := by rw [hwx]; exact Below.al (Below.refl _ _) _
  have kx : wx.heap[w.heap.size]? = some (.cells x.cells 25 (0, 0)) := by rw [hwx]; exact World.alloc_heap_new _ _
  have x0 : wx.cell? ⟨w.heap.size, 0, none⟩ = some (.int .u32 x.node) := Vs.cell_of_obj kx rfl
  have X1 : Hid (wx.cell? ⟨w.heap.size, 1, none⟩ = some (.slice x.la x.ls.length x.lc)) := hid (Vs.cell_of_obj kx rfl)
  have HL := hid (hL.later hbx)
  have BG := hid (begun_is wx x.node)
  have HBX := hid hbx
  have HNN := hid hn
  obtain ⟨N, hN⟩ : ∃ N, x.ls.length = N := ⟨_, rfl⟩
  rw [hN] at X1 hl ⊢
  have HN := hid hN
  have hqx : w.heap.size < wx.heap.size := by rw [hwx]; simp
  clear hL hbx kx hn
  go_enter Tryz.func13, Tryz.ntmps13
  go_wp2_with fail
  rw [← hwx]
  clear hwx hN
  refine BG.out.mono ?_
  rintro e w1 ⟨p, rfl, HT1, hb1⟩
  have HB1 := hid hb1
  clear BG hb1 x0
  go_wp2_with fail
  refine (Head_own _).mono ?_
  rintro e w2 ⟨g, h, rfl, HZ, hb2⟩
  have HK0 : Hid (Tk wx w2 p x.node 0 (hdS x.node 3) [hdR h 0, hdR h 1, hdR h 2] (some ⟨g, 0, none⟩) 3 3) := hid (by
    obtain ⟨I, hI⟩ := HT1.out.okI
    have hle : wx.heap.size ≤ w1.heap.size := HB1.out.size
    obtain ⟨hz, hr⟩ := HZ.out
    refine ⟨HT1.out.later hb2, run_hd HNN.out, tkn_head HNN.out h HT1.out.good hI, ?_, rfl, ⟨Nat.le_refl _, Nat.le_refl _⟩, fun r hm => ?_, Below.on HB1.out hb2⟩
    · obtain ⟨q1, q2 | ⟨g', cap, cur, q2, q3, q4⟩⟩ := hz
      · exact ⟨q1, .inl q2⟩
      · exact ⟨q1, .inr ⟨g', cap, cur, q2, Nat.le_trans hle q3, q4⟩⟩
    · exact (hr r hm).mono (Nat.zero_le _))
  clear HT1 HB1 HZ hb2
  go_wp2_with fail
  go_loopg [5, 6] N (fun gg s5 s6 wr => ∃ (k : Nat) (s : Ps) (L : List Rg) (la : Option Addr) (m lc : Nat), k ≤ N ∧ gg = N - k ∧ s6 = .int .i64 k ∧ s5 = .slice la m lc ∧ Hid (Tk wx wr p x.node k s L la m lc))
  case atStart => exact ⟨0, _, _, _, 3, 3, by omega, by omega, rfl, rfl, HK0⟩
  case round =>
    obtain ⟨k, s, L, la, m, lc, hk, rfl, rfl, rfl, HM⟩ := hrel
    clear HK0
    have x1 := cell_later HM.out.bl X1.out
    by_cases hlt : k < N
    · have hk9 : k ≤ 93000 := by omega
      have hk8 : k + 1 ≤ 93000 := by omega
      have IM := hid (HM.out.image hk9)
      obtain ⟨S, hS⟩ : ∃ S, ofNats (imgB s) = S := ⟨_, rfl⟩
      have sb := beq_self S
      have HS := hid hS
      clear hS
      go_wp2_with fail
      refine IM.out.mono ?_
      rintro e w3 ⟨rfl, hb3⟩
      have HM3 := hid (HM.out.later hb3)
      rw [HS.out]
      clear hb3 IM HM x1
      have x1 := cell_later HM3.out.bl X1.out
      obtain ⟨r, hr⟩ : ∃ r, x.ls[k]? = some r := ⟨x.ls[k]'(by rw [HN.out]; exact hlt), by simp⟩
      obtain ⟨⟨rb, ro, hla, BX⟩, RA⟩ := HL.out k r hr
      rw [hla] at x1 X1
      have HBX2 := hid BX
      have bx := BX.later HM3.out.bl
      have b0 := bx.c0; have b1 := bx.c1; have b2 := bx.c2; have b3 := bx.c3; have b4 := bx.c4; have b5 := bx.c5; have b6 := bx.c6; have b7 := bx.c7; have b8 := bx.c8; have b9 := bx.c9; have b10 := bx.c10; have b11 := bx.c11
      have HRW := hid RA
      have HRA := hid (RA.later HM3.out.bl)
      clear BX RA hr bx
      go_wp2_with fail
      refine (copied_is HRA.out.ok HRA.out.rl HRA.out.wl).mono ?_
      rintro e w4 ⟨g1, g2, rfl, hr1, hr2, hne⟩
      have AP := hid ((HM3.out.later hr1.bl).apply hk8 (own_ok (HRA.out.ok.later hr1.bl) hr1 hr2) HRA.out.rg HRA.out.rx)
      have hln := HM3.out.ln
      obtain ⟨hm0, hmb⟩ := HM3.out.mb
      clear hr1 hr2 hne b0 b1 b2 b3 b4 b5 b6 b7 b8 b9 b10 b11 x1 HRA HM3
      go_wp2_with fail
      refine AP.out.mono ?_
      rintro e w5 ⟨rfl, HP⟩
      clear AP
      by_cases h0 : axE s r = 0
      · have h0' : (axE s r == 0) = true := by simpa using h0
        obtain ⟨hS5, hR5, hT5, hO5, hK5, hB5⟩ := HP.out.2 h0
        have x1 := cell_later hB5 X1.out
        have bx := HBX2.out.later hB5
        have b0 := bx.c0; have b1 := bx.c1; have b2 := bx.c2; have b3 := bx.c3; have b4 := bx.c4; have b5 := bx.c5; have b6 := bx.c6; have b7 := bx.c7; have b8 := bx.c8; have b9 := bx.c9; have b10 := bx.c10; have b11 := bx.c11
        obtain ⟨w6, hw6⟩ : ∃ w6, w6 = w5.alloc (.cells #[.int .i64 r.k, .int .u64 r.x, .int .u32 r.c, .int .u32 r.s, .int .u32 r.h, .int .i64 r.oc, .int .u64 r.w, .int .u32 r.l, .int .u32 r.n, .slice r.ra r.rs.length r.rc, .slice r.wa r.ws.length r.wc, .string r.im] 40) := ⟨_, rfl⟩
        have hb6 : Below w5.heap.size w5 w6 := by rw [hw6]; exact Below.al (Below.refl _ _) _
        have blk6 : w6.heap[w5.heap.size]? = some (.cells (rcz r).toArray 40 (0, 0)) := by rw [hw6]; exact World.alloc_heap_new _ _
        have HCL : Hid (∀ j y, (rcz r)[j]? = some y → w6.cell? ((⟨w5.heap.size, 0, none⟩ : Addr).add j) = some y) := hid fun j y hj => by
          rw [Addr.add_lit, Nat.zero_add]
          exact Vs.cell_of_obj blk6 (by simpa using hj)
        have hB6 := Below.on hB5 hb6
        have hs6 : wx.heap.size ≤ w6.heap.size := hB6.size
        have HO6 : Hid (w6.ownsRow wx.heap.size 40 12 (.slice la m lc) m (L.flatMap rcz)) := hid (hO5.later hb6)
        have HX6 : Hid (Sta wx.heap.size w6 p (axS s r) ∧ Run x.node (k + 1) (axS s r) ∧ Tkn x.node (L ++ [r]) (axS s r) ∧ (∀ y ∈ L, Rok wx.heap.size w6 y) ∧ Rok wx.heap.size w6 r ∧ Below wx.heap.size wx w6) := hid ⟨hS5.later hb6, hR5, hT5, fun y hy => (hK5 y hy).later hb6, rok_arg HRW.out (Nat.le_refl _) hB6, hB6⟩
        have HLN := hid hln
        obtain ⟨s9, hs9⟩ : ∃ s9, axS s r = s9 := ⟨_, rfl⟩
        rw [hs9] at HX6
        obtain ⟨E, hE⟩ : ∃ E, axE s r = E := ⟨_, rfl⟩
        rw [hE] at h0' ⊢
        clear hb6 blk6 hS5 hR5 hT5 hO5 hK5 hB5 hB6 HP hs9 hE h0 hln bx
        go_wp2_with (at_builtin; refine wpList_append_own _ rfl _ _ 23 rfl wx.heap.size 40 i0 Rg.zero.val 12 120 Tryz.underlying23 hi hz0 hz1 hz2 rfl (by decide) (.slice la m lc) m (L.flatMap rcz) rfl (by rw [← hw6]; exact HO6.out) ⟨w5.heap.size, 0, none⟩ 1 1 (rcz r) rfl rfl (by rw [← hw6]; exact HCL.out) (rcz_one r) (by unfold maxLen; omega) (by omega) (by rw [← hw6]; exact hs6) ?_)
        intro v2 w7 hown hgrow hnil
        rw [← hw6] at hgrow
        obtain ⟨la', lc', rfl⟩ := owns_slice hown
        obtain ⟨y1, y2, y3, y4, y5, y6⟩ := HX6.out
        have HM7 : Hid (Tk wx w7 p x.node (k + 1) s9 (L ++ [r]) la' (m + 1) lc') := hid (Tk.grow y1 y2 y3 HO6.out HLN.out (by omega) y4 y5 y6 hown hgrow)
        clear hown hgrow hnil HO6 HCL hw6 hs6 HX6 y1 y2 y3 y4 y5 y6 b0 b1 b2 b3 b4 b5 b6 b7 b8 b9 b10 b11 x1
        go_wp2_with fail
        go_roundg (N - (k + 1))
        case measure => omega
        case rel => exact ⟨k + 1, s9, L ++ [r], la', m + 1, lc', by omega, rfl, by go_num, rfl, HM7⟩
      · have h0' : (axE s r == 0) = false := by simpa using h0
        have HM5 := hid (HP.out.1 h0)
        have IM := hid (HM5.out.image hk8)
        obtain ⟨E, hE⟩ : ∃ E, axE s r = E := ⟨_, rfl⟩
        rw [hE] at h0' ⊢
        clear HP h0 hE hln hmb hm0
        go_wp2_with fail
        refine IM.out.mono ?_
        rintro e w6 ⟨rfl, hb6⟩
        have HM6 := hid (HM5.out.later hb6)
        rw [HS.out]
        clear hb6 IM HM5
        go_wp2_with fail
        go_roundg (N - (k + 1))
        case measure => omega
        case rel => exact ⟨k + 1, s, L, la, m, lc, by omega, rfl, by go_num, rfl, HM6⟩
    · obtain rfl : k = N := by omega
      go_wp2_with fail
      refine bodyPost_ret (results_tmp2 rfl _ _ _) rfl ?_
      exact ⟨la, m, lc, p, rfl, hid ⟨wx, s, L, Nat.le_of_lt hqx, HM.out⟩, HBX.out.trans (HM.out.bl.mono (Nat.le_of_lt hqx))⟩
end Go.Proofs.YtofpaldolcnmiaaGreat.Ig
namespace Go.Proofs.YtofpaldolcnmiaaGreat.Ig
open Go.RowKit Go.Sort Ys
theorem RowT.take {w : World} {a : Option Addr} {rs : List Rg} (h : RowT w a rs) (c : Nat) : RowT w a (rs.take c) := fun i r hr => by
  have hc : i < c := by
    have := (List.getElem?_eq_some_iff.1 hr).1
    rw [List.length_take] at this
    omega
  rw [List.getElem?_take_of_lt hc] at hr
  exact h i r hr
theorem ownz_row {B : Nat} {w : World} {la : Option Addr} {m lc : Nat} {L : List Rg} (ho : OwnZ B w (.slice la m lc) m L) (hn : L.length = m) (hk : ∀ r ∈ L, Rok B w r) : RowT w la L := fun i r hr => by
  have hi : i < m := by rw [← hn]; exact (List.getElem?_eq_some_iff.1 hr).1
  obtain ⟨g, ha, bx⟩ := ho.at hr hi
  have k := hk r (List.mem_of_getElem? hr)
  exact ⟨⟨g, 0, ha, by rw [Nat.zero_add]; exact bx⟩, k.ok, k.rl, k.wl⟩
theorem ownz_cap {B : Nat} {w : World} {la : Option Addr} {m lc : Nat} {L : List Rg} (ho : OwnZ B w (.slice la m lc) m L) (hm : 0 < m) : m ≤ lc ∧ ∃ g, la = some ⟨g, 0, none⟩ := by
  obtain ⟨hl, ⟨e1, e2⟩ | ⟨g, cap, cur, e1, hB, hh, h1, h2⟩⟩ := ho
  · omega
  · injection e1 with e1 e2 e3
    subst e3
    exact ⟨h1, g, e1⟩
theorem Cop.row {B : Nat} {w0 w : World} {oa : Option Addr} {oc : Nat} {rs U : List Rg} {k : Nat} (h : Cop B w0 w oa oc rs U k) : RowS w oa U := fun i r hr => by
  have hi : i < k := by rw [← h.ln]; exact (List.getElem?_eq_some_iff.1 hr).1
  obtain ⟨g, ha, bx⟩ := h.ow.at hr hi
  exact ⟨⟨g, 0, ha, by rw [Nat.zero_add]; exact bx⟩, (h.un r (List.mem_of_getElem? hr)).1⟩
theorem own_for {w : World} {a : Option Addr} {rs : List Rg} {c C : Nat} (hL : RowT w a rs) (hC : rs.length = C) (hl : C ≤ 1048576) :
    Hid (∀ W, Below w.heap.size w W → Calls Tryz.prog 15 #[.slice a C c] W fun e w' => ∃ (oa : Option Addr) (oc : Nat) (U : List Rg), e = .returned (.slice oa C oc) ∧ Hid (RowS w' oa U ∧ U.length = C ∧ Own rs U) ∧ Below w.heap.size w w') := hid fun W hb => by
  subst hC
  refine (own_is (hL.later hb) hl).mono ?_
  rintro e w' ⟨oa, oc, U, h1, h2⟩
  have hs := h2.out.os
  rw [List.take_length] at hs
  exact ⟨oa, oc, U, h1, hid ⟨h2.out.row, h2.out.ln, hs⟩, Below.on hb h2.out.bl⟩
theorem replay_for {w w1 : World} {n : Int} {rs U : List Rg} {oa : Option Addr} {oc C : Nat} {s : Ps} (hb1 : Below w.heap.size w w1) (h : RowS w1 oa U ∧ U.length = C ∧ Own rs U) (hl : C ≤ 1048576) (hf : Fol (zero n) rs s) :
    Hid (∀ W, Below w1.heap.size w1 W → Calls Tryz.prog 14 #[.int .u32 n, .slice oa C oc] W fun e w' => ∃ q, e = .returned (.tuple #[sp q, .int .i64 0]) ∧ Hid (Sta w.heap.size w' q s) ∧ Below w.heap.size w w') := hid fun W hb => by
  obtain ⟨h1, h2, h3⟩ := h
  subst h2
  refine (Replay_is (c := oc) (h1.later hb) hl (h3.fol hf)).mono ?_
  rintro e w' ⟨q, h4, h5, h6⟩
  have hB := Below.on hb1 hb
  refine ⟨q, h4, hid ?_, Below.on hB h6⟩
  obtain ⟨F, m1, m2, m, V, I, T, hl⟩ := h5.out
  exact ⟨F, m1, m2, m, V, I, T, fun b hb => Nat.le_trans hB.size (hl b hb)⟩
end Go.Proofs.YtofpaldolcnmiaaGreat.Ig
