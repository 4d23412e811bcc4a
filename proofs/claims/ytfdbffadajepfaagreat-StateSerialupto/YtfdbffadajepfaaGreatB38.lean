import Derived.Test.YtfdbffadajepfaaGreatB37
/- Rows of commits and of records; laid. -/
namespace Go.Proofs.YtfdbffadajepfaaGreat.Ys
open Go.RowKit Go.Sort
set_option linter.unusedVariables false

/-- a commit, and where its writes lie -/
structure Cv where
  c : Cm
  wa : Option Addr
  wc : Nat
abbrev ccs (v : Cv) : List Value := [.int .u64 v.c.t.a, .int .u32 v.c.t.b, .int .u32 v.c.t.c, .slice v.wa v.c.ws.length v.wc]
abbrev Cv.val (v : Cv) : Value := .agg #[.int .u64 v.c.t.a, .int .u32 v.c.t.b, .int .u32 v.c.t.c, .slice v.wa v.c.ws.length v.wc]
abbrev Cv.zero : Cv := ⟨⟨⟨0, 0, 0⟩, []⟩, none, 0⟩
abbrev rcs (m : Rg) : List Value := [.int .i64 m.k, .int .u64 m.x, .int .u32 m.c, .int .u32 m.s, .int .u32 m.h, .int .i64 m.oc, .int .u64 m.w, .int .u32 m.l, .int .u32 m.n, .slice m.ra m.rs.length m.rc, .slice m.wa m.ws.length m.wc, .string m.im]
theorem ccs_one (v : Cv) : ∀ x ∈ ccs v, x.oneCell' = true := by
  intro x hx
  simp [ccs] at hx
  rcases hx with rfl | rfl | rfl | rfl <;> rfl
theorem rcs_one (m : Rg) : ∀ x ∈ rcs m, x.oneCell' = true := by
  intro x hx
  simp [rcs] at hx
  rcases hx with rfl | rfl | rfl | rfl | rfl | rfl | rfl | rfl | rfl | rfl | rfl | rfl <;> rfl
/-- a row of commits, of records, in a block of its own from B on -/
def OwnC (B : Nat) (w : World) (s : Value) (n : Nat) (U : List Cv) : Prop := w.ownsRow B 56 4 s n (U.flatMap ccs)
def OwnR (B : Nat) (w : World) (s : Value) (n : Nat) (U : List Rg) : Prop := w.ownsRow B 48 12 s n (U.flatMap rcs)
theorem infoC : (Tryz.prog.info? 56).map (fun i => (i.zero, i.size, i.bytes)) = some (some (Cv.val Cv.zero), 4, 40) := by kernel_rfl
theorem infoR : (Tryz.prog.info? 48).map (fun i => (i.zero, i.size, i.bytes)) = some (some Rg.zero.val, 12, 120) := by kernel_rfl
theorem flat_get {α : Type} {f : α → List Value} {k : Nat} (hf : ∀ x, (f x).length = k) : ∀ (U : List α) (i j : Nat) (x : α), U[i]? = some x → j < k → (U.flatMap f)[i * k + j]? = (f x)[j]?
  | [], i, j, x, h, _ => by simp at h
  | y :: U, i, j, x, h, hj => by
    rw [List.flatMap_cons]
    cases i with
    | zero =>
      simp at h
      subst h
      rw [Nat.zero_mul, Nat.zero_add, List.getElem?_append_left (by rw [hf]; exact hj)]
    | succ i =>
      rw [List.getElem?_append_right (by rw [hf, Nat.succ_mul]; omega), hf, show (i + 1) * k + j - k = i * k + j by rw [Nat.succ_mul]; omega]
      exact flat_get hf U i j x (by simpa using h) hj
/-- a commit among others -/
structure CvAt (w : World) (g o : Nat) (v : Cv) : Prop where
  c0 : w.cell? ⟨g, o, none⟩ = some (.int .u64 v.c.t.a)
  c1 : w.cell? ⟨g, o + 1, none⟩ = some (.int .u32 v.c.t.b)
  c2 : w.cell? ⟨g, o + 2, none⟩ = some (.int .u32 v.c.t.c)
  c3 : w.cell? ⟨g, o + 3, none⟩ = some (.slice v.wa v.c.ws.length v.wc)
section
variable {B : Nat} {w w' : World} {a : Option Addr} {n c : Nat}
theorem OwnC.at {U : List Cv} (h : OwnC B w (.slice a n c) n U) {i : Nat} {v : Cv} (hv : U[i]? = some v) (hi : i < n) : ∃ g, a = some ⟨g, 0, none⟩ ∧ CvAt w g (i * 4) v := by
  obtain ⟨g, ha, _, hc⟩ := Lk.own_cells h (by omega)
  have hg : ∀ j, j < 4 → ∀ x, (ccs v)[j]? = some x → w.cell? ⟨g, i * 4 + j, none⟩ = some x := fun j hj x hx => hc _ _ (by rw [flat_get (k := 4) (fun _ => rfl) U i j v hv hj]; exact hx)
  exact ⟨g, ha, hg 0 (by omega) _ rfl, hg 1 (by omega) _ rfl, hg 2 (by omega) _ rfl, hg 3 (by omega) _ rfl⟩
theorem OwnR.at {U : List Rg} (h : OwnR B w (.slice a n c) n U) {i : Nat} {v : Rg} (hv : U[i]? = some v) (hi : i < n) : ∃ g, a = some ⟨g, 0, none⟩ ∧ BoxO w g (i * 12) v := by
  obtain ⟨g, ha, _, hc⟩ := Lk.own_cells h (by omega)
  have hg : ∀ j, j < 12 → ∀ x, (rcs v)[j]? = some x → w.cell? ⟨g, i * 12 + j, none⟩ = some x := fun j hj x hx => hc _ _ (by rw [flat_get (k := 12) (fun _ => rfl) U i j v hv hj]; exact hx)
  exact ⟨g, ha, hg 0 (by omega) _ rfl, hg 1 (by omega) _ rfl, hg 2 (by omega) _ rfl, hg 3 (by omega) _ rfl, hg 4 (by omega) _ rfl, hg 5 (by omega) _ rfl, hg 6 (by omega) _ rfl, hg 7 (by omega) _ rfl, hg 8 (by omega) _ rfl, hg 9 (by omega) _ rfl, hg 10 (by omega) _ rfl, hg 11 (by omega) _ rfl⟩
theorem owns_later {size k : Nat} {e : TypeId} {v : Value} {xs : List Value} (h : w.ownsRow B e size v k xs) (hb : Below w.heap.size w w') : w'.ownsRow B e size v k xs := owns_keep h fun g hg => hb.block g (h.lt g hg).2
theorem OwnC.later {s : Value} {U : List Cv} (h : OwnC B w s n U) (hb : Below w.heap.size w w') : OwnC B w' s n U := owns_later h hb
theorem OwnR.later {s : Value} {U : List Rg} (h : OwnR B w s n U) (hb : Below w.heap.size w w') : OwnR B w' s n U := owns_later h hb
theorem OwnC.chg {B' : Nat} {s : Value} {U : List Cv} (h : OwnC B w s n U) (hb : Chg B' w w') : OwnC B w' s n U := hb.owns h (by decide) (by decide)
theorem OwnR.chg {B' : Nat} {s : Value} {U : List Rg} (h : OwnR B w s n U) (hb : Chg B' w w') : OwnR B w' s n U := hb.owns h (by decide) (by decide)
end
/-- one more, in its place -/
def laidV (U : List Cv) (v : Cv) : List Cv := U.filter (fun b => !v.c.t.lt b.c.t) ++ v :: U.filter (fun b => v.c.t.lt b.c.t)
theorem laidV_map (U : List Cv) (v : Cv) : (laidV U v).map Cv.c = laidC (U.map Cv.c) v.c := by
  unfold laidV laidC
  rw [List.map_append, List.map_cons, List.filter_map, List.filter_map]
  rfl
theorem take_filter {α : Type} {p : α → Bool} {U : List α} {k : Nat} {x : α} (h : U[k]? = some x) : (U.take (k + 1)).filter p = (U.take k).filter p ++ if p x then [x] else [] := by
  rw [List.take_add_one, h, List.filter_append]
  cases hp : p x <;> simp [hp]
def OutC (B : Nat) (w : World) (a : Option Addr) (m c : Nat) (L : List Cv) : Prop := m = L.length ∧ OwnC B w (.slice a m c) m L

set_option maxRecDepth 8000 in
set_option maxHeartbeats 4000000 in
theorem laid_is {B : Nat} {w : World} {a : Option Addr} {n c : Nat} {U : List Cv} (h : OwnC B w (.slice a n c) n U) (hn : U.length = n) (hl : n ≤ 4194304) (v : Cv) :
    Calls Tryz.prog 22 #[.slice a n c, .agg #[.int .u64 v.c.t.a, .int .u32 v.c.t.b, .int .u32 v.c.t.c, .slice v.wa v.c.ws.length v.wc]] w fun e w' => ∃ (a2 : Option Addr) (m c2 : Nat), e = .returned (.slice a2 m c2) ∧ Hid (OutC w.heap.size w' a2 m c2 (laidV U v)) ∧ Below w.heap.size w w' := by
  obtain ⟨i0, hi, hz0, hz1, hz2⟩ := Go.Proofs.YtfdbffadajepfaaGreat.info_of infoC
  obtain ⟨wx, hwx⟩ : ∃ wx, wx = w.alloc (.cells #[.int .u64 v.c.t.a, .int .u32 v.c.t.b, .int .u32 v.c.t.c, .slice v.wa v.c.ws.length v.wc] 56) := ⟨_, rfl⟩
  have hbx : Below w.heap.size w wx := by rw [hwx]; exact Below.al (Below.refl _ _) _
  have ob : wx.heap[w.heap.size]? = some (.cells #[.int .u64 v.c.t.a, .int .u32 v.c.t.b, .int .u32 v.c.t.c, .slice v.wa v.c.ws.length v.wc] 56 (0, 0)) := by rw [hwx]; exact World.alloc_heap_new _ _
  have HV : Hid (CvAt wx w.heap.size 0 v) := hid ⟨Vs.cell_of_obj ob rfl, Vs.cell_of_obj ob rfl, Vs.cell_of_obj ob rfl, Vs.cell_of_obj ob rfl⟩
  have HO := hid (h.later hbx)
  have HN := hid hn
  have HBX := hid hbx
  have hszx : w.heap.size ≤ wx.heap.size := hbx.size
  clear h hbx ob hn
  go_enter Tryz.func22, Tryz.ntmps22
  go_wp2_with fail
  rw [← hwx]
  clear hwx
  go_loopg [5, 6] n (fun g s5 s6 wr => ∃ (k m c2 : Nat) (a2 : Option Addr), k ≤ n ∧ g = n - k ∧ s6 = .int .i64 k ∧ s5 = .slice a2 m c2 ∧ Hid (OutC wx.heap.size wr a2 m c2 ((U.take k).filter (fun b => !v.c.t.lt b.c.t))) ∧ Hid (Below wx.heap.size wx wr))
  case atStart => exact ⟨0, 0, 0, none, by omega, by omega, rfl, rfl, hid ⟨by simp, ⟨rfl, .inl ⟨rfl, rfl⟩⟩⟩, hid (Below.refl _ _)⟩
  case round =>
    obtain ⟨k, m, c2, a2, hk, rfl, rfl, rfl, HM, HB⟩ := hrel
    by_cases hlt : k < n
    · obtain ⟨y, hy⟩ : ∃ y, U[k]? = some y := ⟨U[k]'(by have := HN.out; omega), by simp⟩
      obtain ⟨g0, rfl, y0, y1, y2, y3⟩ := (HO.out.later HB.out).at hy hlt
      have hvv := HV.out
      have v0 := cell_later HB.out hvv.c0; have v1 := cell_later HB.out hvv.c1; have v2 := cell_later HB.out hvv.c2
      simp only [Nat.zero_add] at v0 v1 v2
      have r0 := cell_regrown v0; have r1 := cell_regrown v1; have r2 := cell_regrown v2; have r3 := cell_regrown y0; have r4 := cell_regrown y1; have r5 := cell_regrown y2
      obtain ⟨L, hL⟩ : ∃ L, v.c.t.lt y.c.t = L := ⟨_, rfl⟩
      have HL : Hid (lessB v.c.t.a v.c.t.b v.c.t.c y.c.t.a y.c.t.b y.c.t.c = L) := hid hL
      have HTK : Hid ((U.take (k + 1)).filter (fun b => !v.c.t.lt b.c.t) = (U.take k).filter (fun b => !v.c.t.lt b.c.t) ++ if !L then [y] else []) := hid (by rw [take_filter hy, hL])
      have HY := hid (And.intro y0 (And.intro y1 (And.intro y2 y3)))
      clear hvv v0 v1 v2 hL hy y0 y1 y2 y3
      go_wp2_with fail
      refine wp_region_quiet_below (by kernel_rfl) (by kernel_rfl) ?_
      repeat (go_big_quiet_step ((go_at_call 9; exact Calls.regrown_of (less_is HL.out _))))
      refine wpQuiet_nil ?_
      intro wq hq
      replace hq := below_of_regrown hq
      have HBQ := hid (Below.on HB.out hq)
      have HMQ : Hid (OutC wx.heap.size wq a2 m c2 ((U.take k).filter (fun b => !v.c.t.lt b.c.t))) := hid ⟨HM.out.1, HM.out.2.later hq⟩
      have y0 := cell_later hq HY.out.1; have y1 := cell_later hq HY.out.2.1; have y2 := cell_later hq HY.out.2.2.1; have y3 := cell_later hq HY.out.2.2.2
      have hmb : m + 1 ≤ 8388610 := by
        have h1 := HMQ.out.1
        have h2 : ((U.take k).filter (fun b => !v.c.t.lt b.c.t)).length ≤ (U.take k).length := List.length_filter_le _ _
        have h3 : (U.take k).length ≤ k := by rw [List.length_take]; omega
        omega
      clear r0 r1 r2 r3 r4 r5 hq HL HB HM HY
      cases L
      · obtain ⟨w5, hw5⟩ : ∃ w5, w5 = wq.alloc (.cells #[.int .u64 y.c.t.a, .int .u32 y.c.t.b, .int .u32 y.c.t.c, .slice y.wa y.c.ws.length y.wc] 56) := ⟨_, rfl⟩
        have hb5 : Below wq.heap.size wq w5 := by rw [hw5]; exact Below.al (Below.refl _ _) _
        have blk5 : w5.heap[wq.heap.size]? = some (.cells (ccs y).toArray 56 (0, 0)) := by rw [hw5]; exact World.alloc_heap_new _ _
        have HCL : Hid (∀ j x, (ccs y)[j]? = some x → w5.cell? ((⟨wq.heap.size, 0, none⟩ : Addr).add j) = some x) := hid fun j x hj => by
          rw [Addr.add_lit, Nat.zero_add]
          exact Vs.cell_of_obj blk5 (by simpa using hj)
        have HO5 : Hid (w5.ownsRow wx.heap.size 56 4 (.slice a2 m c2) m (((U.take k).filter (fun b => !v.c.t.lt b.c.t)).flatMap ccs)) := hid (HMQ.out.2.later hb5)
        have HB5 := hid (Below.on HBQ.out hb5)
        have HML := hid HMQ.out.1
        have hs5 : wx.heap.size ≤ w5.heap.size := HB5.out.size
        clear hb5 blk5
        go_wp2_with (at_builtin; refine wpList_append_own _ rfl _ _ 32 rfl wx.heap.size 56 i0 (Cv.val Cv.zero) 4 40 Tryz.underlying32 hi hz0 hz1 hz2 rfl (by decide) (.slice a2 m c2) m (((U.take k).filter (fun b => !v.c.t.lt b.c.t)).flatMap ccs) rfl (by rw [← hw5]; exact HO5.out) ⟨wq.heap.size, 0, none⟩ 1 1 (ccs y) rfl rfl (by rw [← hw5]; exact HCL.out) (ccs_one y) (by unfold maxLen; omega) (by omega) (by rw [← hw5]; exact hs5) ?_)
        intro v2 w6 hown hgrow hnil
        rw [← hw5] at hgrow
        obtain ⟨a3, c3, rfl⟩ := owns_slice hown
        have HB6 : Hid (Below wx.heap.size wx w6) := hid (Below.grown HB5.out hgrow hs5 (fun k hk => (HO5.out.lt k hk).1))
        have HM6 : Hid (OutC wx.heap.size w6 a3 (m + 1) c3 ((U.take k).filter (fun b => !v.c.t.lt b.c.t) ++ [y])) := hid ⟨by rw [List.length_append, ← HML.out]; rfl, by unfold OwnC; rw [List.flatMap_append]; simpa using hown⟩
        clear hown hgrow hnil HO5 HCL HB5 hw5 hs5 HML
        have HM' : Hid (OutC wx.heap.size w6 a3 (m + 1) c3 ((U.take (k + 1)).filter (fun b => !v.c.t.lt b.c.t))) := hid (by rw [HTK.out]; simp only [Bool.not_false, if_true]; exact HM6.out)
        go_wp2_with fail
        go_roundg (n - (k + 1))
        case measure => omega
        case rel => exact ⟨k + 1, m + 1, c3, a3, by omega, rfl, by go_num, rfl, HM', HB6⟩
      · have HM' : Hid (OutC wx.heap.size wq a2 m c2 ((U.take (k + 1)).filter (fun b => !v.c.t.lt b.c.t))) := hid (by rw [HTK.out]; simp only [Bool.not_true, Bool.false_eq_true, if_false, List.append_nil]; exact HMQ.out)
        go_wp2_with fail
        go_roundg (n - (k + 1))
        case measure => omega
        case rel => exact ⟨k + 1, m, c2, a2, by omega, rfl, by go_num, rfl, HM', HBQ⟩
    · obtain rfl : n = k := by omega
      have HM0 : Hid (OutC wx.heap.size wr a2 m c2 (U.filter (fun b => !v.c.t.lt b.c.t))) := hid (by
        have h1 := HM.out
        rw [List.take_of_length_le (by have := HN.out; omega)] at h1
        exact h1)
      have hvv := HV.out
      have v0 := cell_later HB.out hvv.c0; have v1 := cell_later HB.out hvv.c1; have v2 := cell_later HB.out hvv.c2; have v3 := cell_later HB.out hvv.c3
      simp only [Nat.zero_add] at v0 v1 v2 v3
      have hmb : m + 1 ≤ 8388610 := by
        have h1 := HM0.out.1
        have h2 : (U.filter (fun b => !v.c.t.lt b.c.t)).length ≤ U.length := List.length_filter_le _ _
        have h3 := HN.out
        omega
      clear hvv HM
      obtain ⟨w5, hw5⟩ : ∃ w5, w5 = wr.alloc (.cells #[.int .u64 v.c.t.a, .int .u32 v.c.t.b, .int .u32 v.c.t.c, .slice v.wa v.c.ws.length v.wc] 56) := ⟨_, rfl⟩
      have hb5 : Below wr.heap.size wr w5 := by rw [hw5]; exact Below.al (Below.refl _ _) _
      have blk5 : w5.heap[wr.heap.size]? = some (.cells (ccs v).toArray 56 (0, 0)) := by rw [hw5]; exact World.alloc_heap_new _ _
      have HCL : Hid (∀ j x, (ccs v)[j]? = some x → w5.cell? ((⟨wr.heap.size, 0, none⟩ : Addr).add j) = some x) := hid fun j x hj => by
        rw [Addr.add_lit, Nat.zero_add]
        exact Vs.cell_of_obj blk5 (by simpa using hj)
      have HO5 : Hid (w5.ownsRow wx.heap.size 56 4 (.slice a2 m c2) m ((U.filter (fun b => !v.c.t.lt b.c.t)).flatMap ccs)) := hid (HM0.out.2.later hb5)
      have HB5 := hid (Below.on HB.out hb5)
      have HML := hid HM0.out.1
      have hs5 : wx.heap.size ≤ w5.heap.size := HB5.out.size
      clear hb5 blk5
      go_wp2_with (at_builtin; refine wpList_append_own _ rfl _ _ 32 rfl wx.heap.size 56 i0 (Cv.val Cv.zero) 4 40 Tryz.underlying32 hi hz0 hz1 hz2 rfl (by decide) (.slice a2 m c2) m ((U.filter (fun b => !v.c.t.lt b.c.t)).flatMap ccs) rfl (by rw [← hw5]; exact HO5.out) ⟨wr.heap.size, 0, none⟩ 1 1 (ccs v) rfl rfl (by rw [← hw5]; exact HCL.out) (ccs_one v) (by unfold maxLen; omega) (by omega) (by rw [← hw5]; exact hs5) ?_)
      intro v2 w6 hown hgrow hnil
      rw [← hw5] at hgrow
      obtain ⟨a3, c3, rfl⟩ := owns_slice hown
      have HB6 : Hid (Below wx.heap.size wx w6) := hid (Below.grown HB5.out hgrow hs5 (fun k hk => (HO5.out.lt k hk).1))
      have HM6 : Hid (OutC wx.heap.size w6 a3 (m + 1) c3 (U.filter (fun b => !v.c.t.lt b.c.t) ++ [v])) := hid ⟨by rw [List.length_append, ← HML.out]; rfl, by unfold OwnC; rw [List.flatMap_append]; simpa using hown⟩
      clear hown hgrow hnil HO5 HCL HB5 hw5 hs5 HML
      clear v0 v1 v2 v3 hmb HM0 HB hk hlt
      go_wp2_with fail
      go_loopg [5, 7] n (fun g s5 s6 wr => ∃ (k m c2 : Nat) (a2 : Option Addr), k ≤ n ∧ g = n - k ∧ s6 = .int .i64 k ∧ s5 = .slice a2 m c2 ∧ Hid (OutC wx.heap.size wr a2 m c2 (U.filter (fun b => !v.c.t.lt b.c.t) ++ [v] ++ (U.take k).filter (fun b => v.c.t.lt b.c.t))) ∧ Hid (Below wx.heap.size wx wr))
      case atStart => exact ⟨0, m + 1, c3, a3, by omega, by omega, rfl, rfl, hid (by simp only [List.take_zero, List.filter_nil, List.append_nil]; exact HM6.out), HB6⟩
      case round =>
        obtain ⟨k, m, c2, a2, hk, rfl, rfl, rfl, HM, HB⟩ := hrel
        by_cases hlt : k < n
        · obtain ⟨y, hy⟩ : ∃ y, U[k]? = some y := ⟨U[k]'(by have := HN.out; omega), by simp⟩
          obtain ⟨g0, rfl, y0, y1, y2, y3⟩ := (HO.out.later HB.out).at hy hlt
          have hvv := HV.out
          have v0 := cell_later HB.out hvv.c0; have v1 := cell_later HB.out hvv.c1; have v2 := cell_later HB.out hvv.c2
          simp only [Nat.zero_add] at v0 v1 v2
          have r0 := cell_regrown v0; have r1 := cell_regrown v1; have r2 := cell_regrown v2; have r3 := cell_regrown y0; have r4 := cell_regrown y1; have r5 := cell_regrown y2
          obtain ⟨L, hL⟩ : ∃ L, v.c.t.lt y.c.t = L := ⟨_, rfl⟩
          have HL : Hid (lessB v.c.t.a v.c.t.b v.c.t.c y.c.t.a y.c.t.b y.c.t.c = L) := hid hL
          have HTK : Hid ((U.take (k + 1)).filter (fun b => v.c.t.lt b.c.t) = (U.take k).filter (fun b => v.c.t.lt b.c.t) ++ if L then [y] else []) := hid (by rw [take_filter hy, hL])
          have HY := hid (And.intro y0 (And.intro y1 (And.intro y2 y3)))
          clear hvv v0 v1 v2 hL hy y0 y1 y2 y3
          go_wp2_with fail
          refine wp_region_quiet_below (by kernel_rfl) (by kernel_rfl) ?_
          repeat (go_big_quiet_step ((go_at_call 9; exact Calls.regrown_of (less_is HL.out _))))
          refine wpQuiet_nil ?_
          intro wq hq
          replace hq := below_of_regrown hq
          have HBQ := hid (Below.on HB.out hq)
          have HMQ : Hid (OutC wx.heap.size wq a2 m c2 (U.filter (fun b => !v.c.t.lt b.c.t) ++ [v] ++ (U.take k).filter (fun b => v.c.t.lt b.c.t))) := hid ⟨HM.out.1, HM.out.2.later hq⟩
          have y0 := cell_later hq HY.out.1; have y1 := cell_later hq HY.out.2.1; have y2 := cell_later hq HY.out.2.2.1; have y3 := cell_later hq HY.out.2.2.2
          have hmb : m + 1 ≤ 8388610 := by
            have h1 := HMQ.out.1
            have h2 : ((U.take k).filter (fun b => v.c.t.lt b.c.t)).length ≤ (U.take k).length := List.length_filter_le _ _
            have h3 : (U.take k).length ≤ k := by rw [List.length_take]; omega
            have h4 : (U.filter (fun b => !v.c.t.lt b.c.t)).length ≤ U.length := List.length_filter_le _ _
            have h5 := HN.out
            simp only [List.length_append, List.length_singleton] at h1
            omega
          clear r0 r1 r2 r3 r4 r5 hq HL HB HM HY
          cases L
          · have HM' : Hid (OutC wx.heap.size wq a2 m c2 (U.filter (fun b => !v.c.t.lt b.c.t) ++ [v] ++ (U.take (k + 1)).filter (fun b => v.c.t.lt b.c.t))) := hid (by rw [HTK.out]; simp only [Bool.false_eq_true, if_false, List.append_nil]; exact HMQ.out)
            go_wp2_with fail
            go_roundg (n - (k + 1))
            case measure => omega
            case rel => exact ⟨k + 1, m, c2, a2, by omega, rfl, by go_num, rfl, HM', HBQ⟩
          · obtain ⟨w5, hw5⟩ : ∃ w5, w5 = wq.alloc (.cells #[.int .u64 y.c.t.a, .int .u32 y.c.t.b, .int .u32 y.c.t.c, .slice y.wa y.c.ws.length y.wc] 56) := ⟨_, rfl⟩
            have hb5 : Below wq.heap.size wq w5 := by rw [hw5]; exact Below.al (Below.refl _ _) _
            have blk5 : w5.heap[wq.heap.size]? = some (.cells (ccs y).toArray 56 (0, 0)) := by rw [hw5]; exact World.alloc_heap_new _ _
            have HCL : Hid (∀ j x, (ccs y)[j]? = some x → w5.cell? ((⟨wq.heap.size, 0, none⟩ : Addr).add j) = some x) := hid fun j x hj => by
              rw [Addr.add_lit, Nat.zero_add]
              exact Vs.cell_of_obj blk5 (by simpa using hj)
            have HO5 : Hid (w5.ownsRow wx.heap.size 56 4 (.slice a2 m c2) m ((U.filter (fun b => !v.c.t.lt b.c.t) ++ [v] ++ (U.take k).filter (fun b => v.c.t.lt b.c.t)).flatMap ccs)) := hid (HMQ.out.2.later hb5)
            have HB5 := hid (Below.on HBQ.out hb5)
            have HML := hid HMQ.out.1
            have hs5 : wx.heap.size ≤ w5.heap.size := HB5.out.size
            clear hb5 blk5
            go_wp2_with (at_builtin; refine wpList_append_own _ rfl _ _ 32 rfl wx.heap.size 56 i0 (Cv.val Cv.zero) 4 40 Tryz.underlying32 hi hz0 hz1 hz2 rfl (by decide) (.slice a2 m c2) m ((U.filter (fun b => !v.c.t.lt b.c.t) ++ [v] ++ (U.take k).filter (fun b => v.c.t.lt b.c.t)).flatMap ccs) rfl (by rw [← hw5]; exact HO5.out) ⟨wq.heap.size, 0, none⟩ 1 1 (ccs y) rfl rfl (by rw [← hw5]; exact HCL.out) (ccs_one y) (by unfold maxLen; omega) (by omega) (by rw [← hw5]; exact hs5) ?_)
            intro v2 w6 hown hgrow hnil
            rw [← hw5] at hgrow
            obtain ⟨a3, c3, rfl⟩ := owns_slice hown
            have HB6 : Hid (Below wx.heap.size wx w6) := hid (Below.grown HB5.out hgrow hs5 (fun k hk => (HO5.out.lt k hk).1))
            have HM6 : Hid (OutC wx.heap.size w6 a3 (m + 1) c3 (U.filter (fun b => !v.c.t.lt b.c.t) ++ [v] ++ (U.take k).filter (fun b => v.c.t.lt b.c.t) ++ [y])) := hid ⟨by rw [List.length_append, ← HML.out]; rfl, by unfold OwnC; rw [List.flatMap_append]; simpa using hown⟩
            clear hown hgrow hnil HO5 HCL HB5 hw5 hs5 HML
            have HM' : Hid (OutC wx.heap.size w6 a3 (m + 1) c3 (U.filter (fun b => !v.c.t.lt b.c.t) ++ [v] ++ (U.take (k + 1)).filter (fun b => v.c.t.lt b.c.t))) := hid (by rw [HTK.out]; simp only [if_true, ← List.append_assoc]; exact HM6.out)
            go_wp2_with fail
            go_roundg (n - (k + 1))
            case measure => omega
            case rel => exact ⟨k + 1, m + 1, c3, a3, by omega, rfl, by go_num, rfl, HM', HB6⟩
        · obtain rfl : n = k := by omega
          have HF : Hid (OutC w.heap.size wr a2 m c2 (laidV U v)) := hid (by
            have h1 := HM.out
            rw [List.take_of_length_le (by have := HN.out; omega)] at h1
            have e : laidV U v = U.filter (fun b => !v.c.t.lt b.c.t) ++ [v] ++ U.filter (fun b => v.c.t.lt b.c.t) := by unfold laidV; simp
            rw [e]
            exact ⟨h1.1, Lk.owns_base h1.2 hszx⟩)
          go_wp2_with fail
          go_ret
          exact ⟨a2, m, c2, rfl, HF, Below.on HBX.out HB.out⟩
end Go.Proofs.YtfdbffadajepfaaGreat.Ys
/- The law's argument; what stands behind each of its records. -/
namespace Go.Proofs.YtfdbffadajepfaaGreat.Ys
open Go.RowKit Go.Sort
set_option linter.unusedVariables false

/-- the law's argument -/
structure Pa where
  node : Int
  la : Option Addr
  ls : List Rg
  lc : Nat
  lo : ByteArray
  hi : ByteArray
  t : Vs.Sp
  ya : Option Addr
  ys : List Rg
  yc : Nat
abbrev Pa.cells (x : Pa) : Array Value := #[.int .u32 x.node, .slice x.la x.ls.length x.lc, .string x.lo, .string x.hi, .int .u64 x.t.a, .int .u32 x.t.b, .int .u32 x.t.c, .slice x.ya x.ys.length x.yc]
abbrev Pa.val (x : Pa) : Value := .agg x.cells
structure BoxP (w : World) (q : Nat) (x : Pa) : Prop where
  c0 : w.cell? ⟨q, 0, none⟩ = some (.int .u32 x.node)
  c1 : w.cell? ⟨q, 1, none⟩ = some (.slice x.la x.ls.length x.lc)
  c2 : w.cell? ⟨q, 2, none⟩ = some (.string x.lo)
  c3 : w.cell? ⟨q, 3, none⟩ = some (.string x.hi)
  c4 : w.cell? ⟨q, 4, none⟩ = some (.int .u64 x.t.a)
  c5 : w.cell? ⟨q, 5, none⟩ = some (.int .u32 x.t.b)
  c6 : w.cell? ⟨q, 6, none⟩ = some (.int .u32 x.t.c)
  c7 : w.cell? ⟨q, 7, none⟩ = some (.slice x.ya x.ys.length x.yc)
theorem boxP (w : World) (x : Pa) (T : TypeId) : BoxP (w.alloc (.cells x.cells T)) w.heap.size x := by
  have h := World.alloc_heap_new w (.cells x.cells T)
  exact ⟨Vs.cell_of_obj h rfl, Vs.cell_of_obj h rfl, Vs.cell_of_obj h rfl, Vs.cell_of_obj h rfl, Vs.cell_of_obj h rfl, Vs.cell_of_obj h rfl, Vs.cell_of_obj h rfl, Vs.cell_of_obj h rfl⟩
theorem BoxP.later {B : Nat} {w w' : World} {q : Nat} {x : Pa} (h : BoxP w q x) (hb : Below w.heap.size w w') : BoxP w' q x :=
  ⟨cell_later hb h.c0, cell_later hb h.c1, cell_later hb h.c2, cell_later hb h.c3, cell_later hb h.c4, cell_later hb h.c5, cell_later hb h.c6, cell_later hb h.c7⟩
/-- a record of the argument -/
structure RgA (w : World) (r : Rg) : Prop where
  ok : r.ok w
  rg : RgR r
  rl : r.rs.length + 1 ≤ 8796093022208
  wl : r.ws.length + 1 ≤ 7036874417766
theorem RgA.later {w w' : World} {r : Rg} (h : RgA w r) (hb : Below w.heap.size w w') : RgA w' r := ⟨h.ok.later hb, h.rg, h.rl, h.wl⟩
/-- the argument's list of records -/
def RowG (w : World) (a : Option Addr) (rs : List Rg) : Prop := ∀ i r, rs[i]? = some r → (∃ b off, a = some ⟨b, off, none⟩ ∧ BoxO w b (off + i * 12) r) ∧ RgA w r
theorem RowG.later {w w' : World} {a : Option Addr} {rs : List Rg} (h : RowG w a rs) (hb : Below w.heap.size w w') : RowG w' a rs := fun i r hr => by
  obtain ⟨⟨b, off, e, hx⟩, h2⟩ := h i r hr
  exact ⟨⟨b, off, e, hx.later hb⟩, h2.later hb⟩
/-- a commit's writes lie where nobody writes -/
structure Wok (B : Nat) (w : World) (v : Cv) : Prop where
  row : RowW w v.wa v.c.ws
  blk : 0 < v.c.ws.length → ∀ b off, v.wa = some ⟨b, off, none⟩ → b < B ∨ ∃ cs, w.heap[b]? = some (.cells cs 97 (0, 0))
theorem Wok.onl {B : Nat} {w w' : World} {v : Cv} {G : Nat → Prop} (h : Wok B w v) (ho : Onl G w w') (hG : ∀ b, G b → B ≤ b ∧ ∀ cs, w.heap[b]? ≠ some (.cells cs 97 (0, 0))) : Wok B w' v := by
  have hno : 0 < v.c.ws.length → ∀ b off, v.wa = some ⟨b, off, none⟩ → ¬ G b := fun h0 b off e hg => by
    rcases h.blk h0 b off e with k | ⟨cs, k⟩
    · have := (hG b hg).1; omega
    · exact (hG b hg).2 cs k
  refine ⟨fun i hi => ?_, fun h0 b off e => ?_⟩
  · obtain ⟨b, off, e, c0, c1, c2⟩ := h.row i hi
    have hn := hno (by omega) b off e
    exact ⟨b, off, e, ho.cell hn c0, ho.cell hn c1, ho.cell hn c2⟩
  · rcases h.blk h0 b off e with k | ⟨cs, k⟩
    · exact .inl k
    · exact .inr ⟨cs, (ho.block b (Array.getElem?_eq_some_iff.1 k).1 (hno h0 b off e)).trans k⟩
theorem Wok.later {B : Nat} {w w' : World} {v : Cv} (h : Wok B w v) (hb : Below w.heap.size w w') : Wok B w' v := h.onl (G := fun _ => False) (Onl.of_below hb) fun b k => k.elim
theorem Wok.chg {B : Nat} {w w' : World} {v : Cv} (h : Wok B w v) (hc : Chg B w w') : Wok B w' v := by
  obtain ⟨G, ho, hg⟩ := hc
  refine h.onl ho fun b hb => ⟨(hg b hb).1, fun cs k => ?_⟩
  rcases (hg b hb).2 _ _ _ k with e | e <;> exact absurd e (by decide)
theorem wok_arg {B : Nat} {w w' : World} {r : Rg} (h : r.ok w) (hB : w.heap.size ≤ B) (hb : Below w.heap.size w w') (t : Vs.Sp) : Wok B w' ⟨⟨t, r.ws⟩, r.wa, r.wc⟩ := by
  refine ⟨(h.later hb).w, fun h0 b off e => .inl ?_⟩
  obtain ⟨b', off', e', c0, _⟩ := h.w 0 h0
  have e2 : (some ⟨b, off, none⟩ : Option Addr) = some ⟨b', off', none⟩ := e.symm.trans e'
  injection e2 with e3
  injection e3 with e4
  have := World.block_lt_of_cell? _ _ c0
  show b < B
  rw [e4]
  exact Nat.lt_of_lt_of_le this hB
theorem Sta.base {B B' : Nat} {w : World} {p : Nat} {s : Ps} (T : Sta B w p s) (h : B' ≤ B) : Sta B' w p s := by
  obtain ⟨F, m1, m2, m, V, I, T, hl⟩ := T
  exact ⟨F, m1, m2, m, V, I, T, fun b hb => Nat.le_trans h (hl b hb)⟩
/-- what stands behind k of the argument's records -/
structure Mid (wx wr : World) (p : Nat) (s : Ps) (U : List Cv) (R : List Rg) (a : Option Addr) (n c : Nat) (ra : Option Addr) (rn rc k : Nat) : Prop where
  st : Sta wx.heap.size wr p s
  cs : OwnC wx.heap.size wr (.slice a n c) n U
  cn : U.length = n
  cw : ∀ v ∈ U, Wok wx.heap.size wr v
  rs : OwnR wx.heap.size wr (.slice ra rn rc) rn R
  rnl : R.length = rn
  rk : ∀ r ∈ R, r.ok wx
  hist : Hist s (U.map Cv.c) R
  bl : Below wx.heap.size wx wr
  nk : n ≤ k + 1
  rl : rn ≤ k
section
variable {wx wr w' : World} {p : Nat} {s : Ps} {U : List Cv} {R : List Rg} {a : Option Addr} {n c : Nat} {ra : Option Addr} {rn rc k : Nat}
theorem Mid.later (M : Mid wx wr p s U R a n c ra rn rc k) (hb : Below wr.heap.size wr w') : Mid wx w' p s U R a n c ra rn rc k :=
  ⟨M.st.later hb, M.cs.later hb, M.cn, fun v hv => (M.cw v hv).later hb, M.rs.later hb, M.rnl, M.rk, M.hist, Below.on M.bl hb, M.nk, M.rl⟩
theorem Mid.succ (M : Mid wx wr p s U R a n c ra rn rc k) : Mid wx wr p s U R a n c ra rn rc (k + 1) :=
  ⟨M.st, M.cs, M.cn, M.cw, M.rs, M.rnl, M.rk, M.hist, M.bl, by have := M.nk; omega, by have := M.rl; omega⟩
/-- behind an Apply -/
structure Mid2 (wx wr : World) (p : Nat) (s' : Ps) (U : List Cv) (R : List Rg) (a : Option Addr) (n c : Nat) (ra : Option Addr) (rn rc k : Nat) : Prop where
  st : Sta wx.heap.size wr p s'
  cs : OwnC wx.heap.size wr (.slice a n c) n U
  cn : U.length = n
  cw : ∀ v ∈ U, Wok wx.heap.size wr v
  rs : OwnR wx.heap.size wr (.slice ra rn rc) rn R
  rnl : R.length = rn
  rk : ∀ r ∈ R, r.ok wx
  bl : Below wx.heap.size wx wr
  nk : n ≤ k + 1
  rl : rn ≤ k
theorem Mid.chg (M : Mid wx wr p s U R a n c ra rn rc k) {s' : Ps} (T : Sta wx.heap.size w' p s') (hc : Chg wx.heap.size wr w') : Mid2 wx w' p s' U R a n c ra rn rc k :=
  ⟨T, M.cs.chg hc, M.cn, fun v hv => (M.cw v hv).chg hc, M.rs.chg hc, M.rnl, M.rk, M.bl.trans (hc.below M.bl.size), M.nk, M.rl⟩
theorem Mid2.done (M : Mid2 wx wr p s U R a n c ra rn rc k) (H : Hist s (U.map Cv.c) R) : Mid wx wr p s U R a n c ra rn rc k :=
  ⟨M.st, M.cs, M.cn, M.cw, M.rs, M.rnl, M.rk, H, M.bl, M.nk, M.rl⟩
theorem Mid2.later (M : Mid2 wx wr p s U R a n c ra rn rc k) (hb : Below wr.heap.size wr w') : Mid2 wx w' p s U R a n c ra rn rc k :=
  ⟨M.st.later hb, M.cs.later hb, M.cn, fun v hv => (M.cw v hv).later hb, M.rs.later hb, M.rnl, M.rk, Below.on M.bl hb, M.nk, M.rl⟩
theorem own_ne {w : World} {B B' n n' z z' : Nat} {e e' : TypeId} {v v' : Value} {xs xs' : List Value} (h : w.ownsRow B e z v n xs) (h' : w.ownsRow B' e' z' v' n' xs') (hne : e ≠ e') {g g' : Nat} (hg : v.ownBlock = some g) (hg' : v'.ownBlock = some g') : g ≠ g' := fun e1 => by
  subst e1
  obtain ⟨c1, h1⟩ := Lk.own_type h hg
  obtain ⟨c2, h2⟩ := Lk.own_type h' hg'
  rw [h1] at h2
  injection h2 with h2
  injection h2 with _ e2 _
  exact hne e2
/-- one record more is ready -/
theorem Mid2.ready (M : Mid2 wx wr p s U R a n c ra rn rc k) {r : Rg} {ra' : Option Addr} {rc' : Nat} (hr : r.ok wx) (ho : OwnR wx.heap.size w' (.slice ra' (rn + 1) rc') (rn + 1) (R ++ [r])) (hg : wr.grownBy w' (Value.slice ra rn rc).ownBlock) (H : Hist s (U.map Cv.c) (R ++ [r])) :
    Mid wx w' p s U (R ++ [r]) a n c ra' (rn + 1) rc' (k + 1) := by
  have hon := grown_onl hg
  have hb : ∀ b, (Value.slice ra rn rc).ownBlock = some b → wx.heap.size ≤ b ∧ ∃ cur, wr.heap[b]? = some (.cells cur 48 (0, 0)) := fun b hb => ⟨(M.rs.lt b hb).1, Lk.own_type M.rs hb⟩
  refine ⟨M.st.other hon fun b k => ?_, owns_onl M.cs hon fun g hg' k => ?_, M.cn, fun v hv => (M.cw v hv).onl hon fun b k => ⟨(hb b k).1, fun cs k2 => ?_⟩, ho, by rw [List.length_append, M.rnl]; rfl, fun q hq => ?_, H, ?_, by have := M.nk; omega, by have := M.rl; omega⟩
  · obtain ⟨cur, hc⟩ := (hb b k).2
    exact ⟨cur, _, _, hc, by decide, by decide, (fun e => by rcases e with e | e | e <;> exact absurd e (by decide)), by decide, by decide⟩
  · exact own_ne M.cs M.rs (by decide) hg' k rfl
  · obtain ⟨cur, hc⟩ := (hb b k).2
    rw [hc] at k2
    injection k2 with k2
    injection k2 with _ e _
    exact absurd e (by decide)
  · rcases List.mem_append.1 hq with hq | hq
    · exact M.rk q hq
    · rw [List.mem_singleton] at hq; rw [hq]; exact hr
  · exact M.bl.trans (hon.below (fun b k => (hb b k).1) M.bl.size)
/-- one commit more is laid -/
theorem Mid2.commit (M : Mid2 wx wr p s U R a n c ra rn rc k) {v : Cv} {a2 : Option Addr} {m2 c2 : Nat} (ho : OutC wr.heap.size w' a2 m2 c2 (laidV U v)) (hb : Below wr.heap.size wr w') (hw : Wok wx.heap.size wr v) (H : Hist s (laidC (U.map Cv.c) v.c) R) (hO : Ord (U.map Cv.c)) :
    Mid wx w' p s (laidV U v) R a2 m2 c2 ra rn rc (k + 1) := by
  have hlen : (laidV U v).length = n + 1 := by
    have h1 := laid_len hO v.c
    rw [← laidV_map, List.length_map, List.length_map, M.cn] at h1
    exact h1
  refine ⟨M.st.later hb, Lk.owns_base ho.2 M.bl.size, ho.1.symm, fun u hu => ?_, M.rs.later hb, M.rnl, M.rk, by rw [laidV_map]; exact H, Below.on M.bl hb, by rw [ho.1, hlen]; have := M.nk; omega, by have := M.rl; omega⟩
  have : u = v ∨ u ∈ U := by
    unfold laidV at hu
    rw [List.mem_append, List.mem_cons, List.mem_filter, List.mem_filter] at hu
    rcases hu with h | h | h
    · exact .inr h.1
    · exact .inl h
    · exact .inr h.1
  rcases this with rfl | h
  · exact hw.later hb
  · exact (M.cw u h).later hb
end
/-- the last of the first j that are a transaction's -/
def lix (R : List Rg) (i : Lk.Ix) : Nat → Int
  | 0 => -1
  | j + 1 => match R[j]? with
    | some q => if sameT q.c q.s i.1 i.2 then (j : Int) else lix R i j
    | none => lix R i j
theorem lix_succ {R : List Rg} {i : Lk.Ix} {j : Nat} {q : Rg} (h : R[j]? = some q) : lix R i (j + 1) = if sameT q.c q.s i.1 i.2 then (j : Int) else lix R i j := by
  show (match R[j]? with | some q => if sameT q.c q.s i.1 i.2 then (j : Int) else lix R i j | none => lix R i j) = _
  rw [h]
theorem lix_last {R : List Rg} {i : Lk.Ix} {j : Nat} {q : Rg} (h : R[j]? = some q) (hi : idR q = i) : ∀ n, j < n → n ≤ R.length → (∀ (l : Nat) (q' : Rg), j < l → R[l]? = some q' → idR q' ≠ i) → lix R i n = j
  | 0, hn, _, _ => by omega
  | n + 1, hn, hl, hno => by
    obtain ⟨y, hy⟩ : ∃ y, R[n]? = some y := ⟨R[n]'(by omega), by simp⟩
    rw [lix_succ hy]
    by_cases e : j = n
    · subst e
      rw [h] at hy
      injection hy with hy
      subst hy
      subst hi
      simp [sameT]
    · have hne := hno n y (by omega) hy
      have hs : sameT y.c y.s i.1 i.2 = false := by
        cases hs : sameT y.c y.s i.1 i.2 with
        | false => rfl
        | true => exact absurd (by simp [sameT] at hs; show (y.c, y.s) = i; rw [hs.1, hs.2]) hne
      rw [hs]
      exact lix_last h hi n (by omega) (by omega) hno
end Go.Proofs.YtfdbffadajepfaaGreat.Ys
