import Derived.Test.YtmhpakbkmddfeaaIKeysT
import Derived.Test.YtmhpakbkmddfeaaIMirP
import Derived.Test.YtmhpakbkmddfeaaITwo
namespace Go.Proofs.Ytmhpakbkmddfeaa
open Go.RowKit Go.Sort Go.Shelf
set_option linter.unusedVariables false
attribute [local go_sem] Oper.semAt_some

theorem xi_ownF {β : Type} (x : Nat) (f : β → List En) : Own (fun s W => Xi W x (f s)) := fun s X Y row hs hg hrow =>
  hs.keep ⟨hg.size, fun b cs t z _ hb => (grownBy_keeps_cells hg hrow hb rfl).trans hb⟩ (by obtain ⟨v, hb⟩ := hs.box; exact grownBy_keeps_cells hg hrow hb rfl)
theorem onl_of_grownF {w w' : World} {row : Option Nat} (h : w.grownBy w' row) : Onl (fun b => row = some b) w w' :=
  ⟨h.os, h.tape, h.output, h.size, fun k hk hn => h.block k hk (fun e => hn e.symm)⟩
theorem ownFrom_onlF {β : Type} {F : Nat → Prop} {Q : Nat} {w : World} (hq : w.heap.size ≤ Q) : OwnFrom Q (fun (_ : β) W => Onl F w W) :=
  fun _ _ _ _ hs hg hr => hs.fresh (onl_of_grownF hg) fun k e => .inr (Nat.le_trans hq (hr k e).1)

theorem rising_nodup : ∀ {l : List En}, Rising l → (ks l).Nodup
  | [], _ => List.nodup_nil
  | e :: l, h => by
    have hp := List.pairwise_cons.1 h
    refine List.nodup_cons.2 ⟨fun hm => ?_, rising_nodup hp.2⟩
    obtain ⟨y, hy, e'⟩ := List.mem_map.1 hm
    have := hp.1 y hy
    rw [e', lt_irrefl] at this; cases this
/-- all keys lie in U -/
def InU (U : List ByteArray) (l : List En) : Prop := ∀ e ∈ l, e.1 ∈ U
theorem InU.len {U : List ByteArray} {l : List En} (h : InU U l) (hr : Rising l) : l.length ≤ U.length := by
  have := nodup_len (rising_nodup hr) (b := U) (fun x hx => by obtain ⟨e, he, e'⟩ := List.mem_map.1 hx; exact e' ▸ h e he)
  rwa [List.length_map] at this
theorem InU.set {U : List ByteArray} {l : List En} (h : InU U l) (hr : Rising l) {k : ByteArray} (hk : k ∈ U) (v : Int) : InU U (setX l k v) := fun e he => by
  rcases (setX_mem hr k v e).1 he with rfl | ⟨h1, _⟩
  · exact hk
  · exact h e h1
theorem InU.del {U : List ByteArray} {l : List En} (h : InU U l) (k : ByteArray) : InU U (delX l k) := fun e he => h e ((delX_mem l k e).1 he).1

/-- marks that hold nothing are taken up one by one -/
def takeAll (W : World) : List Nat → World
  | [] => W
  | D :: ds => takeAll (W.putObj D (.deferred none)) ds
abbrev markOf (D : Nat) : Deferred := { target := .collected D, args := #[] }
theorem leaves_marks {F : Fence} {n : Nat} {P : Program} {fn : Func} {tmps : Array Value} {R : Ending → World → Prop} : ∀ {ds : List Nat} {W : World}, ds.Nodup → (∀ D ∈ ds, W.heap[D]? = some (.deferred (some []))) → LeavesIn F n P fn tmps R [] .returning (takeAll W ds) → LeavesInM F n P fn tmps R (ds.map markOf) .returning W
  | [], W, _, _, h => h
  | D :: ds, W, hn, hK, h => by
    have hn' := List.nodup_cons.1 hn
    refine ⟨by simp, .inl ⟨D, _, rfl, run_takeDeferred (hK D (by simp)), ?_⟩⟩
    exact leaves_marks hn'.2 (fun D' hD' => (World.putObj_heap_other (fun (e : D' = D) => hn'.1 (e ▸ hD'))).trans (hK D' (by simp [hD']))) h
theorem takeAll_block : ∀ {ds : List Nat} {W : World} {b : Nat}, b ∉ ds → (takeAll W ds).heap[b]? = W.heap[b]?
  | [], W, b, _ => rfl
  | D :: ds, W, b, h => by
    have h1 : b ≠ D := fun e => h (by simp [e])
    have h2 : b ∉ ds := fun e => h (by simp [e])
    exact (takeAll_block (W := W.putObj D (.deferred none)) h2).trans (World.putObj_heap_other h1)
theorem takeAll_onl {F : Nat → Prop} : ∀ {ds : List Nat} {w W : World}, Onl F w W → (∀ D ∈ ds, w.heap.size ≤ D) → Onl F w (takeAll W ds)
  | [], w, W, h, _ => h
  | D :: ds, w, W, h, hD => takeAll_onl (ds := ds) (h.fresh (onl_of_grownF (grownBy_putObj' W D (.deferred none))) fun k e => .inr (by cases e; exact hD D (by simp))) (fun D' h' => hD D' (by simp [h']))
theorem takeAll_xi : ∀ {ds : List Nat} {W : World} {x : Nat} {l : List En}, Xi W x l → ds.Nodup → (∀ D ∈ ds, W.heap[D]? = some (.deferred (some []))) → Xi (takeAll W ds) x l
  | [], W, x, l, h, _, _ => h
  | D :: ds, W, x, l, h, hn, hK => by
    have hn' := List.nodup_cons.1 hn
    have hD := hK D (by simp)
    obtain ⟨u, hb⟩ := h.box
    have h1 : Xi (W.putObj D (.deferred none)) x l := by
      refine h.keep ⟨by simp, fun b cs t z _ hb => (World.putObj_heap_other (fun e => by subst e; rw [hb] at hD; cases hD)).trans hb⟩ (World.putObj_heap_other (fun e => ?_))
      subst e; rw [show W.heap[x]? = _ from hb] at hD; cases hD
    show Xi (takeAll (W.putObj D (.deferred none)) ds) x l
    exact takeAll_xi h1 hn'.2 (fun D' hD' => (World.putObj_heap_other (fun (e : D' = D) => hn'.1 (e ▸ hD'))).trans (hK D' (by simp [hD'])))

set_option maxRecDepth 100000 in
set_option maxHeartbeats 2000000 in
theorem keys_wide {w : World} {p : Nat} {l : List En} (h : Xi w p l) (lo hi : ByteArray) (hn : (l.length + 1) * 16 ≤ 140737488355328) :
    Calls Try.prog 12 #[.pointer (some ⟨p, 0, none⟩), .agg #[.string lo, .string hi]] w fun e w' =>
      ∃ v, e = .returned v ∧ w'.ownsRow w.heap.size 9 1 v (rangeX l lo hi).length (txs (rangeX l lo hi)) ∧ Below w.heap.size w w' := by
  refine (callsIn_wide (n := 5)).1 ?_
  obtain ⟨i0, hi0, hz0, hz1, hz2⟩ := info_parts infoStr
  have hb0 : Below w.heap.size w ((w.alloc (.cells #[.string lo, .string hi] 32)).alloc (.cells #[.slice none 0 0] 29)) := Below.al (Below.al (Below.refl _ _) _) _
  have RG := hid (range_is (h.later hb0) lo hi)
  refine callsIn_of_wp_marks Try.func12 rfl trivial ?_ rfl
  simp only [Try.ntmps12, List.size_toArray, List.length_cons, List.length_nil, Nat.reduceAdd, Nat.reduceSub, Array.replicate_succ, Array.replicate_zero, List.push_toArray, List.append_toArray, List.nil_append, List.cons_append]
  gi_wp2_with ((try refine ⟨trivial, ?_⟩); gi_at_call 36; refine (callsIn_wide.2 RG.out).mono ?_; rintro e w1 ⟨R, B, rfl, hit, hb1, hR, hB⟩)
  have bO := Boxed.new (w.alloc (.cells #[.string lo, .string hi] 32)) 29 (.slice none 0 0)
  rw [World.size_alloc] at bO
  have bO1 : Boxed w1 (w.heap.size + 1) 29 (.slice none 0 0) := (hb1.block _ bO.lt).trans bO
  have hB0 : Below w.heap.size w w1 := Below.on hb0 hb1
  have hs1 : w.heap.size + 1 < w1.heap.size := bO1.lt
  have hxs : (rangeX l lo hi).length ≤ l.length := List.length_filter_le _ _
  clear RG hR hB hb1 bO h
  refine wpIn_rangeFunc_ownG rfl (by decide) (gf := 57) (lb := #[.pointer (some ⟨R, 0, none⟩), .pointer (some ⟨B, 0, none⟩)]) rfl trivial (enters_of Try.func57 (by kernel_rfl) rfl)
    (range_stops (5 - 1) hit) kp_t kp_b (Below.refl _ _) (fun _ => rfl)
    (fun pre W => (∃ v, Boxed W (w.heap.size + 1) 29 v ∧ W.ownsRow w.heap.size 9 1 v pre.length (txs (pre.map (fun x => x.1))) ∧ True) ∧ Below w.heap.size w W)
    (fun _ _ _ => False)
    (OwnFrom.and (Own.from (holdsRow_own w.heap.size (w.heap.size + 1) 29 9 1 (fun pre : List (Of (rangeX l lo hi)) => pre.length) (fun pre => txs (pre.map (fun x => x.1))) (fun _ _ => True)) _) (ownFrom_below (Nat.le_refl _) (by omega)))
    (fun _ _ _ _ _ hs _ _ => hs)
    ⟨⟨_, bO1, World.ownsRow_nil _ _ _ _, trivial⟩, hB0⟩
    (fun x => { tmps := #[.pointer (some ⟨p, 0, none⟩), .agg #[.string lo, .string hi], undef, .pointer (some ⟨w.heap.size, 0, none⟩), .slice none 0 0, .pointer (some ⟨w.heap.size + 1, 0, none⟩), .string x.1.1, .pointer (some ⟨p, 0, none⟩), .agg #[.string lo, .string hi], itv 57 R B, .string x.1.1, .int .i64 x.1.2, undef, undef, undef, undef, undef], defers := [] }) ?assign ?body ?done ?stop
  case assign =>
    intro y x W K hK
    gi_wp2
    exact hK
  case body =>
    rintro y pre x W ⟨⟨v, hv, hrow, -⟩, hB⟩ hlt
    have hc := hv.cell
    have hsz := hB.size
    have g0 : pre.length + 1 ≤ l.length + 1 := Nat.succ_le_succ (Nat.le_of_lt (Nat.lt_of_lt_of_le hlt hxs))
    have g2 : (pre.length + 1) * 16 ≤ 140737488355328 := Nat.le_trans (Nat.mul_le_mul_right 16 g0) hn
    have g1 : pre.length + 1 ≤ maxLen := by unfold maxLen; exact Nat.le_trans (Nat.le_mul_of_pos_right _ (by decide : 0 < 16)) (Nat.le_trans g2 (by decide))
    gi_wp2_with (gi_at_builtin; refine wpListIn_append_own _ rfl _ _ 29 rfl w.heap.size 9 i0 (.string ⟨#[]⟩) 1 16 Try.underlying29 hi0 hz0 hz1 hz2 rfl (by decide) _ _ _ rfl (hrow.alloc _) ⟨W.heap.size, 0, none⟩ 1 1 [.string x.1.1] rfl rfl (cell_one_new _ _ _) (by simp [Value.oneCell']) g1 g2 (by simp; omega) ?_; intro v' w2 hown' hgrow _; obtain ⟨g', cap', rfl⟩ := ownsRow_succ hown'; have hkp := kp_appended (v' := .slice (some ⟨g', 0, none⟩) (pre.length + 1) cap') hv hrow hgrow (not_ixt rfl) (not_ixt rfl); obtain ⟨hv1, hv2, hr2, hk2, hb2⟩ := hv.appended (by decide) hrow hB.size (by omega) hown' hgrow; have hc1 := hv1.cell; have hf1 := hv1.frozen)
    exact ⟨hk2.from _, hkp, ⟨_, hv2, by simpa [txs] using hr2, trivial⟩, hB.trans hb2⟩
  case done =>
    rintro D ys W hD hys ⟨⟨v, hv, hrow, -⟩, hB⟩ hK
    have hc := hv.cell
    have hyl : ys.length = (rangeX l lo hi).length := by have := congrArg List.length hys; simpa using this
    rw [hys, hyl] at hrow
    gi_wp2
    refine ⟨by simp, .inl ⟨_, _, rfl, run_takeDeferred hK, ?_⟩⟩
    exact ⟨_, results_tmp rfl _ _ _, v, rfl, ownsRow_putObj hrow _ hK rfl, hB.trans (belowK_b (w := w) (Nat.le_refl _) W D _ _ (by omega) hK rfl rfl)⟩
  case stop =>
    rintro D c pre W _ _ h _
    exact h.elim


/-- a row of numbers -/
def nthI (l : List Int) (i : Nat) : Int := (l[i]?).getD 0
def RowI (w : World) (a : Option Addr) (l : List Int) : Prop := ∀ i, i < l.length → ∃ b off, a = some ⟨b, off, none⟩ ∧ w.cell? ⟨b, off + i, none⟩ = some (.int .i64 (nthI l i))
theorem rowI_of_owns {w : World} {base : Nat} {v : Value} {l : List Int} (h : w.ownsRow base 3 1 v l.length (l.map (Value.int .i64))) : ∃ a c, v = .slice a l.length c ∧ RowI w a l := by
  have h' := h
  obtain ⟨hl, ⟨rfl, h0⟩ | ⟨g, cap, cur, rfl, _⟩⟩ := h'
  · exact ⟨none, 0, by rw [h0], fun i hi => by omega⟩
  · refine ⟨_, cap, rfl, fun i hi => ⟨g, 0, rfl, ?_⟩⟩
    have hc := h.cellAt i (by simpa using hi)
    rw [Nat.zero_add, hc, List.getElem?_map, nthI, List.getElem?_eq_getElem hi]; rfl

end Go.Proofs.Ytmhpakbkmddfeaa
