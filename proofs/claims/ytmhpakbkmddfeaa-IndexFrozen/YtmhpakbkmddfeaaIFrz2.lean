import Derived.Test.YtmhpakbkmddfeaaIFrz1
namespace Go.Proofs.Ytmhpakbkmddfeaa
open Go.RowKit Go.Sort Go.Shelf
set_option linter.unusedVariables false

theorem onl_keepsFromF {F : Nat → Prop} {W W' : World} (B : Nat) (h : Onl F W W') (hF : ∀ k o, F k → W.heap[k]? = some o → o.isCells = true) : KeepsFrom B W W' :=
  ⟨h.size, fun k o _ hk ho => (h.block k (Array.getElem?_eq_some_iff.1 hk).1 (fun hf => by rw [hF k o hf hk] at ho; cases ho)).trans hk⟩
/-- between the loops of frozen: what stands as it stood at wF, the counter, the index, the marks -/
structure Zst (wF W : World) (x nB rB : Nat) (n r : Int) (U : List ByteArray) (ds : List Nat) : Prop where
  on : Onl (fun b => b = x) wF W
  nb : Boxed W nB 3 (.int .i64 n)
  rb : Boxed W rB 3 (.int .i64 r)
  cur : ∃ cur, Xi W x cur ∧ InU U cur
  mks : ∀ D ∈ ds, W.heap[D]? = some (.deferred (some []))
theorem marks_own {β : Type} {ds : List Nat} {Q : Nat} (h : ∀ D ∈ ds, D < Q) : OwnFrom Q (fun (_ : β) W => ∀ D ∈ ds, W.heap[D]? = some (.deferred (some []))) := fun _ X Y row hs hg hr D hD =>
  (hg.block D (Array.getElem?_eq_some_iff.1 (hs D hD)).1 (fun e => by have := (hr D e.symm).1; have := h D hD; omega)).trans (hs D hD)
theorem cur_own {β : Type} {x : Nat} {U : List ByteArray} (Q : Nat) : OwnFrom Q (fun (_ : β) W => ∃ cur, Xi W x cur ∧ InU U cur) := fun s X Y row hs hg hr => by
  obtain ⟨cur, h1, h2⟩ := hs
  exact ⟨cur, (Own.from (xi_ownF (β := Unit) x (fun _ => cur)) Q) () X Y row h1 hg hr, h2⟩
theorem zst_own {β : Type} {wF : World} {x nB rB Q : Nat} {f : β → Int} {r : Int} {U : List ByteArray} {ds : List Nat} (hq : wF.heap.size ≤ Q) (hd : ∀ D ∈ ds, D < Q) : OwnFrom Q (fun (s : β) W => Zst wF W x nB rB (f s) r U ds) := fun s X Y row hs hg hr =>
  ⟨(ownFrom_onlF (β := Unit) hq) () X Y row hs.on hg hr, (Own.from (boxed_own nB 3 (fun s => Value.int .i64 (f s))) Q) s X Y row hs.nb hg hr, (Own.from (boxed_own (β := Unit) rB 3 (fun _ => Value.int .i64 r)) Q) () X Y row hs.rb hg hr, (cur_own (β := Unit) Q) () X Y row hs.cur hg hr, (marks_own (β := Unit) hd) () X Y row hs.mks hg hr⟩
/-- the counter is set -/
theorem Zst.put {wF W : World} {x nB rB : Nat} {n r : Int} {U : List ByteArray} {ds : List Nat} (h : Zst wF W x nB rB n r U ds) (hx : x < wF.heap.size) (hn : wF.heap.size ≤ nB) (hr : rB ≠ nB) (m : Int) : Zst wF (W.setCell ⟨nB, 0, none⟩ (.int .i64 m)) x nB rB m r U ds ∧ Kp W (W.setCell ⟨nB, 0, none⟩ (.int .i64 m)) := by
  have hk := kp_set h.nb (not_ixt rfl) (.int .i64 m)
  obtain ⟨cur, h1, h2⟩ := h.cur
  refine ⟨⟨h.on.setNew hn _ _, h.nb.set _, h.rb.other hr _, ⟨cur, h1.keep hk (Below.heap_setCell _ _ _ _ (by show x ≠ nB; omega)), h2⟩, fun D hD => ?_⟩, hk⟩
  refine (Below.heap_setCell _ _ _ _ (fun (e : D = nB) => ?_)).trans (h.mks D hD)
  have h3 := h.mks D hD
  rw [e, show W.heap[nB]? = _ from h.nb] at h3; cases h3
/-- the index is changed -/
theorem Zst.moved {wF W W' : World} {x nB rB : Nat} {n r : Int} {U : List ByteArray} {ds : List Nat} {cur : List En} (h : Zst wF W x nB rB n r U ds) (hx : x < wF.heap.size) (hn : wF.heap.size ≤ nB) (hr : wF.heap.size ≤ rB) (hX : Xi W' x cur) (hU : InU U cur) (ho : Onl (fun b => b = x) W W') : Zst wF W' x nB rB n r U ds ∧ Kp W W' ∧ KeepsOthers W W' := by
  obtain ⟨c0, h1, h2⟩ := h.cur
  obtain ⟨u, hb⟩ := h1.box
  refine ⟨⟨h.on.trans ho, (ho.block nB h.nb.lt (by omega)).trans h.nb, (ho.block rB h.rb.lt (by omega)).trans h.rb, ⟨cur, hX, hU⟩, fun D hD => ?_⟩, h1.kp ho, ⟨ho.size, fun k o hk hc => (ho.block k (Array.getElem?_eq_some_iff.1 hk).1 (fun e => ?_)).trans hk⟩⟩
  · have h3 := h.mks D hD
    refine (ho.block D (Array.getElem?_eq_some_iff.1 h3).1 (fun e => ?_)).trans h3
    rw [e, show W.heap[x]? = _ from hb] at h3; cases h3
  · rw [e, show W.heap[x]? = _ from hb] at hk; cases hk; cases hc
theorem Zst.later {wF W W' : World} {x nB rB : Nat} {n r : Int} {U : List ByteArray} {ds : List Nat} (h : Zst wF W x nB rB n r U ds) (hb : Below W.heap.size W W') : Zst wF W' x nB rB n r U ds := by
  obtain ⟨c0, h1, h2⟩ := h.cur
  exact ⟨h.on.on hb, (hb.block nB h.nb.lt).trans h.nb, (hb.block rB h.rb.lt).trans h.rb, ⟨c0, h1.later hb, h2⟩, fun D hD => (hb.block D (Array.getElem?_eq_some_iff.1 (h.mks D hD)).1).trans (h.mks D hD)⟩

/-- what stands through all of frozen's loops -/
structure Cst (w V : World) (x b7 T kc vc : Nat) (ka va : Option Addr) (E : List En) : Prop where
  xb : Boxed V w.heap.size 23 (pt x)
  rb : Boxed V (w.heap.size + 1 + 1) 4 (.bool false)
  kb : Boxed V b7 29 (.slice ka T kc)
  vb : Boxed V (b7 + 1) 76 (.slice va T vc)
  kr : RowT V ka (ks E)
  vr : RowI V va (E.map (fun e => e.2))
  b7w : w.heap.size ≤ b7
  kbw : ∀ b off, ka = some ⟨b, off, none⟩ → w.heap.size ≤ b
  vbw : ∀ b off, va = some ⟨b, off, none⟩ → w.heap.size ≤ b
theorem Cst.on {w V W : World} {x b7 T kc vc : Nat} {ka va : Option Addr} {E : List En} (h : Cst w V x b7 T kc vc ka va E) (hx : x < w.heap.size) (ho : Onl (fun b => b = x) V W) : Cst w W x b7 T kc vc ka va E := by
  have h7 := h.b7w
  refine ⟨(ho.block _ h.xb.lt (by omega)).trans h.xb, (ho.block _ h.rb.lt (by omega)).trans h.rb, (ho.block _ h.kb.lt (by omega)).trans h.kb, (ho.block _ h.vb.lt (by omega)).trans h.vb, fun i hi => ?_, fun i hi => ?_, h.b7w, h.kbw, h.vbw⟩
  · obtain ⟨b, off, e, c⟩ := h.kr i hi
    exact ⟨b, off, e, ho.cell (by have := h.kbw b off e; omega) c⟩
  · obtain ⟨b, off, e, c⟩ := h.vr i hi
    exact ⟨b, off, e, ho.cell (by have := h.vbw b off e; omega) c⟩
theorem nthI_vals {E : List En} {i : Nat} (hi : i < E.length) : nthI (E.map (fun e => e.2)) i = (nthE E i).2 := by
  simp [nthI, nthE, List.getElem?_eq_getElem hi]
theorem Cst.key {w V : World} {x b7 T kc vc : Nat} {ka va : Option Addr} {E : List En} (h : Cst w V x b7 T kc vc ka va E) {i : Nat} (hi : i < E.length) : ∃ b off, ka = some ⟨b, off, none⟩ ∧ V.cell? ⟨b, off + i, none⟩ = some (.string (nthE E i).1) := by
  obtain ⟨b, off, e, c⟩ := h.kr i (by simpa using hi)
  rw [nthT_ks hi] at c
  exact ⟨b, off, e, c⟩
theorem Cst.val {w V : World} {x b7 T kc vc : Nat} {ka va : Option Addr} {E : List En} (h : Cst w V x b7 T kc vc ka va E) {i : Nat} (hi : i < E.length) : ∃ b off, va = some ⟨b, off, none⟩ ∧ V.cell? ⟨b, off + i, none⟩ = some (.int .i64 (nthE E i).2) := by
  obtain ⟨b, off, e, c⟩ := h.vr i (by simpa using hi)
  rw [nthI_vals hi] at c
  exact ⟨b, off, e, c⟩
theorem rev_nth {E : List En} {k : Nat} (hk : k < E.length) : nthE E.reverse k = nthE E (E.length - 1 - k) := by
  simp only [nthE]; rw [List.getElem?_reverse hk]

/-- a loop over an iterator that is left at its first entry -/
theorem once_loop {g : Operand} {ps : Array Tmp} {assign body : Code} {Q2 : Exit → Act → World → Prop} {a : Act} {w w0 : World} {id gf : Nat} {lb : Array Value} {E : List En}
    (hseq : SeqStopsK Fence.wide (5 - 1) Try.prog gf lb (encs E) Kp (fun ys => ys.map (fun x => x.1) = E) (fun pre => pre.map (fun x => x.1) <+: E) E.length w0) (hb0 : Below w0.heap.size w0 w)
    (eg : ∀ args w, (callFunc gf args).run Try.prog w = .ok (.enter gf args) w) (hg : a.eval g = .func (.func gf) #[] lb) (hps : ∀ x, (encs E x).size = ps.size) (a₁ : Of E → Act)
    (hassign : ∀ (l : Nat) (x : Of E) (W : World) (K : Act → World → Prop), K (a₁ x) W → assign.wpIn (Fence.wide.inRound l) (5 - 1 - 1) Try.prog (Exit.then K (fun _ _ _ => False)) { tmps := (ps.zip (encs E x)).foldl (fun t (p, v) => t.setIfInBounds p v) a.tmps, defers := [] } W)
    (hbody : ∀ (l : Nat) (x : Of E) (W : World), Below w.heap.size w W → body.wpIn (Fence.wide.inRound l) (5 - 1 - 1) Try.prog (ownPostG w.heap.size Kp (fun pre W => pre = [] ∧ Below w.heap.size w W) (fun c pre W => (c = .exit id ∨ (c = .ret ∧ ¬ [x.1] <+: E)) ∧ pre = [x] ∧ (c = .exit id → Below w.heap.size w W)) [x] W) (a₁ x) W)
    (rest : ∀ (D : Nat) (W : World), w.heap.size ≤ D → Below w.heap.size w W → W.heap[D]? = some (.deferred (some [])) → Q2 .normal { a with defers := markOf D :: a.defers } W) :
    (Code.rangeFunc g ps assign body).wpIn Fence.wide 5 Try.prog (Exit.inBlock id Q2) a w := by
  refine wpIn_rangeFunc_ownG rfl (by decide) hg trivial eg hseq kp_t kp_b hb0 hps (fun pre W => pre = [] ∧ Below w.heap.size w W) (fun c pre W => ∃ x : Of E, (c = .exit id ∨ (c = .ret ∧ ¬ [x.1] <+: E)) ∧ pre = [x] ∧ (c = .exit id → Below w.heap.size w W))
    (OwnFrom.and (ownFrom_pure _ _) (ownFrom_below (Nat.le_refl _) (Nat.le_refl _))) (fun c s X Y row hs hgr hr => ?_) ⟨rfl, Below.refl _ _⟩ a₁ hassign ?_ ?_ ?_
  · obtain ⟨x, h1, h2, h3⟩ := hs
    exact ⟨x, h1, h2, fun e => (ownFrom_below (β := Unit) (Nat.le_refl _) (Nat.le_refl _)) () X Y row (h3 e) hgr hr⟩
  · rintro l pre x W ⟨rfl, hB⟩ _
    refine wpIn_mono (hbody l x W hB) fun e a' W' h => ?_
    cases e with
    | normal => exact h
    | ret => exact ⟨h.1, x, h.2⟩
    | exit id' => exact ⟨h.1, x, h.2⟩
    | goto t => exact ⟨h.1, x, h.2⟩
    | panic ch => exact h
    | outgrown => exact h
  · rintro D ys W hD _ ⟨_, hB⟩ hK
    exact rest D W hD hB hK
  · rintro D c pre W hD hpre ⟨x, hc, rfl, hB⟩ hK
    rcases hc with rfl | ⟨rfl, hn⟩
    · refine wpIn_exit ?_
      simp only [Exit.inBlock, if_true]
      exact rest D W hD (hB rfl) hK
    · exact absurd (by simpa using hpre) hn

/-- a loop over an iterator that goes to its end, counting -/
theorem count_loop {g : Operand} {ps : Array Tmp} {assign body : Code} {Q : Exit → Act → World → Prop} {a : Act} {w w0 wF : World} {x nB rB gf : Nat} {lb : Array Value} {L : List En} {f : Nat → Int} {r : Int} {U : List ByteArray} {ds : List Nat}
    (hseq : SeqStopsK Fence.wide (5 - 1) Try.prog gf lb (encs L) Kp (fun ys => ys.map (fun x => x.1) = L) (fun pre => pre.map (fun x => x.1) <+: L) L.length w0) (hb0 : Below w0.heap.size w0 w)
    (eg : ∀ args w, (callFunc gf args).run Try.prog w = .ok (.enter gf args) w) (hF : wF.heap.size ≤ w.heap.size) (hd : ∀ D ∈ ds, D < w.heap.size) (h0 : Zst wF w x nB rB (f 0) r U ds) (hg : a.eval g = .func (.func gf) #[] lb) (hps : ∀ x, (encs L x).size = ps.size) (a₁ : Of L → Act)
    (hassign : ∀ (l : Nat) (x : Of L) (W : World) (K : Act → World → Prop), K (a₁ x) W → assign.wpIn (Fence.wide.inRound l) (5 - 1 - 1) Try.prog (Exit.then K (fun _ _ _ => False)) { tmps := (ps.zip (encs L x)).foldl (fun t (p, v) => t.setIfInBounds p v) a.tmps, defers := [] } W)
    (hbody : ∀ (l k : Nat) (z : Of L) (W : World), Zst wF W x nB rB (f k) r U ds → k < L.length → body.wpIn (Fence.wide.inRound l) (5 - 1 - 1) Try.prog (ownPostG w.heap.size Kp (fun (_ : List Unit) W => Zst wF W x nB rB (f (k + 1)) r U ds) (fun c _ _ => c = .ret ∧ z.1 ≠ nthE L k) [] W) (a₁ z) W)
    (rest : ∀ (D : Nat) (W : World), w.heap.size ≤ D → Zst wF W x nB rB (f L.length) r U ds → W.heap[D]? = some (.deferred (some [])) → Q .normal { a with defers := markOf D :: a.defers } W) :
    (Code.rangeFunc g ps assign body).wpIn Fence.wide 5 Try.prog Q a w := by
  refine wpIn_rangeFunc_ownG rfl (by decide) hg trivial eg hseq kp_t kp_b hb0 hps (fun pre W => Zst wF W x nB rB (f pre.length) r U ds) (fun c pre W => c = .ret ∧ ¬ pre.map (fun x => x.1) <+: L)
    (zst_own hF hd) (fun c => ownFrom_pure _ _) h0 a₁ hassign ?_ ?_ ?_
  · rintro l pre z W hI hlt
    refine wpIn_mono (hbody l pre.length z W hI hlt) fun e a' W' h => ?_
    cases e with
    | normal => exact ⟨h.1, h.2.1, by show Zst wF W' x nB rB (f (pre ++ [z]).length) r U ds; rw [List.length_append]; exact h.2.2⟩
    | ret => exact ⟨h.1, h.2.1, fun hp => h.2.2 (prefix_nth hp)⟩
    | exit id' => exact ⟨h.1, h.2.1, fun hp => h.2.2 (prefix_nth hp)⟩
    | goto t => exact ⟨h.1, h.2.1, fun hp => h.2.2 (prefix_nth hp)⟩
    | panic ch => exact h
    | outgrown => exact h
  · rintro D ys W hD hys hI hK
    have hl : ys.length = L.length := by have := congrArg List.length hys; simpa using this
    rw [hl] at hI
    exact rest D W hD hI hK
  · rintro D c pre W hD hpre ⟨_, hn⟩ hK
    exact absurd hpre hn

end Go.Proofs.Ytmhpakbkmddfeaa
