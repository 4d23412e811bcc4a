import Derived.Test.YtaknkodjganacaaDoorVPrune
import Derived.Test.YtaknkodjganacaaDoorVPt
import Derived.Test.YtaknkodjganacaaDoorVReads
/- MvccStable, plain: what a read answered it answers again. -/
namespace Go.Proofs.YtaknkodjganacaaDoor.Vs
open Go.RowKit Go.Sort
set_option linter.unusedVariables false

abbrev kB : ByteArray := ⟨#[107]⟩
abbrev vB : ByteArray := ⟨#[118]⟩
abbrev kv : Wr := ⟨kB, false, vB⟩
theorem kv_ok : writesOk [kv] = true := by
  have h1 : emS kB = false := by simp [emS, ByteArray.toList_eq]
  have h2 : writeAt [kv] 0 = true := by
    rw [write_first]
    show wOk kv = true
    unfold wOk
    rw [h1]; rfl
  unfold writesOk
  show (true && (true && writeAt [kv] 0)) = true
  rw [h2]; rfl
theorem kv_inst (z : Sp) : instM [] [kv] z = [(kB, [⟨z, false, vB⟩])] := rfl
theorem kv_read {t : Sp} (ht : t.nn) (lo hi : ByteArray) : readM [(kB, [⟨⟨0, 0, 0⟩, false, vB⟩])] lo hi t = if inS lo hi kB then [(kB, vB)] else [] := by
  have hv : valAt [⟨⟨0, 0, 0⟩, false, vB⟩] t = some vB := by
    have := valAt_snoc [] ⟨⟨0, 0, 0⟩, false, vB⟩ t
    rw [List.nil_append] at this
    rw [this, Sp.nn_lt ht]; rfl
  unfold readM rangeX
  rw [List.filter_cons]
  split
  · simp [readAll, hv]
  · simp [readAll]
theorem inst_high {M : Mst} (h : Rising M) {t s : Sp} (hs : s.lt t = true) (ws : List Wr) : readAll (instM M ws t) s = readAll M s := by
  induction ws using snoc_ind with
  | nil => rfl
  | snoc ws x ih => rw [instM_snoc, readAll_add_high (instM_count h ws t).2 (v := Wr.ver x t) hs, ih]
theorem instR_read {M : Mst} (h : Rising M) {t s : Sp} (hs : s.lt t = true) (ws : List Wr) : readAll (instR M ws t) s = readAll M s := by
  unfold instR
  split
  · exact inst_high h hs ws
  · rfl
theorem instR_count {M : Mst} (h : Rising M) (ws : List Wr) (t : Sp) : countM (instR M ws t) ≤ countM M + 16 := by
  unfold instR
  split
  · rename_i e
    have hw : writesOk ws = true := by
      unfold instE at e
      split at e
      · split at e
        · assumption
        · cases e
      · cases e
    rw [(instM_count h ws t).1]
    have := writes_len hw
    omega
  · omega
theorem prM_read {M : Mst} (h : Good M) {mk t s : Sp} (hs : s.lt t = false) : readAll (prM M mk t) s = readAll M s := by
  unfold prM
  split
  · exact pruneM_read h hs
  · rfl
theorem prM_count (M : Mst) (mk t : Sp) : countM (prM M mk t) ≤ countM M := by
  unfold prM
  split
  · have := countM_prune M t; omega
  · omega
theorem prK_low {mk t s : Sp} (h1 : s.lt mk = false) (h2 : s.lt t = false) : s.lt (prK mk t) = false := by
  unfold prK; split <;> assumption
theorem readM_len (M : Mst) (h : Good M) (lo hi : ByteArray) (t : Sp) : (readM M lo hi t).length ≤ countM M := by
  rw [readM_is]
  exact Nat.le_trans (List.length_filter_le _ _) (readAll_len M h t)

/-- one step of what comes later -/
structure Sx where
  k : Int
  on : Int
  t : Sp
  lo : ByteArray
  hi : ByteArray
  wa : Option Addr
  wc : Nat
  ws : List Wr
  va : Option Addr
  vn : Nat
  vc : Nat
def nthS (ps : List Sx) (i : Nat) : Sx := (ps[i]?).getD ⟨0, 0, ⟨0, 0, 0⟩, ⟨#[]⟩, ⟨#[]⟩, none, 0, [], none, 0, 0⟩
def RowS (w : World) (a : Option Addr) (ps : List Sx) : Prop := ∀ i, i < ps.length → ∃ b off, a = some ⟨b, off, none⟩ ∧ w.cell? ⟨b, off + i * 9, none⟩ = some (.int .i64 (nthS ps i).k) ∧ w.cell? ⟨b, off + i * 9 + 1, none⟩ = some (.int .i64 (nthS ps i).on) ∧
  w.cell? ⟨b, off + i * 9 + 2, none⟩ = some (.int .u64 (nthS ps i).t.a) ∧ w.cell? ⟨b, off + i * 9 + 3, none⟩ = some (.int .u32 (nthS ps i).t.b) ∧ w.cell? ⟨b, off + i * 9 + 4, none⟩ = some (.int .u32 (nthS ps i).t.c) ∧
  w.cell? ⟨b, off + i * 9 + 5, none⟩ = some (.string (nthS ps i).lo) ∧ w.cell? ⟨b, off + i * 9 + 6, none⟩ = some (.string (nthS ps i).hi) ∧ w.cell? ⟨b, off + i * 9 + 7, none⟩ = some (.slice (nthS ps i).wa (nthS ps i).ws.length (nthS ps i).wc) ∧
  w.cell? ⟨b, off + i * 9 + 8, none⟩ = some (.slice (nthS ps i).va (nthS ps i).vn (nthS ps i).vc) ∧ RowW w (nthS ps i).wa (nthS ps i).ws ∧ (nthS ps i).ws.length ≤ 1048576 ∧ (nthS ps i).t.nn
theorem RowS.later {w w' : World} {a : Option Addr} {ps : List Sx} (h : RowS w a ps) (hb : Below w.heap.size w w') : RowS w' a ps := fun i hi => by
  obtain ⟨b, off, e, c0, c1, c2, c3, c4, c5, c6, c7, c8, hr, hl, hn⟩ := h i hi
  exact ⟨b, off, e, cell_later hb c0, cell_later hb c1, cell_later hb c2, cell_later hb c3, cell_later hb c4, cell_later hb c5, cell_later hb c6, cell_later hb c7, cell_later hb c8, hr.later hb, hl, hn⟩

/-- append([]Pair(nil), l...): a copy -/
theorem append_copyP {w : World} {ops : Array Oper} {rest : List Oper} {o : Oper} {a : Act} {Q : Exit → Act → World → Prop} (hg : o.guard = none) (s x : Operand)
    (hop : o.op = Op.call { callee := Callee.builtin Builtin.append, args := #[s, x], argTypes := #[48, 48] }) {B n c : Nat} {va : Option Addr} {l : Prs} (hs : a.eval s = .slice none 0 0) (hx : a.eval x = .slice va n c) (hn : l.length = n) (hown : OwnP w B (.slice va n c) l) (hl : (l.length + 1) * 64 ≤ 140737488355328)
    (hK : ∀ v' w', OwnP w' w.heap.size v' l → Below w.heap.size w w' → wpList Tryd.prog ops Q rest (a.put o.dst v') w') : wpList Tryd.prog ops Q (o :: rest) a w := by
  obtain ⟨i0, hi, hz0, hz1, hz2⟩ := info_ofV infoPr
  subst hn
  have hown' := hown
  obtain ⟨_, ⟨e, e0⟩ | ⟨g, cap, cur, e, _, hgb, h1, h2, h3, h4⟩⟩ := hown'
  · injection e with e1 e2 e3
    subst e1 e3
    have hl0 : l = [] := List.length_eq_zero_iff.1 e0
    subst hl0
    refine wpList_plain hg fun K hK' => ?_
    have hrun : (Builtin.append_ #[48, 48] o.type #[.slice none 0 0, .slice none 0 0]).run Tryd.prog w = .ok (.slice none 0 0) w := by
      simp [Builtin.append_, go_sem, run_underlying Tryd.underlying48, typeInfo, hi]
    unfold Oper.wp
    simp [execOp, hop, resolve, invoke, builtin, hs, hx, hrun, Result.andThen]
    exact hK' _ _ (hK _ w (OwnP.nil _ _) (Below.refl _ _))
  · injection e with e1 _ e3
    subst e1 e3
    refine wpList_append_own _ hg s x 48 hop w.heap.size 61 i0 (pv ⟨#[]⟩ ⟨#[]⟩) 2 32 Tryd.underlying48 hi hz0 hz1 hz2 rfl (by decide) (.slice none 0 0) 0 [] hs (World.ownsRow_nil _ _ _ _) ⟨g, 0, none⟩ l.length c (flatP l) hx (flatP_len l) (World.ownsRow.cells hown rfl) ?_ (by unfold maxLen; omega) (by omega) (Nat.le_refl _) ?_
    · intro u hu
      obtain ⟨y, _, hy⟩ := List.mem_flatMap.1 hu
      simp at hy
      rcases hy with rfl | rfl <;> rfl
    · intro v' w' ho hgr _
      refine hK v' w' ?_ ((grown_onl hgr).below (fun b hb => by simp [Value.ownBlock] at hb) (Nat.le_refl _))
      show w'.ownsRow _ _ 2 v' l.length (flatP l)
      simpa using ho
end Go.Proofs.YtaknkodjganacaaDoor.Vs
