import Derived.Test.YtchfoipkaookmabDoorWRound
import Derived.Test.YtchfoipkaookmabDoorWOpen
namespace Go.Proofs.YtchfoipkaookmabDoor
open Go.RowKit Go.Sort
set_option linter.unusedVariables false

def top : Nat := 18446744073709551615
/-- a take of an item's kind, and what is added then -/
def ag1 (N : Nat) (x : It) (d : Ds) : List Nat × Ds :=
  if x.kind = 1 then ([(tByte d).1], (tByte d).2) else if x.kind = 2 then ([if (tFlag d).1 then 1 else 0], (tFlag d).2) else if x.kind = 3 then (vb (tVar top d).1, (tVar top d).2)
  else if x.kind = 4 then (eText (tText N d).1, (tText N d).2) else if x.kind = 5 then (eTexts (tTexts N N d).1, (tTexts N N d).2) else if x.kind = 6 then ((tRaw x.s.length d).1, (tRaw x.s.length d).2)
  else if x.kind = 7 then (pkN (tStamp d).1, (tStamp d).2) else ([], d)
def agL (N : Nat) : List It → Ds → List Nat × Ds
  | [], d => ([], d)
  | x :: xs, d => ((ag1 N x d).1 ++ (agL N xs (ag1 N x d).2).1, (agL N xs (ag1 N x d).2).2)

/-- it went on, or it stopped -/
def Went (s out : List Nat) (d' : Ds) : Prop := (∃ r, d' = .at r ∧ s = out ++ r) ∨ (∃ e, d' = .stop e ∧ (e = 30 ∨ e = 31) ∧ out.length ≤ 16 ∧ B8 out)
theorem vb_zero : vb 0 = [0] := vb_small (by decide)
theorem eText_nil : eText [] = [0] := by simp [eText, vb_zero]
theorem eTexts_nil : eTexts [] = [0] := by simp [eTexts, vb_zero]
theorem zero_b8 : B8 [0] := B8.one (by decide)

theorem byte_went {s : List Nat} : Went s [(tByte (.at s)).1] (tByte (.at s)).2 := by
  cases s with
  | nil => exact .inr ⟨30, rfl, .inl rfl, by simp, zero_b8⟩
  | cons b t => exact .inl ⟨t, rfl, rfl⟩
theorem flag_went {s : List Nat} : Went s [if (tFlag (.at s)).1 then 1 else 0] (tFlag (.at s)).2 := by
  cases s with
  | nil => exact .inr ⟨30, rfl, .inl rfl, by simp, zero_b8⟩
  | cons b t =>
    by_cases h0 : b = 0
    · subst h0; exact .inl ⟨t, rfl, rfl⟩
    · by_cases h1 : b = 1
      · subst h1; exact .inl ⟨t, rfl, rfl⟩
      · have e : tFlag (.at (b :: t)) = (false, .stop 31) := by simp [tFlag, h0, h1]
        rw [e]
        exact .inr ⟨31, rfl, .inr rfl, by simp, zero_b8⟩
theorem var_went {s : List Nat} (hb : B8 s) : Went s (vb (tVar top (.at s)).1) (tVar top (.at s)).2 := by
  have ho := fun v r => tVar_only (m := top) (v := v) (s := s) (r := r) hb
  cases hv : vdec top s with
  | ok v r =>
    have e : tVar top (.at s) = (v, .at r) := by simp [tVar, hv]
    rw [e]
    exact .inl ⟨r, rfl, ho v r e⟩
  | short =>
    have e : tVar top (.at s) = (0, .stop 30) := by simp [tVar, hv]
    rw [e]
    exact .inr ⟨30, rfl, .inl rfl, by simp [vb_zero], by rw [vb_zero]; exact zero_b8⟩
  | form =>
    have e : tVar top (.at s) = (0, .stop 31) := by simp [tVar, hv]
    rw [e]
    exact .inr ⟨31, rfl, .inr rfl, by simp [vb_zero], by rw [vb_zero]; exact zero_b8⟩
theorem txt_30 {m : Nat} {s : List Nat} {c : Int} (h : txt m s = .bad c) : c = 30 ∨ c = 31 := by
  unfold txt at h
  split at h
  · split at h
    · injection h with h; exact .inl h.symm
    · cases h
  · injection h with h; exact .inl h.symm
  · injection h with h; exact .inr h.symm
theorem txs_30 {m : Nat} : ∀ {n : Nat} {q : List Nat} {c : Int}, txs m n q = .bad c → c = 30 ∨ c = 31
  | 0, q, c, h => by cases h
  | n + 1, q, c, h => by
    unfold txs at h
    split at h
    · rename_i c' hx; injection h with h; subst h; exact txt_30 hx
    · split at h
      · rename_i c' hx; injection h with h; subst h; exact txs_30 hx
      · cases h
theorem txAll_30 {k m : Nat} {s : List Nat} {c : Int} (h : txAll k m s = .bad c) : c = 30 ∨ c = 31 := by
  unfold txAll at h
  split at h
  · exact txs_30 h
  · injection h with h; exact .inl h.symm
  · injection h with h; exact .inr h.symm
theorem text_went {N : Nat} {s : List Nat} (hb : B8 s) : Went s (eText (tText N (.at s)).1) (tText N (.at s)).2 := by
  have ho := fun t r => tText_only (m := N) (s := s) (t := t) (r := r) hb
  have ht := tText_txt N s
  cases hx : txt N s with
  | ok t q => rw [hx] at ht; rw [ht]; exact .inl ⟨q, rfl, ho t q ht⟩
  | bad c => rw [hx] at ht; rw [ht]; exact .inr ⟨c, rfl, txt_30 hx, by simp [eText_nil], by rw [eText_nil]; exact zero_b8⟩
theorem texts_went {N : Nat} {s : List Nat} (hb : B8 s) : Went s (eTexts (tTexts N N (.at s)).1) (tTexts N N (.at s)).2 := by
  have ho := fun t r => tTexts_only (k := N) (m := N) (s := s) (l := t) (r := r) hb
  have ht := tTexts_tx N N s
  cases hx : txAll N N s with
  | ok t q => rw [hx] at ht; rw [ht]; exact .inl ⟨q, rfl, ho t q ht⟩
  | bad c => rw [hx] at ht; rw [ht]; exact .inr ⟨c, rfl, txAll_30 hx, by simp [eTexts_nil], by rw [eTexts_nil]; exact zero_b8⟩
theorem raw_went {n : Nat} {s : List Nat} : Went s (tRaw n (.at s)).1 (tRaw n (.at s)).2 := by
  by_cases h : s.length < n
  · have e : tRaw n (.at s) = ([], .stop 30) := by simp [tRaw, h]
    rw [e]; exact .inr ⟨30, rfl, .inl rfl, by simp, B8.nil⟩
  · have e : tRaw n (.at s) = (s.take n, .at (s.drop n)) := by simp [tRaw, h]
    rw [e]; exact .inl ⟨_, rfl, (List.take_append_drop n s).symm⟩
theorem stamp_went {s : List Nat} (hb : B8 s) : Went s (pkN (tStamp (.at s)).1) (tStamp (.at s)).2 := by
  by_cases h : s.length < 16
  · have e : tStamp (.at s) = (zSm, .stop 30) := by simp [tStamp, h]
    rw [e]; exact .inr ⟨30, rfl, .inl rfl, by rw [pkN_length]; exact Nat.le_refl _, pkN_b8 _⟩
  · have e : tStamp (.at s) = (unS (s.take 16), .at (s.drop 16)) := by simp [tStamp, h]
    rw [e]
    refine .inl ⟨_, rfl, ?_⟩
    show s = pkN (unS (s.take 16)) ++ s.drop 16
    rw [pkN_unS (by simp; omega) (hb.take 16)]
    exact (List.take_append_drop 16 s).symm
theorem ag1_at {N : Nat} {x : It} {s : List Nat} (hb : B8 s) : Went s (ag1 N x (.at s)).1 (ag1 N x (.at s)).2 := by
  unfold ag1
  split
  · exact byte_went
  · split
    · exact flag_went
    · split
      · exact var_went hb
      · split
        · exact text_went hb
        · split
          · exact texts_went hb
          · split
            · exact raw_went
            · split
              · exact stamp_went hb
              · exact .inl ⟨s, rfl, rfl⟩
theorem ag1_stop {N : Nat} {x : It} {e : Int} : (ag1 N x (.stop e)).2 = .stop e ∧ (ag1 N x (.stop e)).1.length ≤ 16 := by
  unfold ag1
  split
  · exact ⟨rfl, by simp⟩
  · split
    · exact ⟨rfl, by simp⟩
    · split
      · exact ⟨rfl, by show (vb 0).length ≤ 16; simp [vb_zero]⟩
      · split
        · exact ⟨rfl, by show (eText []).length ≤ 16; simp [eText_nil]⟩
        · split
          · exact ⟨rfl, by show (eTexts []).length ≤ 16; simp [eTexts_nil]⟩
          · split
            · exact ⟨rfl, by show ([] : List Nat).length ≤ 16; simp⟩
            · split
              · exact ⟨rfl, by rw [pkN_length]; exact Nat.le_refl _⟩
              · exact ⟨rfl, by simp⟩
/-- what is left and what was added -/
theorem ag1_size {N : Nat} {x : It} {d : Ds} (hb : B8 d.left) : (ag1 N x d).1.length + (ag1 N x d).2.left.length ≤ d.left.length + 16 := by
  cases d with
  | stop e =>
    obtain ⟨h1, h2⟩ := ag1_stop (N := N) (x := x) (e := e)
    rw [h1]; simp [Ds.left]; exact h2
  | «at» s =>
    rcases ag1_at (N := N) (x := x) (s := s) hb with ⟨r, h1, h2⟩ | ⟨e, h1, -, h2, -⟩
    · rw [h1]
      have := congrArg List.length h2
      rw [List.length_append] at this
      show _ + r.length ≤ s.length + 16
      omega
    · rw [h1]; simp [Ds.left]; omega
theorem agL_stop {N : Nat} {e : Int} : ∀ (xs : List It), (agL N xs (.stop e)).2 = .stop e
  | [] => rfl
  | x :: xs => by
    simp only [agL]
    rw [ag1_stop.1]
    exact agL_stop xs
/-- P3.7, its second half -/
theorem agL_sound {N : Nat} : ∀ (xs : List It) {s : List Nat}, B8 s → (∃ r, (agL N xs (.at s)).2 = .at r ∧ s = (agL N xs (.at s)).1 ++ r) ∨ ∃ e, (agL N xs (.at s)).2 = .stop e ∧ (e = 30 ∨ e = 31)
  | [], s, _ => .inl ⟨s, rfl, rfl⟩
  | x :: xs, s, hb => by
    simp only [agL]
    rcases ag1_at (N := N) (x := x) hb with ⟨r, h1, h2⟩ | ⟨e, h1, h2, -⟩
    · rw [h1]
      have hb2 : B8 r := by rw [h2] at hb; exact hb.right
      rcases agL_sound xs hb2 with ⟨q, h3, h4⟩ | ⟨e, h3, h4⟩
      · refine .inl ⟨q, h3, ?_⟩
        rw [List.append_assoc, ← h4]
        exact h2
      · exact .inr ⟨e, h3, h4⟩
    · rw [h1, agL_stop]
      exact .inr ⟨e, rfl, h2⟩
theorem flat_ge : ∀ l : List (List Nat), l.length ≤ (l.flatMap eText).length
  | [] => by simp
  | t :: l => by
    have h := flat_ge l
    have h1 : 1 ≤ (eText t).length := by
      obtain ⟨n, hn, _⟩ := vb_some t.length
      rw [eText, List.length_append]; omega
    rw [List.flatMap_cons, List.length_append, List.length_cons]; omega
where
  vb_some (v : Nat) : ∃ n, (vb v).length = n + 1 ∧ True := by
    by_cases h : v < 128
    · exact ⟨0, by rw [vb_small h]; rfl, trivial⟩
    · exact ⟨_, by rw [vb_great h]; rfl, trivial⟩
/-- P3.7, its first half, with great maxima -/
theorem ag1_back {N : Nat} {x : It} {r : List Nat} (hn : x.n < 18446744073709551616) (hs : x.st.ok) (hN : x.bytes.length ≤ N) (hN2 : N < 18446744073709551616) : ag1 N x (.at (x.bytes ++ r)) = (x.bytes, .at r) := by
  by_cases h0 : 1 ≤ x.kind ∧ x.kind ≤ 7
  · have hks : x.kind = 1 ∨ x.kind = 2 ∨ x.kind = 3 ∨ x.kind = 4 ∨ x.kind = 5 ∨ x.kind = 6 ∨ x.kind = 7 := by omega
    rcases hks with hk | hk | hk | hk | hk | hk | hk
    · have hb : x.bytes = [x.n % 256] := by unfold It.bytes; simp [hk]
      have ha : ∀ d, ag1 N x d = ([(tByte d).1], (tByte d).2) := fun d => by unfold ag1; simp [hk]
      rw [ha, hb]; rfl
    · have hb : x.bytes = [if x.n % 2 = 1 then 1 else 0] := by unfold It.bytes; simp [hk]
      have ha : ∀ d, ag1 N x d = ([if (tFlag d).1 then 1 else 0], (tFlag d).2) := fun d => by unfold ag1; simp [hk]
      rw [ha, hb]
      by_cases h : x.n % 2 = 1 <;> simp [h, tFlag]
    · have hb : x.bytes = vb x.n := by unfold It.bytes; simp [hk]
      have ha : ∀ d, ag1 N x d = (vb (tVar top d).1, (tVar top d).2) := fun d => by unfold ag1; simp [hk]
      rw [ha, hb, tVar_vb r hn (by unfold top; omega)]
    · have hb : x.bytes = eText x.s := by unfold It.bytes; simp [hk]
      have ha : ∀ d, ag1 N x d = (eText (tText N d).1, (tText N d).2) := fun d => by unfold ag1; simp [hk]
      rw [hb] at hN
      have : x.s.length ≤ (eText x.s).length := by rw [eText, List.length_append]; omega
      rw [ha, hb, tText_app x.s r (by omega) (by omega)]
    · have hb : x.bytes = eTexts x.l := by unfold It.bytes; simp [hk]
      have ha : ∀ d, ag1 N x d = (eTexts (tTexts N N d).1, (tTexts N N d).2) := fun d => by unfold ag1; simp [hk]
      rw [hb] at hN
      have h6 := flat_ge x.l
      have h7 : (x.l.flatMap eText).length ≤ (eTexts x.l).length := by rw [eTexts, List.length_append]; omega
      have h8 := text_le x.l
      rw [ha, hb, tTexts_app x.l r (by omega) (by omega) (fun t ht => by have := h8 t ht; omega)]
    · have hb : x.bytes = x.s := by unfold It.bytes; simp [hk]
      have ha : ∀ d, ag1 N x d = ((tRaw x.s.length d).1, (tRaw x.s.length d).2) := fun d => by unfold ag1; simp [hk]
      rw [ha, hb, tRaw_app]
    · have hb : x.bytes = pkN x.st := by unfold It.bytes; simp [hk]
      have ha : ∀ d, ag1 N x d = (pkN (tStamp d).1, (tStamp d).2) := fun d => by unfold ag1; simp [hk]
      rw [ha, hb, tStamp_app hs]
  · have hb : x.bytes = [] := by unfold It.bytes; rw [if_neg (by omega), if_neg (by omega), if_neg (by omega), if_neg (by omega), if_neg (by omega), if_neg (by omega), if_neg (by omega)]
    have ha : ∀ d, ag1 N x d = ([], d) := fun d => by unfold ag1; rw [if_neg (by omega), if_neg (by omega), if_neg (by omega), if_neg (by omega), if_neg (by omega), if_neg (by omega), if_neg (by omega)]
    rw [ha, hb]; rfl
theorem agL_back {N : Nat} (hN2 : N < 18446744073709551616) : ∀ (xs : List It), (∀ x ∈ xs, x.n < 18446744073709551616 ∧ x.st.ok) → (bytesOf xs).length ≤ N → agL N xs (.at (bytesOf xs)) = (bytesOf xs, .at [])
  | [], _, _ => rfl
  | x :: xs, h, hN => by
    have e : bytesOf (x :: xs) = x.bytes ++ bytesOf xs := by simp [bytesOf]
    rw [e] at hN ⊢
    rw [List.length_append] at hN
    have h1 := ag1_back (x := x) (r := bytesOf xs) (N := N) (h x (by simp)).1 (h x (by simp)).2 (by omega) hN2
    simp only [agL, h1]
    rw [agL_back hN2 xs (fun y hy => h y (by simp [hy])) (by omega)]

end Go.Proofs.YtchfoipkaookmabDoor

namespace Go.Proofs.YtchfoipkaookmabDoor
open Go.RowKit Go.Sort
set_option linter.unusedVariables false

theorem encAt_new' (w : World) (T : TypeId) (A : Nat → Prop) (hA : A w.heap.size) : EncAt (w.alloc (.cells #[.pointer none, .int .i64 0] T)) A w.heap.size 0 [] := by
  refine ⟨hA, ⟨[], rfl, trivial, fun x hx => by simp at hx, ?_⟩, ?_, fun o => by simp [go_sem]⟩
  · simp [go_sem, ptrOf]
  · simp [go_sem]
theorem ag1_b8 {N : Nat} {x : It} {d : Ds} (hb : B8 d.left) : B8 (ag1 N x d).1 := by
  cases d with
  | «at» s =>
    rcases ag1_at (N := N) (x := x) (s := s) hb with ⟨r, h1, h2⟩ | ⟨e, h1, -, -, h2⟩
    · have hb' : B8 s := hb
      rw [h2] at hb'
      exact hb'.left
    · exact h2
  | stop e =>
    unfold ag1
    split
    · exact zero_b8
    · split
      · exact zero_b8
      · split
        · show B8 (vb 0); rw [vb_zero]; exact zero_b8
        · split
          · show B8 (eText []); rw [eText_nil]; exact zero_b8
          · split
            · show B8 (eTexts []); rw [eTexts_nil]; exact zero_b8
            · split
              · exact B8.nil
              · split
                · exact pkN_b8 _
                · exact B8.nil
theorem tVar_top (d : Ds) : (tVar top d).1 < 18446744073709551616 := by
  cases d with
  | stop e => exact (by decide : (0 : Nat) < 18446744073709551616)
  | «at» s =>
    cases hv : vdec top s with
    | ok v r =>
      have e : tVar top (.at s) = (v, .at r) := by simp [tVar, hv]
      rw [e]
      unfold vdec at hv
      split at hv
      · split at hv
        · injection hv with h1 h2; subst h1; rename_i h; unfold top at h; show _ < _; omega
        · cases hv
      · cases hv
      · cases hv
    | short => have e : tVar top (.at s) = (0, .stop 30) := by simp [tVar, hv]
               rw [e]; decide
    | form => have e : tVar top (.at s) = (0, .stop 31) := by simp [tVar, hv]
              rw [e]; decide
theorem tStamp_ok (d : Ds) : (tStamp d).1.ok := by
  have hz : zSm.ok := ⟨by decide, by decide, by decide⟩
  cases d with
  | stop e => exact hz
  | «at» s =>
    by_cases h : s.length < 16
    · have e : tStamp (.at s) = (zSm, .stop 30) := by simp [tStamp, h]
      rw [e]; exact hz
    · have e : tStamp (.at s) = (unS (s.take 16), .at (s.drop 16)) := by simp [tStamp, h]
      rw [e]; exact unS_ok (by simp; omega)
theorem agL_step {N k : Nat} {xs : List It} {x : It} {d : Ds} (h : xs[k]? = some x) : agL N (xs.drop k) d = ((ag1 N x d).1 ++ (agL N (xs.drop (k + 1)) (ag1 N x d).2).1, (agL N (xs.drop (k + 1)) (ag1 N x d).2).2) := by
  have hi : k < xs.length := by
    rcases Nat.lt_or_ge k xs.length with h1 | h1
    · exact h1
    · rw [List.getElem?_eq_none h1] at h; cases h
  rw [List.getElem?_eq_getElem hi] at h
  injection h with h
  rw [List.drop_eq_getElem_cons hi, h]
  rfl
theorem owns_trow2 {w : World} {B : Nat} {v : Value} {l : List (List Nat)} (h : w.ownsRow B 9 1 v l.length (tvals l)) (hb : ∀ t ∈ l, B8 t) : ∃ a cap, v = .slice a l.length cap ∧ TRow w a l ∧ ∀ c off, a = some ⟨c, off, none⟩ → B ≤ c := by
  obtain ⟨h1, ⟨rfl, h2⟩ | ⟨g, cap, cur, rfl, hg, hh, r⟩⟩ := h
  · have : l = [] := List.eq_nil_of_length_eq_zero h2
    subst this
    exact ⟨none, 0, rfl, fun i t e => by simp at e, fun c off e => by cases e⟩
  · refine ⟨some ⟨g, 0, none⟩, cap, rfl, fun i t e => ⟨hb t (List.mem_of_getElem? e), g, 0, rfl, ?_⟩, fun c off e => by injection e with e; injection e with e1; omega⟩
    rw [Nat.zero_add]
    exact owns_cells (B := B) (e := 9) ⟨h1, .inr ⟨g, cap, cur, rfl, hg, hh, r⟩⟩ i _ (by simp [tvals, e])
theorem flat_b8 {l : List (List Nat)} (h : B8 (eTexts l)) : ∀ t ∈ l, B8 t := by
  intro t ht b hb
  refine h b ?_
  rw [eTexts, List.mem_append]
  refine .inr (List.mem_flatMap.2 ⟨t, ht, ?_⟩)
  rw [eText, List.mem_append]
  exact .inr hb

/-- how again stands behind k items -/
structure AgAt (w wr : World) (p1 p2 N : Nat) (xs : List It) (s : List Nat) (k : Nat) (out : List Nat) (d : Ds) : Prop where
  below : Below w.heap.size w wr
  lt : p2 < wr.heap.size
  enc : EncAt wr (fun k => k = p1 ∨ k = p2) p2 0 out
  dec : DecAt wr p1 0 d
  eq : agL N xs (.at s) = (out ++ (agL N (xs.drop k) d).1, (agL N (xs.drop k) d).2)
  size : out.length + d.left.length ≤ s.length + 16 * k
theorem AgAt.next {w wr w2 : World} {p1 p2 N k : Nat} {xs : List It} {x : It} {s out : List Nat} {d : Ds} (h : AgAt w wr p1 p2 N xs s k out d) (hx : xs[k]? = some x) (hb : Below w.heap.size w w2) (hl : p2 < w2.heap.size) (he : EncAt w2 (fun k => k = p1 ∨ k = p2) p2 0 (out ++ (ag1 N x d).1)) (hd : DecAt w2 p1 0 (ag1 N x d).2) : AgAt w w2 p1 p2 N xs s (k + 1) (out ++ (ag1 N x d).1) (ag1 N x d).2 := by
  refine ⟨hb, hl, he, hd, ?_, ?_⟩
  · rw [h.eq, agL_step hx, List.append_assoc]
  · have h1 := ag1_size (N := N) (x := x) h.dec.raw.b8
    have h2 := h.size
    rw [List.length_append]
    omega

set_option maxRecDepth 8000 in
set_option maxHeartbeats 4000000 in
theorem again_any {w : World} {a : Option Addr} {cap : Nat} {xs : List It} {s : List Nat} (hr : IRow w a xs) (hn : xs.length ≤ 1048576) (hs : B8 s) (hl : s.length ≤ 1073741824) :
    Calls Tryd.prog 6 #[.slice a xs.length cap, .string (ofNats s)] w fun e w' => e = .returned (.tuple #[.string (ofNats (agL s.length xs (.at s)).1), .int .i64 (agL s.length xs (.at s)).2.ending]) ∧ Below w.heap.size w w' := by
  have HR := hid hr
  have HS8 := hid hs
  obtain ⟨N, hN⟩ : ∃ N, N = s.length := ⟨_, rfl⟩
  have hsz : ((ofNats s).size : Int) = (N : Int) := by rw [ofNats_size, hN]
  rw [← hN] at hl ⊢
  have HN := hid hN
  clear hr hs hN
  go_enter Tryd.func6, Tryd.ntmps6
  go_wp2_with fail
  obtain ⟨p1, hp1⟩ : ∃ p1, w.heap.size = p1 := ⟨_, rfl⟩
  refine (open_is HS8.out hp1).mono ?_
  rintro e wd ⟨rfl, hbd, hld, hdd⟩
  obtain ⟨p2, hp2⟩ : ∃ p2, p2 = wd.heap.size := ⟨_, rfl⟩
  obtain ⟨we, hwe⟩ : ∃ we, we = wd.alloc (.cells #[.pointer none, .int .i64 0] 48) := ⟨_, rfl⟩
  have hbe : Below wd.heap.size wd we := by rw [hwe]; exact Below.al (Below.refl _ _) _
  have A0 : AgAt w we p1 p2 N xs s 0 [] (.at s) := by
    refine ⟨Below.on hbd hbe, by rw [hwe, hp2]; simp, ?_, hdd.later hbe, by rfl, by simp [Ds.left]⟩
    rw [hwe, hp2]
    exact encAt_new' wd _ _ (.inr rfl)
  have HA0 := hid A0
  have HWE := hid hwe
  have hp12 : p1 < p2 := by rw [hp2]; exact hld
  have HP1 := hid hp1
  have HP2 := hid hp2
  clear A0 hwe hbe hbd hdd hld hp1
  go_wp2_with fail
  rw [← HWE.out, ← hp2]
  clear hp2
  go_loopg [8] xs.length (fun g s8 wr => ∃ (k : Nat) (out : List Nat) (d : Ds), k ≤ xs.length ∧ g = xs.length - k ∧ s8 = .int .i64 (k : Int) ∧ Hid (AgAt w wr p1 p2 N xs s k out d))
  case atStart => exact ⟨0, [], .at s, by omega, by omega, rfl, HA0.out⟩
  case round =>
    obtain ⟨k, out, d, hk, rfl, rfl, HH⟩ := hrel
    have hsize : out.length + d.left.length ≤ 1073741824 + 16 * 1048576 := by have := HH.out.size; have := HN.out; omega
    by_cases hlt : k < xs.length
    · obtain ⟨x, hx⟩ : ∃ x, xs[k]? = some x := ⟨_, List.getElem?_eq_getElem hlt⟩
      have HXX := hid hx
      obtain ⟨hxo, c, off, rfl, c0, c1, c2, c3, c4, c5, c6⟩ := (HR.out.later HH.out.below) k x hx
      have hsl : x.s.length ≤ 1099511627776 := by have := hxo.bulk; unfold It.bulk at this; omega
      have h8 := ag1_b8 (N := N) (x := x) HH.out.dec.raw.b8
      have hz := ag1_size (N := N) (x := x) HH.out.dec.raw.b8
      have HA1 : Hid (∀ j, (j = p1 ∨ j = p2) → j < wr.heap.size) := fun j hj => by have := HH.out.lt; rcases hj with rfl | rfl <;> omega
      have k1 : (0 : Int) ≤ (k : Int) := by omega
      have k2 : (k : Int) < (xs.length : Int) := by omega
      have HWP : Hid (w.heap.size ≤ p1) := HP1.out ▸ Nat.le_refl _
      clear hx hxo c1 c3 c4 c5 c6
      by_cases h0 : 1 ≤ x.kind ∧ x.kind ≤ 7
      · have hks : x.kind = 1 ∨ x.kind = 2 ∨ x.kind = 3 ∨ x.kind = 4 ∨ x.kind = 5 ∨ x.kind = 6 ∨ x.kind = 7 := by omega
        clear h0
        rcases hks with hkk | hkk | hkk | hkk | hkk | hkk | hkk
        · rw [hkk] at c0
          have hag : ag1 N x d = ([(tByte d).1], (tByte d).2) := by unfold ag1; simp [hkk]
          rw [hag] at h8 hz
          have HAG := hid hag
          have H8 := hid h8
          have HZ := hid hz
          clear hag h8 hz
          go_wp2_with fail
          refine (dbyte_is (x := (tByte d).1) (d' := (tByte d).2) HH.out.dec (by omega) rfl).mono ?_
          rintro e w1 ⟨rfl, hc1, hd1⟩
          have HB1 : Hid (Below w.heap.size w w1) := HH.out.below.trans (hc1.below HWP.out HH.out.below.size)
          have HE1 : Hid (EncAt w1 (fun k => k = p1 ∨ k = p2) p2 0 out) := HH.out.enc.keep hc1 (.inl rfl) (.inl (by omega))
          have HL1 : Hid (p2 < w1.heap.size) := Nat.lt_of_lt_of_le HH.out.lt hc1.size
          have HA2 : Hid (∀ j, (j = p1 ∨ j = p2) → j < w1.heap.size) := fun j hj => Nat.lt_of_lt_of_le (HA1.out j hj) hc1.size
          have HD1 := hid hd1
          clear hc1 hd1
          go_wp2_with fail
          refine (byte_any HE1.out (H8.out _ (by simp)) HA2.out (by omega)).mono ?_
          rintro e w2 ⟨rfl, hc2, he2⟩
          have HN2 : Hid (AgAt w w2 p1 p2 N xs s (k + 1) (out ++ (ag1 N x d).1) (ag1 N x d).2) := HH.out.next HXX.out (HB1.out.trans (hc2.below (by have := HWP.out; omega) HB1.out.size)) (Nat.lt_of_lt_of_le HL1.out hc2.size) (by rw [HAG.out]; exact he2) (by rw [HAG.out]; exact HD1.out.keep hc2 (.inl (by omega)))
          clear hc2 he2
          go_wp2_with fail
          go_roundg (xs.length - (k + 1))
          case measure => omega
          case rel => exact ⟨k + 1, _, _, by omega, rfl, by go_num, HN2.out⟩
        · rw [hkk] at c0
          have hag : ag1 N x d = ([if (tFlag d).1 then 1 else 0], (tFlag d).2) := by unfold ag1; simp [hkk]
          rw [hag] at h8 hz
          have HAG := hid hag
          have H8 := hid h8
          have HZ := hid hz
          clear hag h8 hz
          go_wp2_with fail
          refine (dflag_is (x := (tFlag d).1) (d' := (tFlag d).2) HH.out.dec (by omega) rfl).mono ?_
          rintro e w1 ⟨rfl, hc1, hd1⟩
          have HB1 : Hid (Below w.heap.size w w1) := HH.out.below.trans (hc1.below HWP.out HH.out.below.size)
          have HE1 : Hid (EncAt w1 (fun k => k = p1 ∨ k = p2) p2 0 out) := HH.out.enc.keep hc1 (.inl rfl) (.inl (by omega))
          have HL1 : Hid (p2 < w1.heap.size) := Nat.lt_of_lt_of_le HH.out.lt hc1.size
          have HA2 : Hid (∀ j, (j = p1 ∨ j = p2) → j < w1.heap.size) := fun j hj => Nat.lt_of_lt_of_le (HA1.out j hj) hc1.size
          have HD1 := hid hd1
          clear hc1 hd1
          go_wp2_with fail
          refine (flag_any HE1.out HA2.out (by omega)).mono ?_
          rintro e w2 ⟨rfl, hc2, he2⟩
          have HN2 : Hid (AgAt w w2 p1 p2 N xs s (k + 1) (out ++ (ag1 N x d).1) (ag1 N x d).2) := HH.out.next HXX.out (HB1.out.trans (hc2.below (by have := HWP.out; omega) HB1.out.size)) (Nat.lt_of_lt_of_le HL1.out hc2.size) (by rw [HAG.out]; exact he2) (by rw [HAG.out]; exact HD1.out.keep hc2 (.inl (by omega)))
          clear hc2 he2
          go_wp2_with fail
          go_roundg (xs.length - (k + 1))
          case measure => omega
          case rel => exact ⟨k + 1, _, _, by omega, rfl, by go_num, HN2.out⟩
        · rw [hkk] at c0
          have hag : ag1 N x d = (vb (tVar top d).1, (tVar top d).2) := by unfold ag1; simp [hkk]
          rw [hag] at h8 hz
          have HAG := hid hag
          have H8 := hid h8
          have HZ := hid hz
          clear hag h8 hz
          go_wp2_with fail
          refine (dvar_is (m := 18446744073709551615) (x := (tVar top d).1) (d' := (tVar top d).2) HH.out.dec (by omega) rfl).mono ?_
          rintro e w1 ⟨rfl, hc1, hd1⟩
          have HB1 : Hid (Below w.heap.size w w1) := HH.out.below.trans (hc1.below HWP.out HH.out.below.size)
          have HE1 : Hid (EncAt w1 (fun k => k = p1 ∨ k = p2) p2 0 out) := HH.out.enc.keep hc1 (.inl rfl) (.inl (by omega))
          have HL1 : Hid (p2 < w1.heap.size) := Nat.lt_of_lt_of_le HH.out.lt hc1.size
          have HA2 : Hid (∀ j, (j = p1 ∨ j = p2) → j < w1.heap.size) := fun j hj => Nat.lt_of_lt_of_le (HA1.out j hj) hc1.size
          have HD1 := hid hd1
          clear hc1 hd1
          go_wp2_with fail
          refine (var_any HE1.out (tVar_top d) HA2.out (by omega)).mono ?_
          rintro e w2 ⟨rfl, hc2, he2⟩
          have HN2 : Hid (AgAt w w2 p1 p2 N xs s (k + 1) (out ++ (ag1 N x d).1) (ag1 N x d).2) := HH.out.next HXX.out (HB1.out.trans (hc2.below (by have := HWP.out; omega) HB1.out.size)) (Nat.lt_of_lt_of_le HL1.out hc2.size) (by rw [HAG.out]; exact he2) (by rw [HAG.out]; exact HD1.out.keep hc2 (.inl (by omega)))
          clear hc2 he2
          go_wp2_with fail
          go_roundg (xs.length - (k + 1))
          case measure => omega
          case rel => exact ⟨k + 1, _, _, by omega, rfl, by go_num, HN2.out⟩
        · rw [hkk] at c0
          have hag : ag1 N x d = (eText (tText N d).1, (tText N d).2) := by unfold ag1; simp [hkk]
          rw [hag] at h8 hz
          have HAG := hid hag
          have H8 := hid h8
          have HZ := hid hz
          clear hag h8 hz
          have HT : Hid (tText (N : Int).toNat d = ((tText N d).1, (tText N d).2)) := (by show tText (N : Int).toNat d = ((tText N d).1, (tText N d).2); rw [Int.toNat_natCast])
          go_wp2_with fail
          refine (dtext_is (m := (N : Int)) HH.out.dec (by omega) (by omega) (by omega) HT.out).mono ?_
          rintro e w1 ⟨rfl, hc1, hd1⟩
          have HB1 : Hid (Below w.heap.size w w1) := HH.out.below.trans (hc1.below HWP.out HH.out.below.size)
          have HE1 : Hid (EncAt w1 (fun k => k = p1 ∨ k = p2) p2 0 out) := HH.out.enc.keep hc1 (.inl rfl) (.inl (by omega))
          have HL1 : Hid (p2 < w1.heap.size) := Nat.lt_of_lt_of_le HH.out.lt hc1.size
          have HA2 : Hid (∀ j, (j = p1 ∨ j = p2) → j < w1.heap.size) := fun j hj => Nat.lt_of_lt_of_le (HA1.out j hj) hc1.size
          have HD1 := hid hd1
          clear hc1 hd1
          have hz4 : (tText N d).1.length ≤ (eText (tText N d).1).length := by rw [eText, List.length_append]; omega
          have hz5 := HZ.out
          go_wp2_with fail
          refine (text_any HE1.out (by have := H8.out; rw [eText] at this; exact this.right) HA2.out (by omega)).mono ?_
          rintro e w2 ⟨rfl, hc2, he2⟩
          have HN2 : Hid (AgAt w w2 p1 p2 N xs s (k + 1) (out ++ (ag1 N x d).1) (ag1 N x d).2) := HH.out.next HXX.out (HB1.out.trans (hc2.below (by have := HWP.out; omega) HB1.out.size)) (Nat.lt_of_lt_of_le HL1.out hc2.size) (by rw [HAG.out]; exact he2) (by rw [HAG.out]; exact HD1.out.keep hc2 (.inl (by omega)))
          clear hc2 he2
          go_wp2_with fail
          go_roundg (xs.length - (k + 1))
          case measure => omega
          case rel => exact ⟨k + 1, _, _, by omega, rfl, by go_num, HN2.out⟩
        · rw [hkk] at c0
          have hag : ag1 N x d = (eTexts (tTexts N N d).1, (tTexts N N d).2) := by unfold ag1; simp [hkk]
          rw [hag] at h8 hz
          have HAG := hid hag
          have H8 := hid h8
          have HZ := hid hz
          clear hag h8 hz
          have HT : Hid (tTexts (N : Int).toNat (N : Int).toNat d = ((tTexts N N d).1, (tTexts N N d).2)) := (by show tTexts (N : Int).toNat (N : Int).toNat d = ((tTexts N N d).1, (tTexts N N d).2); rw [Int.toNat_natCast])
          go_wp2_with fail
          refine (dtexts_is (c := (N : Int)) (m := (N : Int)) HH.out.dec (by omega) (by omega) (by omega) (by omega) (by omega) HT.out).mono ?_
          rintro e w1 ⟨v, rfl, hown, hc1, hd1⟩
          obtain ⟨a1, cap1, rfl, hrow, hfar⟩ := owns_trow2 hown (flat_b8 H8.out)
          have HRW := hid hrow
          have HFR : Hid (∀ c off, a1 = some ⟨c, off, none⟩ → c ≠ p2) := fun c off e => by have := hfar c off e; have := HH.out.lt; omega
          clear hown hrow hfar
          have HB1 : Hid (Below w.heap.size w w1) := HH.out.below.trans (hc1.below HWP.out HH.out.below.size)
          have HE1 : Hid (EncAt w1 (fun k => k = p1 ∨ k = p2) p2 0 out) := HH.out.enc.keep hc1 (.inl rfl) (.inl (by omega))
          have HL1 : Hid (p2 < w1.heap.size) := Nat.lt_of_lt_of_le HH.out.lt hc1.size
          have HA2 : Hid (∀ j, (j = p1 ∨ j = p2) → j < w1.heap.size) := fun j hj => Nat.lt_of_lt_of_le (HA1.out j hj) hc1.size
          have HD1 := hid hd1
          clear hc1 hd1
          have hz4 := flat_ge (tTexts N N d).1
          have hz6 : ((tTexts N N d).1.flatMap eText).length ≤ (eTexts (tTexts N N d).1).length := by rw [eTexts, List.length_append]; omega
          have hz5 := HZ.out
          go_wp2_with fail
          refine (texts_any HE1.out HRW.out HFR.out HA2.out (by omega)).mono ?_
          rintro e w2 ⟨rfl, hc2, he2⟩
          have HN2 : Hid (AgAt w w2 p1 p2 N xs s (k + 1) (out ++ (ag1 N x d).1) (ag1 N x d).2) := HH.out.next HXX.out (HB1.out.trans (hc2.below (by have := HWP.out; omega) HB1.out.size)) (Nat.lt_of_lt_of_le HL1.out hc2.size) (by rw [HAG.out]; exact he2) (by rw [HAG.out]; exact HD1.out.keep hc2 (.inl (by omega)))
          clear hc2 he2
          go_wp2_with fail
          go_roundg (xs.length - (k + 1))
          case measure => omega
          case rel => exact ⟨k + 1, _, _, by omega, rfl, by go_num, HN2.out⟩
        · rw [hkk] at c0
          have hag : ag1 N x d = ((tRaw x.s.length d).1, (tRaw x.s.length d).2) := by unfold ag1; simp [hkk]
          rw [hag] at h8 hz
          have HAG := hid hag
          have H8 := hid h8
          have HZ := hid hz
          clear hag h8 hz
          have hxs : ((ofNats x.s).size : Int) = (x.s.length : Int) := by rw [ofNats_size]
          have HT : Hid (tRaw (x.s.length : Int).toNat d = ((tRaw x.s.length d).1, (tRaw x.s.length d).2)) := (by show tRaw (x.s.length : Int).toNat d = ((tRaw x.s.length d).1, (tRaw x.s.length d).2); rw [Int.toNat_natCast])
          go_wp2_with fail
          refine (draw_is (m := (x.s.length : Int)) HH.out.dec (by omega) (by omega) (by omega) HT.out).mono ?_
          rintro e w1 ⟨rfl, hc1, hd1⟩
          have HB1 : Hid (Below w.heap.size w w1) := HH.out.below.trans (hc1.below HWP.out HH.out.below.size)
          have HE1 : Hid (EncAt w1 (fun k => k = p1 ∨ k = p2) p2 0 out) := HH.out.enc.keep hc1 (.inl rfl) (.inl (by omega))
          have HL1 : Hid (p2 < w1.heap.size) := Nat.lt_of_lt_of_le HH.out.lt hc1.size
          have HA2 : Hid (∀ j, (j = p1 ∨ j = p2) → j < w1.heap.size) := fun j hj => Nat.lt_of_lt_of_le (HA1.out j hj) hc1.size
          have HD1 := hid hd1
          clear hc1 hd1
          have hz5 := HZ.out
          go_wp2_with fail
          refine (raw_any HE1.out H8.out HA2.out (by omega)).mono ?_
          rintro e w2 ⟨rfl, hc2, he2⟩
          have HN2 : Hid (AgAt w w2 p1 p2 N xs s (k + 1) (out ++ (ag1 N x d).1) (ag1 N x d).2) := HH.out.next HXX.out (HB1.out.trans (hc2.below (by have := HWP.out; omega) HB1.out.size)) (Nat.lt_of_lt_of_le HL1.out hc2.size) (by rw [HAG.out]; exact he2) (by rw [HAG.out]; exact HD1.out.keep hc2 (.inl (by omega)))
          clear hc2 he2
          go_wp2_with fail
          go_roundg (xs.length - (k + 1))
          case measure => omega
          case rel => exact ⟨k + 1, _, _, by omega, rfl, by go_num, HN2.out⟩
        · rw [hkk] at c0
          have hag : ag1 N x d = (pkN (tStamp d).1, (tStamp d).2) := by unfold ag1; simp [hkk]
          rw [hag] at h8 hz
          have HAG := hid hag
          have H8 := hid h8
          have HZ := hid hz
          clear hag h8 hz
          go_wp2_with fail
          refine (dstamp_is (x := (tStamp d).1) (d' := (tStamp d).2) HH.out.dec (by omega) rfl).mono ?_
          rintro e w1 ⟨rfl, hc1, hd1⟩
          have HB1 : Hid (Below w.heap.size w w1) := HH.out.below.trans (hc1.below HWP.out HH.out.below.size)
          have HE1 : Hid (EncAt w1 (fun k => k = p1 ∨ k = p2) p2 0 out) := HH.out.enc.keep hc1 (.inl rfl) (.inl (by omega))
          have HL1 : Hid (p2 < w1.heap.size) := Nat.lt_of_lt_of_le HH.out.lt hc1.size
          have HA2 : Hid (∀ j, (j = p1 ∨ j = p2) → j < w1.heap.size) := fun j hj => Nat.lt_of_lt_of_le (HA1.out j hj) hc1.size
          have HD1 := hid hd1
          clear hc1 hd1
          go_wp2_with fail
          refine (stampE_any HE1.out (tStamp_ok d) HA2.out (by omega)).mono ?_
          rintro e w2 ⟨rfl, hc2, he2⟩
          have HN2 : Hid (AgAt w w2 p1 p2 N xs s (k + 1) (out ++ (ag1 N x d).1) (ag1 N x d).2) := HH.out.next HXX.out (HB1.out.trans (hc2.below (by have := HWP.out; omega) HB1.out.size)) (Nat.lt_of_lt_of_le HL1.out hc2.size) (by rw [HAG.out]; exact he2) (by rw [HAG.out]; exact HD1.out.keep hc2 (.inl (by omega)))
          clear hc2 he2
          go_wp2_with fail
          go_roundg (xs.length - (k + 1))
          case measure => omega
          case rel => exact ⟨k + 1, _, _, by omega, rfl, by go_num, HN2.out⟩
      · have hag : ag1 N x d = ([], d) := by unfold ag1; rw [if_neg (by omega), if_neg (by omega), if_neg (by omega), if_neg (by omega), if_neg (by omega), if_neg (by omega), if_neg (by omega)]
        have HN2 : Hid (AgAt w wr p1 p2 N xs s (k + 1) (out ++ (ag1 N x d).1) (ag1 N x d).2) := HH.out.next HXX.out HH.out.below HH.out.lt (by rw [hag]; simpa using HH.out.enc) (by rw [hag]; exact HH.out.dec)
        have e1 : decide (x.kind = 1) = false := by simp; omega
        have f1 : (x.kind == 1) = false := by simp; omega
        have e2 : decide (x.kind = 2) = false := by simp; omega
        have f2 : (x.kind == 2) = false := by simp; omega
        have e3 : decide (x.kind = 3) = false := by simp; omega
        have f3 : (x.kind == 3) = false := by simp; omega
        have e4 : decide (x.kind = 4) = false := by simp; omega
        have f4 : (x.kind == 4) = false := by simp; omega
        have e5 : decide (x.kind = 5) = false := by simp; omega
        have f5 : (x.kind == 5) = false := by simp; omega
        have e6 : decide (x.kind = 6) = false := by simp; omega
        have f6 : (x.kind == 6) = false := by simp; omega
        have e7 : decide (x.kind = 7) = false := by simp; omega
        have f7 : (x.kind == 7) = false := by simp; omega
        clear h0 h8 hz hag
        go_wp2_with fail
        go_roundg (xs.length - (k + 1))
        case measure => omega
        case rel => exact ⟨k + 1, _, _, by omega, rfl, by go_num, HN2.out⟩
    · obtain rfl : k = xs.length := by omega
      have HQ : Hid (agL N xs (.at s) = (out, d)) := (by
        have := HH.out.eq
        rw [List.drop_of_length_le (Nat.le_refl _)] at this
        simp only [agL, List.append_nil] at this
        exact this)
      clear hlt hk
      go_wp2_with fail
      refine (bytes_of HH.out.enc (by omega)).mono ?_
      rintro e w3 ⟨rfl, hb3⟩
      have HD3 := hid (HH.out.dec.later hb3)
      have HB3 := hid (Below.on HH.out.below hb3)
      clear hb3
      go_wp2_with fail
      refine (end_is HD3.out rfl).mono ?_
      rintro e w4 ⟨rfl, rfl⟩
      go_wp2_with fail
      rw [HQ.out]
      exact bodyPost_ret (v := .tuple #[.string (ofNats out), .int .i64 d.ending]) (by simp [results, Tryd.results6, go_sem]) rfl ⟨rfl, HB3.out⟩

end Go.Proofs.YtchfoipkaookmabDoor

namespace Go.Proofs.YtchfoipkaookmabDoor
open Go.RowKit Go.Sort
set_option linter.unusedVariables false

theorem ex_le (S : ByteArray) (i j : Nat) : (S.extract i j).size ≤ S.size := by
  rw [ByteArray.size_extract]; omega

set_option maxRecDepth 8000 in
set_option maxHeartbeats 2000000 in
theorem spoil_any {w : World} {S : ByteArray} {it : Value} {c p t : Int} (hs : S.size ≤ 1073741824) (hp1 : -9223372036854775808 ≤ p) (hp2 : p ≤ 9223372036854775807) (hc2 : c ≤ 9223372036854775807) (ht1 : 0 ≤ t) (ht2 : t ≤ 255) :
    Calls Tryd.prog 7 #[.string S, .agg #[it, .int .i64 c, .int .i64 p, .int .u8 t]] w fun e w' => (∃ R : ByteArray, e = .returned (.string R) ∧ R.size ≤ S.size) ∧ Below w.heap.size w w' := by
  obtain ⟨wa, hwa⟩ : ∃ wa, wa = w.alloc (.cells #[it, .int .i64 c, .int .i64 p, .int .u8 t] 24) := ⟨_, rfl⟩
  have hba : Below w.heap.size w wa := by rw [hwa]; exact Below.al (Below.refl _ _) _
  have c1 : wa.cell? ⟨w.heap.size, 1, none⟩ = some (.int .i64 c) := by rw [hwa]; simp [go_sem]
  have c2 : wa.cell? ⟨w.heap.size, 2, none⟩ = some (.int .i64 p) := by rw [hwa]; simp [go_sem]
  have c3 : wa.cell? ⟨w.heap.size, 3, none⟩ = some (.int .u8 t) := by rw [hwa]; simp [go_sem]
  have HB := hid hba
  have HWA := hid hwa
  clear hba hwa
  go_enter Tryd.func7, Tryd.ntmps7
  go_upto_if 8 with fail
  rw [← HWA.out]
  go_cut [0] (fun s0 wx => ∃ R : ByteArray, s0 = .string R ∧ Hid (R.size ≤ S.size) ∧ wx = wa)
  case first =>
    by_cases h0 : 0 < c
    · by_cases h1 : c < (S.size : Int)
      · obtain ⟨k, hk⟩ : ∃ k : Nat, (S.size : Int) - c = (k : Int) := ⟨S.size - c.toNat, by omega⟩
        go_wp2_with fail
        go_meet
        exact ⟨_, rfl, ex_le _ _ _, rfl⟩
      · go_wp2_with fail
        go_meet
        exact ⟨_, rfl, ex_le _ _ _, rfl⟩
    · go_wp2_with fail
      all_goals first
        | (exfalso; omega)
        | (go_meet; exact ⟨_, rfl, Nat.le_refl _, rfl⟩)
  case rest =>
    obtain ⟨R, rfl, HR, rfl⟩ := hcut
    have hr := HR.out
    by_cases h0 : R.size = 0
    · go_wp2_with fail
      go_ret
      exact ⟨⟨R, rfl, hr⟩, HB.out⟩
    · have n0 : ¬ ((R.size : Int) = 0) := by omega
      go_upto_if 29 with fail
      go_cut [5] (fun s5 wx => ∃ q : Nat, s5 = .int .i64 (q : Int) ∧ q < R.size ∧ wx = wc)
      case first =>
        have m1 := Int.lt_tmod_of_pos p (b := (R.size : Int)) (by omega)
        have m2 := Int.tmod_lt_of_pos p (b := (R.size : Int)) (by omega)
        obtain ⟨y, hy⟩ : ∃ y, p.tmod (R.size : Int) = y := ⟨_, rfl⟩
        rw [hy] at m1 m2
        by_cases hn : y < 0
        · obtain ⟨q, hq⟩ : ∃ q : Nat, y + (R.size : Int) = (q : Int) := ⟨(y + (R.size : Int)).toNat, by omega⟩
          go_wp2_with fail
          go_meet
          exact ⟨q, by go_num, by omega, rfl⟩
        · obtain ⟨q, rfl⟩ : ∃ q : Nat, y = (q : Int) := ⟨y.toNat, by omega⟩
          go_wp2_with fail
          go_meet
          exact ⟨q, rfl, by omega, rfl⟩
      case rest =>
        obtain ⟨q, rfl, hq, rfl⟩ := hcut
        have k1 : (0 : Int) ≤ (q : Int) := by omega
        have k2 : (q : Int) < (R.size : Int) := by omega
        have k3 : (q : Int) ≤ (R.size : Int) := by omega
        have k4 : (0 : Int) ≤ (q : Int) + 1 := by omega
        have k5 : (q : Int) + 1 ≤ (R.size : Int) := by omega
        have k6 : IntKind.i64.wrap ((q : Int) + 1) = (q : Int) + 1 := by rw [IntKind.wrap_i64]; omega
        have hcv := fun (x : Int) => run_convert_bytes_arg (P := Tryd.prog) (wc.alloc (.cells #[.int .u8 x] 5)).drew 63 5 Tryd.underlying63 Tryd.underlying5 wc.heap.size 0 1 1 [x] rfl (fun i hi => by
          obtain rfl : i = 0 := by omega
          simp [go_sem]) 9 Tryd.underlying9
        have hmin : min q R.size = q := by omega
        have hss : ∀ x : Int, (strOfNums [x]).size = 1 := fun x => strOfNums_size [x]
        have s1 : (9223372036854775807 < q + 1) = False := by simp; omega
        have s2 : (9223372036854775807 < q + 1 + (R.size - (q + 1))) = False := by simp; omega
        have s3 : ((q : Int) + 1).toNat = q + 1 := by omega
        go_wp2_with fail
        go_region
        all_goals go_wp2_with fail
        go_ret
        refine ⟨⟨_, rfl, ?_⟩, Below.on HB.out (Below.al (Below.refl _ _) _).drew⟩
        simp only [ByteArray.size_append, ByteArray.size_extract, hss]
        omega

theorem again_back {w : World} {a : Option Addr} {cap : Nat} {xs : List It} (hr : IRow w a xs) (hn : xs.length ≤ 1048576) (hl : (bytesOf xs).length ≤ 1073741824) :
    Calls Tryd.prog 6 #[.slice a xs.length cap, .string (ofNats (bytesOf xs))] w fun e w' => e = .returned (.tuple #[.string (ofNats (bytesOf xs)), .int .i64 0]) ∧ Below w.heap.size w w' := by
  have h := again_any (cap := cap) hr hn (bytesOf_b8 hr) hl
  rw [agL_back (by omega) xs (fun x hx => ⟨(hr.nums x hx).n, (hr.nums x hx).st⟩) (Nat.le_refl _)] at h
  exact h
theorem again_some {w : World} {a : Option Addr} {cap : Nat} {xs : List It} {R : ByteArray} (hr : IRow w a xs) (hn : xs.length ≤ 1048576) (hl : R.size ≤ 1073741824) :
    Calls Tryd.prog 6 #[.slice a xs.length cap, .string R] w fun e w' => (∃ (C : ByteArray) (k : Int), e = .returned (.tuple #[.string C, .int .i64 k]) ∧ ((k = 0 ∧ C = R) ∨ k = 30 ∨ k = 31)) ∧ Below w.heap.size w w' := by
  have h := again_any (cap := cap) (s := nums R) hr hn (nums_b8 R) (by rw [nums_length]; exact hl)
  have hs := agL_sound (N := (nums R).length) xs (nums_b8 R)
  rw [ofNats_nums] at h
  refine h.mono ?_
  rintro e w' ⟨rfl, hb⟩
  refine ⟨⟨_, _, rfl, ?_⟩, hb⟩
  rcases hs with ⟨r, h1, h2⟩ | ⟨e, h1, h2⟩
  · rw [h1]
    cases r with
    | nil =>
      refine .inl ⟨rfl, ?_⟩
      rw [List.append_nil] at h2
      rw [← h2, ofNats_nums]
    | cons y ys => exact .inr (.inr rfl)
  · rw [h1]
    exact .inr h2

set_option maxRecDepth 8000 in
set_option maxHeartbeats 2000000 in
theorem canon_law {w : World} {a : Option Addr} {cap : Nat} {xs : List It} {c p t : Int} (hr : IRow w a xs) (hn : xs.length ≤ 1048576) (hb : bulks xs ≤ 536870912) (hp : PowTab w) (hp1 : -9223372036854775808 ≤ p) (hp2 : p ≤ 9223372036854775807) (hc2 : c ≤ 9223372036854775807) (ht1 : 0 ≤ t) (ht2 : t ≤ 255) :
    Calls Tryd.prog 3 #[.agg #[.slice a xs.length cap, .int .i64 c, .int .i64 p, .int .u8 t]] w fun e w' => e = .returned (.bool true) ∧ Below w.heap.size w w' := by
  have hlen := bytes_bulks (xs := xs) (fun y hy => (hr.nums y hy).n) (by omega)
  obtain ⟨wa, hwa⟩ : ∃ wa, wa = w.alloc (.cells #[.slice a xs.length cap, .int .i64 c, .int .i64 p, .int .u8 t] 24) := ⟨_, rfl⟩
  have hba : Below w.heap.size w wa := by rw [hwa]; exact Below.al (Below.refl _ _) _
  have c0 : wa.cell? ⟨w.heap.size, 0, none⟩ = some (.slice a xs.length cap) := by rw [hwa]; simp [go_sem]
  have c1 : wa.cell? ⟨w.heap.size, 1, none⟩ = some (.int .i64 c) := by rw [hwa]; simp [go_sem]
  have c2 : wa.cell? ⟨w.heap.size, 2, none⟩ = some (.int .i64 p) := by rw [hwa]; simp [go_sem]
  have c3 : wa.cell? ⟨w.heap.size, 3, none⟩ = some (.int .u8 t) := by rw [hwa]; simp [go_sem]
  have hlt : w.heap.size < wa.heap.size := by rw [hwa]; simp
  have HR := hid (hr.later hba)
  have HP := hid (hp.later hba)
  have HLN : Hid ((bytesOf xs).length ≤ 536870912) := (by show _ ≤ _; omega)
  have HBK := hid hb
  have HWA := hid hwa
  have HBA := hid hba
  clear hr hp hb hlen hba hwa
  go_enter Tryd.func3, Tryd.ntmps3
  go_wp2_with fail
  rw [← HWA.out]
  refine (added_any HR.out (by omega) (by have := HBK.out; omega) HP.out).mono ?_
  rintro e w1 ⟨rfl, hb1⟩
  have HB1 := hid hb1
  have d0 := cell_later hb1 c0
  have d1 := cell_later hb1 c1
  have d2 := cell_later hb1 c2
  have d3 := cell_later hb1 c3
  clear hb1 c0 c1 c2 c3
  go_wp2_with fail
  refine (again_back (HR.out.later HB1.out) hn (by have := HLN.out; omega)).mono ?_
  rintro e w2 ⟨rfl, hb2⟩
  have HB2 := hid (Below.on HB1.out hb2)
  have c0 := cell_later hb2 d0
  have c1 := cell_later hb2 d1
  have c2 := cell_later hb2 d2
  have c3 := cell_later hb2 d3
  clear hb2 d0 d1 d2 d3
  obtain ⟨S, hS⟩ : ∃ S, ofNats (bytesOf xs) = S := ⟨_, rfl⟩
  have HSS : Hid (S.size ≤ 536870912) := (by rw [← hS, ofNats_size]; exact HLN.out)
  rw [hS]
  clear hS
  go_wp2_with fail
  refine (spoil_any (by have := HSS.out; omega) hp1 hp2 hc2 ht1 ht2).mono ?_
  rintro e w3 ⟨⟨R, rfl, hR⟩, hb3⟩
  have HB3 := hid (Below.on HB2.out hb3)
  have HRS := hid hR
  have d0 := cell_later hb3 c0
  clear hb3 hR c0 c1 c2 c3
  go_wp2_with fail
  refine (again_some (HR.out.later HB3.out) hn (by have := HSS.out; have := HRS.out; omega)).mono ?_
  rintro e w4 ⟨⟨C, k, rfl, hk⟩, hb4⟩
  have HB4 := hid (Below.on HBA.out (Below.on HB3.out hb4))
  clear hb4
  rcases hk with ⟨rfl, rfl⟩ | rfl | rfl
  all_goals go_wp2_with fail
  all_goals go_ret
  all_goals exact ⟨rfl, HB4.out⟩

end Go.Proofs.YtchfoipkaookmabDoor

namespace Go.Proofs.YtchfoipkaookmabDoor
open Go.ChangeShapes Go.WideShapes Go.ChangeAt Go.RowKit Go.Deep
set_option linter.unusedVariables false

theorem cells_spoilt : Tryd.prog.cellsOf 24 = 4 := by kernel_rfl
theorem cells_items : Tryd.prog.cellsOf 22 = 1 := by kernel_rfl
theorem cells_byte : Tryd.prog.cellsOf 5 = 1 := by kernel_rfl
theorem u8_le {a : Int} (h : (Lit.int .u8 a).wf = true) : 0 ≤ a ∧ a ≤ 255 := by
  simp [Lit.wf, IntKind.min, IntKind.max, IntKind.bits, IntKind.signed] at h; omega
theorem i64_le {a : Int} (h : (Lit.int .i64 a).wf = true) : -9223372036854775808 ≤ a ∧ a ≤ 9223372036854775807 := by
  simp [Lit.wf, IntKind.min, IntKind.max, IntKind.bits, IntKind.signed] at h; omega
theorem list4y {α : Type} {cs : List α} (h : cs.length = 4) : ∃ c0 c1 c2 c3, cs = [c0, c1, c2, c3] := by
  match cs, h with
  | [c0, c1, c2, c3], _ => exact ⟨c0, c1, c2, c3, rfl⟩

theorem opened_wireCanon {H : Type} {enc : TypeId × Value → H} {W : World} {r : Reach} {b : Nat} {v : Value} {d : DataW H} {p : List MemPlace}
    (hv : Value.okWide Tryd.prog W r b 24 v) (h : DataW.Trod enc Tryd.prog W 0 (fun _ => true) true 24 v d p) (hk : Rows.uptoBulk d ≤ 1048576) (hL : laidMetH Tryd.prog theLaid W) :
    Calls Tryd.prog 3 #[v] W fun e w' => e = .returned (.bool true) ∧ Below W.heap.size W w' := by
  obtain ⟨cs, rfl, hs⟩ := okWide_struct Tryd.underlying24 hv
  obtain ⟨fuel, hf⟩ := h
  obtain ⟨ys, n, _, hd, hl, hlen, hfs⟩ := DataW.trod_struct Tryd.underlying24 hf
  rw [cells_spoilt] at hl
  obtain ⟨cs⟩ := cs
  simp only [Value.cells] at hl hfs
  obtain ⟨c0, c1, c2, c3, rfl⟩ := list4y hl
  obtain ⟨y0, y1, y2, y3, rfl⟩ := list4y (cs := ys) (by simpa using hlen)
  have h0 := hfs 0 _ rfl
  have h1 := hfs 1 _ rfl
  have h2 := hfs 2 _ rfl
  have h3 := hfs 3 _ rfl
  obtain ⟨a1, e1, _, w1⟩ := DataW.trod_int Tryd.underlying3 h1
  obtain ⟨a2, e2, _, w2⟩ := DataW.trod_int Tryd.underlying3 h2
  obtain ⟨a3, e3, _, w3⟩ := DataW.trod_int Tryd.underlying5 h3
  have h0' : DataW.trod enc Tryd.prog W 0 (fun _ => true) true n 22 [c0] = some y0 := by
    have e : ([c0, c1, c2, c3].drop 0).take (Tryd.prog.cellsOf 22) = [c0] := by rw [cells_items]; rfl
    have h0'' : DataW.trod enc Tryd.prog W 0 (fun _ => true) true n 22 (([c0, c1, c2, c3].drop 0).take (Tryd.prog.cellsOf 22)) = some y0 := h0
    rw [e] at h0''
    exact h0''
  have hk0 : Rows.uptoBulk y0.1 ≤ 1048576 := by
    have hd' := congrArg Prod.fst hd
    rw [show d = _ from hd'] at hk
    simp only [List.map_cons, List.map_nil, Rows.uptoBulk, Rows.uptoBulkAll] at hk
    omega
  simp [cells_int, cells_byte] at e1 e2 e3
  subst e1 e2 e3
  obtain ⟨a, cap, xs, rfl, hr, hn, hb⟩ := items_cell h0' hk0
  exact canon_law hr hn hb (pow_of hL) (i64_le w2).1 (i64_le w2).2 (i64_le w1).2 (u8_le w3).1 (u8_le w3).2

end Go.Proofs.YtchfoipkaookmabDoor
