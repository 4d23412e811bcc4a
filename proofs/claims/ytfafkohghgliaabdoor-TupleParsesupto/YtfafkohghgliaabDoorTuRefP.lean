import Derived.Test.YtfafkohghgliaabDoorTuRefH
import Derived.Test.YtfafkohghgliaabDoorTuDe
/- The document's Parse. -/
namespace Go.Proofs.YtfafkohghgliaabDoor.Tu
open Go.RowKit Go.Sort Go.Proofs.YtfafkohghgliaabDoor Go.Proofs.YtfafkohghgliaabDoor.Rt Go.Proofs.YtfafkohghgliaabDoor.Gt
set_option linter.unusedVariables false
set_option linter.unusedSectionVars false
variable [DecidableEq Vl]

/-- the word from one place to another -/
def wd (l : List Nat) (f i : Nat) : List Nat := (l.take i).drop f
/-- which words have been taken -/
structure Fx (l : List Nat) (ws : List (List Nat)) (f i : Nat) : Prop where
  le : f ≤ i
  le2 : i ≤ l.length
  is : fld l = ws ++ fld (l.drop f)
  nb : 32 ∉ wd l f i
theorem Fx.zero (l : List Nat) : Fx l [] 0 0 := ⟨Nat.le_refl _, Nat.zero_le _, rfl, by simp [wd]⟩
theorem wd_split {l : List Nat} {f i : Nat} (h : f ≤ i) (h2 : i ≤ l.length) : l.drop f = wd l f i ++ l.drop i := by
  unfold wd
  rw [List.drop_take]
  conv => lhs; rw [← List.take_append_drop (i - f) (l.drop f)]
  rw [List.drop_drop, show f + (i - f) = i by omega]
theorem wd_snoc {l : List Nat} {f i d : Nat} (h : f ≤ i) (hd : l[i]? = some d) : wd l f (i + 1) = wd l f i ++ [d] := by
  have hk : i < l.length := (List.getElem?_eq_some_iff.1 hd).1
  rw [List.getElem?_eq_getElem hk] at hd
  injection hd with hd
  unfold wd
  rw [List.take_succ_eq_append_getElem hk, hd, List.drop_append_of_le_length (by rw [List.length_take]; omega)]
theorem Fx.one {l : List Nat} {ws : List (List Nat)} {f i d : Nat} (h : Fx l ws f i) (hd : l[i]? = some d) (hn : d ≠ 32) : Fx l ws f (i + 1) :=
  ⟨by have := h.le; omega, (List.getElem?_eq_some_iff.1 hd).1, h.is, by
    rw [wd_snoc h.le hd]
    intro e
    rcases List.mem_append.1 e with e | e
    · exact h.nb e
    · simp at e; exact hn e.symm⟩
theorem Fx.cut {l : List Nat} {ws : List (List Nat)} {f i : Nat} (h : Fx l ws f i) (hd : l[i]? = some 32) : Fx l (ws ++ [wd l f i]) (i + 1) (i + 1) := by
  have hk : i < l.length := (List.getElem?_eq_some_iff.1 hd).1
  refine ⟨Nat.le_refl _, hk, ?_, by simp [wd]⟩
  rw [h.is, wd_split h.le h.le2, List.drop_eq_getElem_cons hk]
  have : l[i] = 32 := by rw [List.getElem?_eq_getElem hk] at hd; injection hd
  rw [this, fld_cons _ h.nb]; simp
theorem Fx.fin {l : List Nat} {ws : List (List Nat)} {f : Nat} (h : Fx l ws f l.length) : fld l = ws ++ [wd l f l.length] := by
  rw [h.is, wd_split h.le h.le2, List.drop_length, List.append_nil, fld_one h.nb]
theorem Fx.end' {l : List Nat} {ws : List (List Nat)} {f i : Nat} (h : Fx l ws f i) (e : i = l.length) : fld l = ws ++ [wd l f i] := by subst e; exact h.fin
theorem fld_joinN (l : List Nat) : joinN (fld l) = l.length + 1 := by rw [← join_len (fld_ne l), join_fld]
theorem wd_len (l : List Nat) (f i : Nat) : (wd l f i).length ≤ l.length := by unfold wd; rw [List.length_drop, List.length_take]; omega
theorem wd_b8 {l : List Nat} (h : B8 l) (f i : Nat) : B8 (wd l f i) := fun x hx => h x (List.mem_of_mem_take (List.mem_of_mem_drop hx))
/-- what Parse answers: a row of one's own -/
def Pe (l : List Nat) (w : World) (e : Ending) (w' : World) : Prop := ∃ v, e = .returned (.tuple #[v, .int .i64 (dE (parT l))]) ∧ OwnV w' w.heap.size v ((parT l).getD []) ∧ Below w.heap.size w w'
/-- the words that are heard have texts that are short enough -/
theorem hs_short {l : List Nat} {t : List Vl} (h : Hs (fld l) t) (hl : 64 * (l.length + 1) ≤ 140737488355328) : Sw t ∧ joinN (t.map saidL) ≤ 4611686018427387904 ∧ t.length ≤ 4611686018427387904 := by
  have h1 := h.joinN
  have h2 := fld_joinN l
  have h3 := joinN_count (fld l)
  have h4 := h.len
  refine ⟨fun v hv => ?_, by omega, by omega⟩
  have := h.short v hv
  omega
set_option maxHeartbeats 4000000 in
theorem refparse_nil (w : World) : Calls Tryd.prog 24 #[.string (ofNats [])] w (Pe [] w) := by
  have HE : ∀ w, Hid (Calls Tryd.prog 22 #[.slice none 0 0] w fun e w' => e = .returned (.tuple #[.string ⟨#[]⟩, .int .i64 0]) ∧ Below w.heap.size w w') := fun w =>
    hid (refText_is (t := []) (RowV.nil _ _) OkT.nil (fun v hv => by cases hv) (by decide) (by decide))
  have hsz : (ofNats []).size = 0 := rfl
  have l4 : (ofNats []).toList.isEmpty = true := empty_is []
  have l5 : (ofNats []).toList = [] := by simp [ofNats, ByteArray.toList_eq]
  go_enter Tryd.func24, Tryd.ntmps24
  go_wp2_with fail
  go_loopg [4, 5, 6] 1 (fun g s4 s5 s6 wr => s4 = .slice none 0 0 ∧ s5 = .int .i64 0 ∧ s6 = .int .i64 0 ∧ wr = w)
  case atStart => exact ⟨rfl, rfl, rfl, rfl⟩
  case round =>
    obtain ⟨rfl, rfl, rfl, rfl⟩ := hrel
    go_wp2_with (go_at_call 22; refine (HE _).out.mono ?_; rintro e w2 ⟨rfl, hb2⟩)
    refine bodyPost_ret (v := .tuple #[.slice none 0 0, .int .i64 0]) (by simp [results, Tryd.results24, go_sem]) rfl ⟨.slice none 0 0, rfl, OwnV.nil _ _, hb2⟩
end Go.Proofs.YtfafkohghgliaabDoor.Tu
