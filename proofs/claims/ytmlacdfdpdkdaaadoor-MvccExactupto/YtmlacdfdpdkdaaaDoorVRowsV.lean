import Derived.Test.YtmlacdfdpdkdaaaDoorVLen
import Derived.Test.YtmlacdfdpdkdaaaDoorVInstall
/- Rows of pairs; what a read answers. -/
namespace Go.Proofs.YtmlacdfdpdkdaaaDoor.Vs
open Go.RowKit Go.Sort Go.Shelf
set_option linter.unusedVariables false

abbrev pv (k x : ByteArray) : Value := .agg #[.string k, .string x]
def flatP (l : Prs) : List Value := l.flatMap fun e => [.string e.1, .string e.2]
theorem flatP_snoc (l : Prs) (e : ByteArray × ByteArray) : flatP (l ++ [e]) = flatP l ++ [.string e.1, .string e.2] := by simp [flatP]
theorem flatP_len (l : Prs) : (flatP l).length = l.length * 2 := by
  induction l with
  | nil => rfl
  | cons v vs ih => simp only [flatP, List.flatMap_cons, List.length_append, List.length_cons, List.length_nil] at ih ⊢; omega
theorem flatP_get : ∀ (l : Prs) (i o : Nat), i < l.length → o < 2 → (flatP l)[i * 2 + o]? = [Value.string (nth2 l i).1, .string (nth2 l i).2][o]?
  | [], i, o, h, _ => by simp at h
  | v :: vs, i, o, h, ho => by
    show ([Value.string v.1, .string v.2] ++ flatP vs)[i * 2 + o]? = _
    cases i with
    | zero => rw [List.getElem?_append_left (by simp; omega)]; simp [nth2]
    | succ i =>
      have e : (i + 1) * 2 + o - [Value.string v.1, .string v.2].length = i * 2 + o := by simp; omega
      rw [List.getElem?_append_right (by simp; omega), e, flatP_get vs i o (by simpa using h) ho]
      simp [nth2]
/-- a row of pairs of one's own -/
def OwnP (w : World) (B : Nat) (v : Value) (l : Prs) : Prop := w.ownsRow B 40 2 v l.length (flatP l)
theorem OwnP.later {w w' : World} {B : Nat} {v : Value} {l : Prs} (h : OwnP w B v l) (hb : Below w.heap.size w w') : OwnP w' B v l := owns_keep h fun g hg => hb.block g (World.ownsRow.lt h g hg).2
theorem OwnP.nil (w : World) (B : Nat) : OwnP w B (.slice none 0 0) [] := World.ownsRow_nil _ _ _ _
theorem OwnP.base {w : World} {B B' : Nat} {v : Value} {l : Prs} (h : OwnP w B v l) (hB : B' ≤ B) : OwnP w B' v l := by
  obtain ⟨h1, h2 | ⟨g, cap, cur, hv, hg, r⟩⟩ := h
  · exact ⟨h1, .inl h2⟩
  · exact ⟨h1, .inr ⟨g, cap, cur, hv, Nat.le_trans hB hg, r⟩⟩
theorem OwnP.slice {w : World} {B : Nat} {v : Value} {l : Prs} (h : OwnP w B v l) : ∃ a c, v = .slice a l.length c := owns_slice h
theorem OwnP.row {w : World} {B c : Nat} {a : Option Addr} {l : Prs} (h : OwnP w B (.slice a l.length c) l) : Row2 w a l := fun i hi => by
  have h' := h
  obtain ⟨_, ⟨e, e2⟩ | ⟨g, cap, cur, e, _, hg, _⟩⟩ := h'
  · omega
  · injection e with e1 _ e3
    subst e1 e3
    have hc : ∀ o, o < 2 → w.cell? ⟨g, i * 2 + o, none⟩ = [Value.string (nth2 l i).1, .string (nth2 l i).2][o]? := fun o ho => by
      rw [World.ownsRow.cellAt h _ (by omega), flatP_get l i o hi ho]
    exact ⟨g, 0, rfl, by rw [Nat.zero_add]; exact hc 0 (by omega), by rw [Nat.zero_add]; exact hc 1 (by omega)⟩
theorem OwnP.not {F : Nat → Prop} {w : World} {p B : Nat} {M : Mst} {mk : Sp} {v : Value} {l : Prs} (h : OwnP w B v l) (hs : Sto F w p M mk) : ∀ g, v.ownBlock = some g → ¬ F g := fun g hg => by
  obtain ⟨_, ⟨rfl, _⟩ | ⟨g', cap, cur, rfl, _, hgb, _⟩⟩ := h
  · simp [Value.ownBlock] at hg
  · obtain rfl : g' = g := by simpa [Value.ownBlock] using hg
    exact hs.not hgb (by rintro (e | e) <;> exact absurd e (by decide))
/-- the store changes, the row stays -/
theorem OwnP.onl {F : Nat → Prop} {w w' : World} {p B : Nat} {M : Mst} {mk : Sp} {v : Value} {l : Prs} (h : OwnP w B v l) (hs : Sto F w p M mk) (ho : Onl F w w') : OwnP w' B v l := owns_onl h ho (h.not hs)
theorem infoPr : (Tryd.prog.info? 40).map (fun i => (i.zero, i.size, i.bytes)) = some (some (pv ⟨#[]⟩ ⟨#[]⟩), 2, 32) := by kernel_rfl
theorem new2P (w : World) (k v : ByteArray) (t : TypeId) : (w.alloc (.cells #[.string k, .string v] t)).cell? ⟨w.heap.size, 0, none⟩ = some (.string k) ∧ (w.alloc (.cells #[.string k, .string v] t)).cell? ⟨w.heap.size, 1, none⟩ = some (.string v) := by
  have h := World.alloc_heap_new w (.cells #[.string k, .string v] t)
  exact ⟨by simp only [World.cell?, h]; rfl, by simp only [World.cell?, h]; rfl⟩
theorem append_P {w : World} {ops : Array Oper} {rest : List Oper} {o : Oper} {a : Act} {Q : Exit → Act → World → Prop} (hg : o.guard = none) (s x : Operand)
    (hop : o.op = Op.call { callee := Callee.builtin Builtin.append, args := #[s, x], argTypes := #[34, 34] }) {B : Nat} {v : Value} {l : Prs} (e : ByteArray × ByteArray) (hs : a.eval s = v) (hown : OwnP w B v l)
    {g : Nat} (hx : a.eval x = .slice (some ⟨g, 0, none⟩) 1 1) (c : w.cell? ⟨g, 0, none⟩ = some (.string e.1) ∧ w.cell? ⟨g, 1, none⟩ = some (.string e.2)) (hl : (l.length + 1) * 64 ≤ 140737488355328) (hB : B ≤ w.heap.size)
    (hK : ∀ v' w', OwnP w' B v' (l ++ [e]) → w.grownBy w' v.ownBlock → wpList Tryd.prog ops Q rest (a.put o.dst v') w') : wpList Tryd.prog ops Q (o :: rest) a w := by
  obtain ⟨i0, hi, hz0, hz1, hz2⟩ := info_ofV infoPr
  refine wpList_append_own _ hg s x 34 hop B 40 i0 (pv ⟨#[]⟩ ⟨#[]⟩) 2 32 Tryd.underlying34 hi hz0 hz1 hz2 rfl (by decide) v l.length (flatP l) hs hown ⟨g, 0, none⟩ 1 1 [.string e.1, .string e.2] hx rfl ?_ ?_ (by unfold maxLen; omega) (by omega) hB ?_
  · intro j u hj
    match j, hj with
    | 0, hj => simp at hj; subst hj; exact c.1
    | 1, hj => simp at hj; subst hj; exact c.2
    | j + 2, hj => simp at hj
  · intro u hu; simp at hu; rcases hu with rfl | rfl <;> rfl
  · intro v' w' ho hgr _
    refine hK v' w' ?_ hgr
    show w'.ownsRow B _ 2 v' (l ++ [e]).length (flatP (l ++ [e]))
    rw [flatP_snoc, List.length_append]
    exact ho
theorem OwnP.grown {w w' : World} {B : Nat} {v : Value} {l : Prs} {a : World} (h : OwnP w B v l) (hg : w.grownBy w' v.ownBlock) (ha : Below B a w) (hB : B ≤ a.heap.size) : Below B a w' :=
  Below.grown ha hg (Nat.le_trans hB ha.size) (fun g hv => (World.ownsRow.lt h g hv).1)

/-- what Read answers -/
def rdE (M : Mst) (mk : Sp) (lo hi : ByteArray) (t : Sp) : Int := if t.lt mk then 90 else if 512 < (readM M lo hi t).length then 142 else 0
def rdL (M : Mst) (mk : Sp) (lo hi : ByteArray) (t : Sp) : Prs := if rdE M mk lo hi t = 0 then readM M lo hi t else []
def rdOf (l : List En) (t : Sp) : Prs := readAll (abs l) t
theorem rdOf_snoc (l : List En) (e : En) (t : Sp) : rdOf (l ++ [e]) t = rdOf l t ++ ((valAt e.2.vs t).map fun x => (e.1, x)).toList := by
  unfold rdOf readAll abs
  rw [List.map_append, List.filterMap_append]
  cases h : valAt e.2.vs t <;> simp [h]
theorem rdOf_some {l : List En} {e : En} {t : Sp} {x : ByteArray} (h : valAt e.2.vs t = some x) : rdOf (l ++ [e]) t = rdOf l t ++ [(e.1, x)] := by rw [rdOf_snoc, h]; rfl
theorem rdOf_none {l : List En} {e : En} {t : Sp} (h : valAt e.2.vs t = none) : rdOf (l ++ [e]) t = rdOf l t := by rw [rdOf_snoc, h]; simp
theorem rdOf_range (m : List En) (lo hi : ByteArray) (t : Sp) : rdOf (rangeX m lo hi) t = readM (abs m) lo hi t := by unfold rdOf readM; rw [abs_range]
theorem rdOf_prefix {l m : List En} (h : l <+: m) (t : Sp) : (rdOf l t).length ≤ (rdOf m t).length := by
  obtain ⟨r, rfl⟩ := h
  unfold rdOf readAll abs
  rw [List.map_append, List.filterMap_append, List.length_append]; omega
theorem below_keepsFrom {W W' : World} (B : Nat) (h : Below W.heap.size W W') : KeepsFrom B W W' :=
  ⟨h.size, fun k o _ hk _ => (h.block k (Array.getElem?_eq_some_iff.1 hk).1).trans hk⟩
end Go.Proofs.YtmlacdfdpdkdaaaDoor.Vs
namespace Go.Proofs.YtmlacdfdpdkdaaaDoor.Vs
open Go.RowKit Go.Sort Go.Shelf
set_option linter.unusedVariables false
attribute [local go_sem] Oper.semAt_some

theorem own_box {W : World} {n₀ B : Nat} {t e : TypeId} {size k : Nat} {v u u' : Value} {xs : List Value} (h : W.ownsRow n₀ e size v k xs) (hb : Boxed W B t u) (hte : t ≠ e) : (W.setCell ⟨B, 0, none⟩ u').ownsRow n₀ e size v k xs :=
  h.kept (grownBy_setCell' W B u') (.inr (hb.not_row hte h).symm)
/-- while the loop goes on -/
def RdI (wS : World) (n₀ b2 b3 bp : Nat) (t : Sp) {E : List En} (pre : List (Of E)) (W : World) : Prop :=
  (∃ v, Boxed W bp 34 v ∧ W.ownsRow n₀ 40 2 v (rdOf (pre.map (fun x => x.1)) t).length (flatP (rdOf (pre.map (fun x => x.1)) t)) ∧ (rdOf (pre.map (fun x => x.1)) t).length ≤ 512) ∧
  (Boxed W b2 34 (.slice none 0 0) ∧ Boxed W b3 25 (.int .i64 0)) ∧ Below wS.heap.size wS W
/-- it is left -/
def RdX (wS : World) (b2 b3 : Nat) (t : Sp) {E : List En} (c : Code) (pre : List (Of E)) (W : World) : Prop :=
  ((c = .ret ∧ 512 < (rdOf (pre.map (fun x => x.1)) t).length) ∧ Boxed W b2 34 (.slice none 0 0) ∧ Boxed W b3 25 (.int .i64 142)) ∧ Below wS.heap.size wS W
theorem rdI_own {wS : World} {n₀ b2 b3 bp Q : Nat} {t : Sp} {E : List En} (hq : wS.heap.size ≤ Q) : OwnFrom Q (RdI wS n₀ b2 b3 bp t (E := E)) :=
  OwnFrom.and (Own.from (holdsRow_own n₀ bp 34 40 2 (fun pre : List (Of E) => (rdOf (pre.map (fun x => x.1)) t).length) (fun pre => flatP (rdOf (pre.map (fun x => x.1)) t)) (fun pre _ => (rdOf (pre.map (fun x => x.1)) t).length ≤ 512)) _)
    (OwnFrom.and (OwnFrom.and (Own.from (boxed_own _ _ (fun _ => _)) _) (Own.from (boxed_own _ _ (fun _ => _)) _)) (ownFrom_below (Nat.le_refl _) hq))
theorem rdX_own {wS : World} {b2 b3 Q : Nat} {t : Sp} {E : List En} (c : Code) (hq : wS.heap.size ≤ Q) : OwnFrom Q (RdX wS b2 b3 t (E := E) c) :=
  OwnFrom.and (OwnFrom.and (ownFrom_pure _ _) (OwnFrom.and (Own.from (boxed_own _ _ (fun _ => _)) _) (Own.from (boxed_own _ _ (fun _ => _)) _))) (ownFrom_below (Nat.le_refl _) hq)

set_option maxRecDepth 100000 in
set_option maxHeartbeats 2000000 in
theorem read_is {F : Nat → Prop} {w : World} {p o : Nat} {ty : TypeId} {M : Mst} {mk : Sp} (h : StoG F w p o ty M mk) (lo hi : ByteArray) (t : Sp) (hn : countM M ≤ 268435456) :
    Calls Tryd.prog 6 #[.pointer (some ⟨p, o, none⟩), .agg #[.string lo, .string hi], sv t] w fun e w' => ∃ v, e = .returned (.tuple #[v, .int .i64 (rdE M mk lo hi t)]) ∧ OwnP w' w.heap.size v (rdL M mk lo hi t) ∧ Below w.heap.size w w' := by
  obtain ⟨m, h, rfl⟩ := h
  refine (callsIn_wide (n := 5)).1 ?_
  obtain ⟨wS, hwS⟩ : ∃ wS, wS = (w.alloc (.cells #[.string lo, .string hi] 38)).alloc (.cells #[.int .u64 t.a, .int .u32 t.b, .int .u32 t.c] 33) := ⟨_, rfl⟩
  have hbS : Below w.heap.size w wS := by rw [hwS]; exact Below.al (Below.al (Below.refl _ _) _) _
  have hsz : wS.heap.size = w.heap.size + 1 + 1 := by rw [hwS]; simp
  have kS : wS.heap[w.heap.size]? = some (.cells #[.string lo, .string hi] 38 (0, 0)) := by
    rw [hwS]; exact (Below.heap_alloc _ _ _ (by simp)).trans (World.alloc_heap_new w _)
  have kT : wS.heap[w.heap.size + 1]? = some (.cells #[.int .u64 t.a, .int .u32 t.b, .int .u32 t.c] 33 (0, 0)) := by
    rw [hwS]; have := World.alloc_heap_new (w.alloc (.cells #[.string lo, .string hi] 38)) (.cells #[.int .u64 t.a, .int .u32 t.b, .int .u32 t.c] 33)
    rw [World.size_alloc] at this; exact this
  obtain ⟨wa, hwa⟩ : ∃ wa, wa = (wS.alloc (.cells #[.slice none 0 0] 34)).alloc (.cells #[.int .i64 0] 25) := ⟨_, rfl⟩
  have hba : Below wS.heap.size wS wa := by rw [hwa]; exact Below.al (Below.al (Below.refl _ _) _) _
  have b2 : Boxed wa wS.heap.size 34 (.slice none 0 0) := by rw [hwa]; exact (Boxed.new wS _ _).alloc _
  have b3 : Boxed wa (wS.heap.size + 1) 25 (.int .i64 0) := by
    rw [hwa]; have := Boxed.new (wS.alloc (.cells #[.slice none 0 0] 34)) 25 (.int .i64 0)
    rw [World.size_alloc] at this; exact this
  have ha := h.later (Below.on hbS hba)
  have s0 : wa.cell? ⟨w.heap.size, 0, none⟩ = some (.string lo) := cell_later hba (cell_of_obj kS rfl)
  have s1 : wa.cell? ⟨w.heap.size, 1, none⟩ = some (.string hi) := cell_later hba (cell_of_obj kS rfl)
  have t0 : wa.cell? ⟨w.heap.size + 1, 0, none⟩ = some (.int .u64 t.a) := cell_later hba (cell_of_obj kT rfl)
  have t1 : wa.cell? ⟨w.heap.size + 1, 1, none⟩ = some (.int .u32 t.b) := cell_later hba (cell_of_obj kT rfl)
  have t2 : wa.cell? ⟨w.heap.size + 1, 2, none⟩ = some (.int .u32 t.c) := cell_later hba (cell_of_obj kT rfl)
  have c1 := Sto.c1 ha
  have c2 := Sto.c2 ha
  have c3 := Sto.c3 ha
  have kt0 := cell_regrown t0; have kt1 := cell_regrown t1; have kt2 := cell_regrown t2
  have kc1 := cell_regrown c1; have kc2 := cell_regrown c2; have kc3 := cell_regrown c3
  rw [hsz] at b2 b3
  have H := hid (show _ ∧ _ ∧ _ ∧ _ ∧ _ ∧ _ ∧ _ from ⟨h, hbS, hba, b2, b3, kS, kT⟩)
  have HSZ := hid hsz
  have HN := hid hn
  clear h ha hbS hba hsz kS kT b2 b3 hn
  refine callsIn_of_wp_marks Tryd.func6 rfl trivial ?_ rfl
  simp only [Tryd.ntmps6, List.size_toArray, List.length_cons, List.length_nil, Nat.reduceAdd, Nat.reduceSub, Array.replicate_succ, Array.replicate_zero, List.push_toArray, List.append_toArray, List.nil_append, List.cons_append]
  refine wpIn_wide.2 ?_
  go_wp2_with fail
  rw [← hwS, ← hwa]
  clear hwS hwa
  cases hlt : t.lt mk with
  | true =>
    have hlt' : lessB t.a t.b t.c mk.a mk.b mk.c = true := hlt
    have HE : Hid (rdE (abs m) mk lo hi t = 90) := by show _ = _; unfold rdE; rw [hlt]; rfl
    clear hlt
    refine wp_region_quiet_below (by kernel_rfl) (by kernel_rfl) ?_
    repeat (go_big_quiet_step ((go_at_call 15; exact Calls.regrown_of (less_is (by assumption) _))))
    refine wpQuiet_nil ?_
    intro w1 hw
    replace hw := below_of_regrown hw
    obtain ⟨h, hbS, hba, b2, b3, kS, kT⟩ := H.out
    have b2' : Boxed w1 (w.heap.size + 1 + 1) 34 (.slice none 0 0) := (hw.block _ b2.lt).trans b2
    have b3' : Boxed w1 (w.heap.size + 1 + 1 + 1) 25 (.int .i64 0) := (hw.block _ b3.lt).trans b3
    have d2 := b2'.cell; have f2 := b2'.frozen; have d3 := b3'.cell; have f3 := b3'.frozen
    have hbw : Below w.heap.size w w1 := Below.on (Below.on hbS hba) hw
    have x2 := ((b2'.set (.slice none 0 0)).other (B' := w.heap.size + 1 + 1 + 1) (by omega) (.int .i64 90)).cell
    have x3 := ((b3'.other (B' := w.heap.size + 1 + 1) (by omega) (.slice none 0 0)).set (.int .i64 90)).cell
    have ne1 : (w.heap.size + 1 + 1 + 1 = w.heap.size + 1 + 1) = False := by simp
    clear h hbS hba b2 b3 kS kT kt0 kt1 kt2 kc1 kc2 kc3 t0 t1 t2 c1 c2 c3 s0 s1 hw
    go_wp2_with fail
    refine ⟨.tuple #[.slice none 0 0, .int .i64 90], ?_, .slice none 0 0, by rw [HE.out], ?_, Below.setCell (Below.setCell hbw (by simp; omega) _) (by simp; omega) _⟩
    · simp [results, Tryd.f6, go_sem, x2, x3]
    · unfold rdL; rw [HE.out]; exact OwnP.nil _ _
  | false =>
    have hlt' : lessB t.a t.b t.c mk.a mk.b mk.c = false := hlt
    have HEE : Hid (rdE (abs m) mk lo hi t = if 512 < (readM (abs m) lo hi t).length then 142 else 0) := by show _ = _; unfold rdE; rw [hlt]; rfl
    clear hlt
    refine wp_region_quiet_below (by kernel_rfl) (by kernel_rfl) ?_
    repeat (go_big_quiet_step ((go_at_call 15; exact Calls.regrown_of (less_is (by assumption) _))))
    refine wpQuiet_nil ?_
    intro w1 hw
    replace hw := below_of_regrown hw
    obtain ⟨wb, hwb⟩ : ∃ wb, wb = w1.alloc (.cells #[.slice none 0 0] 34) := ⟨_, rfl⟩
    have hbb : Below wa.heap.size wa wb := by rw [hwb]; exact Below.al hw _
    have bp : Boxed wb w1.heap.size 34 (.slice none 0 0) := by rw [hwb]; exact Boxed.new _ _ _
    have hsl : wa.heap.size ≤ w1.heap.size := hw.size
    have s0 := cell_later hbb s0
    have s1 := cell_later hbb s1
    have RG : Hid (∀ W, Below wb.heap.size wb W → Calls Tryd.prog 18 #[.pointer (some ⟨p, o, none⟩), .agg #[.string lo, .string hi]] W fun e w' => ∃ R B, e = .returned (itv 50 R B) ∧ Hid (It w' R B m lo hi) ∧ Below W.heap.size W w') := fun W hb =>
      (range_is ((H.out.1.later (Below.on (Below.on H.out.2.1 H.out.2.2.1) (Below.on hbb hb))).xi) lo hi).mono fun e w' ⟨R, B, he, hit, hb', _, _⟩ => ⟨R, B, he, hit, hb'⟩
    have HBB := hid hbb
    have HBP := hid bp
    clear kt0 kt1 kt2 kc1 kc2 kc3 t0 t1 t2 c1 c2 c3 hw hbb bp
    go_wp2_with fail
    rw [← hwb]
    clear hwb
    go_region_held3 (fun w' => w'.cell? ⟨w.heap.size, 0, none⟩ = some (.string lo) ∧ w'.cell? ⟨w.heap.size, 1, none⟩ = some (.string hi) ∧ Below wb.heap.size wb w')
      ((refine (fun (hB : Below wb.heap.size wb _) => ⟨cell_later hB s0, cell_later hB s1, hB⟩) ?_; (repeat (first | exact Below.refl _ _ | assumption | refine Below.drew ?_ | refine Below.al ?_ _ | refine Below.setCell ?_ (by first | exact Nat.le_refl _ | (simp; omega) | (simp; done)) _ | refine Below.on ?_ (by assumption)))))
      (first | (go_at_call 18; refine (RG.out _ ?_).mono ?_; ((repeat (first | exact Below.refl _ _ | assumption | refine Below.drew ?_ | refine Below.al ?_ _ | refine Below.setCell ?_ (by first | exact Nat.le_refl _ | (simp; omega) | (simp; done)) _ | refine Below.on ?_ (by assumption)))); rintro e w2 ⟨R, Bs, rfl, hit, hb2⟩))
    have hbc : Below wb.heap.size wb w2 := by (repeat (first | exact Below.refl _ _ | assumption | refine Below.drew ?_ | refine Below.al ?_ _ | refine Below.setCell ?_ (by first | exact Nat.le_refl _ | (simp; omega) | (simp; done)) _ | refine Below.on ?_ (by assumption)))
    clear RG s0 s1
    obtain ⟨h, hbS, hba, b2, b3, kS, kT⟩ := H.out
    have hb02 : Below wa.heap.size wa w2 := Below.on HBB.out hbc
    have b2' : Boxed w2 (w.heap.size + 1 + 1) 34 (.slice none 0 0) := (hb02.block _ b2.lt).trans b2
    have b3' : Boxed w2 (w.heap.size + 1 + 1 + 1) 25 (.int .i64 0) := (hb02.block _ b3.lt).trans b3
    have bp' : Boxed w2 w1.heap.size 34 (.slice none 0 0) := (hbc.block _ HBP.out.lt).trans HBP.out
    have hBS : Below wS.heap.size wS w2 := Below.on hba hb02
    have hl3 := b3.lt
    have hl4 := bp'.lt
    have hszS := HSZ.out
    obtain ⟨E, hE⟩ : ∃ E, rangeX m lo hi = E := ⟨_, rfl⟩
    have hstops := range_stops (5 - 1) hit.out
    rw [hE] at hstops
    have hEm : ∀ e ∈ E, e ∈ m := fun e he => by rw [← hE] at he; exact (List.mem_filter.1 he).1
    have HKT := hid kT
    have HRW : Hid (∀ W, Below wS.heap.size wS W → ∀ z : Of E, Row W z.1.1 z.1.2 ∧ Ris z.1.2.vs ∧ z.1.2.n ≤ 268435456) := fun W hb z => by
      have hz : z.1 ∈ m := hEm _ z.2
      have hr := h.row _ hz
      have hmm : (z.1.1, z.1.2.vs) ∈ abs m := List.mem_map.2 ⟨_, hz, rfl⟩
      refine ⟨hr.later (Below.on hbS hb), (h.good.chain _ hmm).2, ?_⟩
      have h1 := count_mem hmm
      have h2 := hr.len
      have h3 := HN.out
      simp only at h1
      omega
    have HRD : Hid (readM (abs m) lo hi t = rdOf E t) := by show _ = _; rw [← hE, rdOf_range]
    have HXS : Hid (E.length ≤ 268435456) := by
      show _ ≤ _
      have h1 := count_keys h.good
      rw [abs_len] at h1
      have h2 : (rangeX m lo hi).length ≤ m.length := List.length_filter_le _ _
      rw [hE] at h2
      have h3 := HN.out
      omega
    have HBW := hid hbS
    clear hE hit h hbS hba b2 b3 kS kT hb02 H HBB HBP hEm
    go_wp2_with fail
    refine (wpIn_wide (n := 5)).1 ?_
    apply wpIn_rangeFunc_ownG rfl (by decide) (gf := 50) (lb := #[.pointer (some ⟨R, 0, none⟩), .pointer (some ⟨Bs, 0, none⟩)]) rfl trivial (enters_of Tryd.func50 (by kernel_rfl) rfl)
      hstops kp_t kp_b (Below.refl _ _) (fun _ => rfl)
      (RdI wS wS.heap.size (w.heap.size + 1 + 1) (w.heap.size + 1 + 1 + 1) w1.heap.size t) (RdX wS (w.heap.size + 1 + 1) (w.heap.size + 1 + 1 + 1) t) (rdI_own hBS.size) (fun c => rdX_own c hBS.size)
      ⟨⟨_, bp', World.ownsRow_nil _ _ _ _, by simp [rdOf, abs, readAll]⟩, ⟨b2', b3'⟩, hBS⟩
    case hassign =>
      intro y z W K hK
      gi_wp2
      exact hK
    case hbody =>
      rintro y pre z W ⟨⟨u, hv, hrow, hle⟩, ⟨hb2', hb3'⟩, hBw⟩ hlt
      obtain ⟨L, hL⟩ : ∃ L, rdOf (pre.map (fun x => x.1)) t = L := ⟨_, rfl⟩
      rw [hL] at hrow hle
      have hrow : OwnP W wS.heap.size u L := hrow
      obtain ⟨ua, uc, rfl⟩ := hrow.slice
      obtain ⟨hrw, hri, hzn⟩ := HRW.out W hBw z
      have VA := hid (value_is t hrw hri (by omega))
      have hmapz : (pre ++ [z]).map (fun x => x.1) = pre.map (fun x => x.1) ++ [z.1] := by simp
      have hkt := (hBw.block (w.heap.size + 1) (by have := HSZ.out; omega)).trans HKT.out
      have t0 : W.cell? ⟨w.heap.size + 1, 0, none⟩ = some (.int .u64 t.a) := cell_of_obj hkt rfl
      have t1 : W.cell? ⟨w.heap.size + 1, 1, none⟩ = some (.int .u32 t.b) := cell_of_obj hkt rfl
      have t2 : W.cell? ⟨w.heap.size + 1, 2, none⟩ = some (.int .u32 t.c) := cell_of_obj hkt rfl
      cases hval : valAt z.1.2.vs t with
      | none =>
        rw [hval, show valV none = .tuple #[.string ⟨#[]⟩, .bool false] from rfl] at VA
        have HR2 : Hid (rdOf ((pre ++ [z]).map (fun x => x.1)) t = L) := by show _ = _; rw [hmapz, rdOf_none hval, hL]
        have HP := hid (show _ ∧ _ ∧ _ ∧ _ ∧ _ ∧ _ from ⟨hv, hrow, hle, hb2', hb3', hBw⟩)
        clear hrw hri hzn hval hmapz hkt hv hrow hle hb2' hb3' hBw hL
        gi_wp2_with ((try refine ⟨trivial, ?_⟩); gi_at_call 19; refine (CallsIn.inRound y (callsIn_wide.2 VA.out)).mono ?_; rintro e w3 ⟨rfl, hb3⟩)
        obtain ⟨hv, hrow, hle, hb2', hb3', hBw⟩ := HP.out
        refine ⟨below_keepsFrom _ hb3, Kp.of_below hb3, ⟨_, (hb3.block _ hv.lt).trans hv, ?_, ?_⟩, ⟨(hb3.block _ hb2'.lt).trans hb2', (hb3.block _ hb3'.lt).trans hb3'⟩, Below.on hBw hb3⟩
        · rw [HR2.out]; exact hrow.later hb3
        · rw [HR2.out]; exact hle
      | some x =>
        rw [hval, show valV (some x) = .tuple #[.string x, .bool true] from rfl] at VA
        have HR2 : Hid (rdOf ((pre ++ [z]).map (fun x => x.1)) t = L ++ [(z.1.1, x)]) := by show _ = _; rw [hmapz, rdOf_some hval, hL]
        have HP := hid (show _ ∧ _ ∧ _ ∧ _ ∧ _ ∧ _ from ⟨hv, hrow, hle, hb2', hb3', hBw⟩)
        obtain ⟨n, hln⟩ : ∃ n, L.length = n := ⟨_, rfl⟩
        have HLN := hid hln
        rw [hln] at hle
        have HRN : Hid (OwnP W wS.heap.size (.slice ua n uc) L) := by rw [← hln]; exact hrow
        have HVN : Hid (Boxed W w1.heap.size 34 (.slice ua n uc)) := by rw [← hln]; exact hv
        have hsW := hBw.size
        clear hrw hri hzn hval hmapz hkt hv hrow hb2' hb3' hBw hL hln
        by_cases h5 : n = 512
        · have q5 : ((n : Int) == 512) = true := by rw [h5]; rfl
          have H5 := hid h5
          clear h5
          gi_wp2_with ((try refine ⟨trivial, ?_⟩); gi_at_call 19; refine (CallsIn.inRound y (callsIn_wide.2 VA.out)).mono ?_; rintro e w3 ⟨rfl, hb3⟩; have v3 : Boxed w3 w1.heap.size 34 (.slice ua n uc) := (hb3.block _ HVN.out.lt).trans HVN.out; have v3c := v3.cell; have b23 : Boxed w3 (w.heap.size + 1 + 1) 34 (.slice none 0 0) := (hb3.block _ HP.out.2.2.2.1.lt).trans HP.out.2.2.2.1; have b23c := b23.cell; have b23f := b23.frozen; have b33 : Boxed w3 (w.heap.size + 1 + 1 + 1) 25 (.int .i64 0) := (hb3.block _ HP.out.2.2.2.2.1.lt).trans HP.out.2.2.2.2.1; have b33c := b33.cell; have b33f := b33.frozen)
          obtain ⟨hv, hrow, hle, hb2', hb3', hBw⟩ := HP.out
          refine ⟨(below_keepsFrom _ hb3).trans (((KeepsOthers.setCell _ _ _).trans (KeepsOthers.setCell _ _ _)).from _), ⟨⟨rfl, ?_⟩, (b23.set _).other (by omega) _, (b33.other (by omega) _).set _⟩, Below.setCell (Below.setCell (Below.on hBw hb3) (by have := HSZ.out; show _ ≤ w.heap.size + 1 + 1; omega) _) (by have := HSZ.out; show _ ≤ w.heap.size + 1 + 1 + 1; omega) _⟩
          rw [HR2.out, List.length_append, HLN.out, H5.out, List.length_singleton]; decide
        · have q5 : ((n : Int) == 512) = false := by rw [beq_eq_false_iff_ne]; omega
          have g1 : n + 1 ≤ maxLen := by unfold maxLen; omega
          have g2 : (n + 1) * 32 ≤ 140737488355328 := by omega
          have hn5 : n + 1 ≤ 512 := by omega
          obtain ⟨i0, hi0, hz0, hz1, hz2⟩ := info_ofV infoPr
          have hF0 : wS.heap.size ≤ W.heap.size := hsW
          have hF1 : wS.heap.size ≤ w1.heap.size := by have := HSZ.out; omega
          have hF2 : w.heap.size + 1 + 1 ≠ w1.heap.size := by omega
          have hF3 : w.heap.size + 1 + 1 + 1 ≠ w1.heap.size := by omega
          clear h5
          gi_wp2_with (first
            | ((try refine ⟨trivial, ?_⟩); gi_at_call 19; refine (CallsIn.inRound y (callsIn_wide.2 VA.out)).mono ?_; rintro e w3 ⟨rfl, hb3⟩; have v3 : Boxed w3 w1.heap.size 34 (.slice ua n uc) := (hb3.block _ HVN.out.lt).trans HVN.out; have v3c := v3.cell; have v3f := v3.frozen; have r3 : w3.ownsRow wS.heap.size 40 2 (.slice ua n uc) n (flatP L) := (by have := HRN.out.later hb3; unfold OwnP at this; rw [HLN.out] at this; exact this); have hs3 := hb3.size)
            | (gi_at_builtin; refine wpListIn_append_own _ rfl _ _ 34 rfl wS.heap.size 40 i0 (pv ⟨#[]⟩ ⟨#[]⟩) 2 32 Tryd.underlying34 hi0 hz0 hz1 hz2 rfl (by decide) (.slice ua n uc) n (flatP L) rfl (r3.alloc _) ⟨w3.heap.size, 0, none⟩ 1 1 [.string z.1.1, .string x] rfl rfl (World.news_of_block (World.alloc_heap_new w3 (.cells #[.string z.1.1, .string x] 40))) (by intro u hu; simp at hu; rcases hu with rfl | rfl <;> rfl) g1 g2 (by simp; omega) ?_; intro v' w4 hown' hgrow _; obtain ⟨g', cap', rfl⟩ := ownsRow_succ hown'; have hkp := kp_appended (v' := .slice (some ⟨g', 0, none⟩) (n + 1) cap') v3 r3 hgrow (not_ixt rfl) (not_ixt rfl); obtain ⟨hv1, hv2, hr2, hk2, hb4⟩ := v3.appended (by decide) r3 (by omega) (by omega) hown' hgrow; have hc1 := hv1.cell; have hf1 := hv1.frozen))
          obtain ⟨hv, hrow, hle, hb2', hb3', hBw⟩ := HP.out
          have k2 : Boxed w3 (w.heap.size + 1 + 1) 34 (.slice none 0 0) := (hb3.block _ hb2'.lt).trans hb2'
          have k3 : Boxed w3 (w.heap.size + 1 + 1 + 1) 25 (.int .i64 0) := (hb3.block _ hb3'.lt).trans hb3'
          have k2' := ((k2.alloc (.cells #[.string z.1.1, .string x] 40)).kept hgrow (k2.not_row (by decide) r3)).other hF2 (.slice (some ⟨g', 0, none⟩) (n + 1) cap')
          have k3' := ((k3.alloc (.cells #[.string z.1.1, .string x] 40)).kept hgrow (k3.not_row (by decide) r3)).other hF3 (.slice (some ⟨g', 0, none⟩) (n + 1) cap')
          refine ⟨(below_keepsFrom _ hb3).trans (hk2.from _), (Kp.of_below hb3).trans hkp, ⟨_, hv2, ?_, ?_⟩, ⟨k2', k3'⟩, (Below.on hBw hb3).trans hb4⟩
          · rw [HR2.out, flatP_snoc, List.length_append, HLN.out]; exact hr2
          · rw [HR2.out, List.length_append, HLN.out]; exact hn5
    case hdone =>
      rintro D ys W hD hys ⟨⟨u, hv, hrow, hle⟩, ⟨hb2', hb3'⟩, hBw⟩ hK
      rw [hys] at hrow hle
      have hrow : OwnP W wS.heap.size u (rdOf E t) := hrow
      obtain ⟨ua, uc, rfl⟩ := hrow.slice
      obtain ⟨n, hln⟩ : ∃ n, (rdOf E t).length = n := ⟨_, rfl⟩
      have HE0 : Hid (rdE (abs m) mk lo hi t = 0) := by show _ = _; rw [HEE.out, HRD.out, if_neg (by omega)]
      rw [hln] at hv
      have HRO := hid hrow
      have HLN := hid hln
      have c := hv.cell
      have d2 := hb2'.cell; have f2 := hb2'.frozen; have d3 := hb3'.cell; have f3 := hb3'.frozen
      have hK' := ((KeepsOthers.setCell W ⟨w.heap.size + 1 + 1, 0, none⟩ (.slice ua n uc)).trans (KeepsOthers.setCell _ ⟨w.heap.size + 1 + 1 + 1, 0, none⟩ (.int .i64 0))).same D _ hK rfl
      have x2 := (boxed_put ((hb2'.set (.slice ua n uc)).other (B' := w.heap.size + 1 + 1 + 1) (by omega) (.int .i64 0)) hK' rfl (.deferred none)).cell
      have x3 := (boxed_put ((hb3'.other (B' := w.heap.size + 1 + 1) (by omega) (.slice ua n uc)).set (.int .i64 0)) hK' rfl (.deferred none)).cell
      have HBK : Hid (Below w.heap.size w W) := Below.on HBW.out hBw
      have H23 := hid (And.intro hb2' hb3')
      clear hv hb2' hb3' hBw hrow hln hle
      go_wp2_with fail
      refine ⟨by simp, .inl ⟨_, _, rfl, run_takeDeferred hK', ?_⟩⟩
      refine ⟨.tuple #[.slice ua n uc, .int .i64 0], ?_, .slice ua n uc, by rw [HE0.out], ?_, ?_⟩
      · simp [results, Tryd.f6, go_sem, x2, x3]
      · unfold rdL; rw [if_pos HE0.out, HRD.out]
        have r1 : OwnP W w.heap.size (.slice ua n uc) (rdOf E t) := by rw [← HLN.out]; exact HRO.out.base (by have := HSZ.out; omega)
        have r2 : (W.setCell ⟨w.heap.size + 1 + 1, 0, none⟩ (.slice ua n uc)).ownsRow w.heap.size 40 2 (.slice ua n uc) (rdOf E t).length (flatP (rdOf E t)) := own_box r1 H23.out.1 (by decide)
        have r3 := own_box (u' := .int .i64 0) r2 (H23.out.2.other (B' := w.heap.size + 1 + 1) (by omega) (.slice ua n uc)) (by decide)
        exact ownsRow_putObj r3 _ hK' rfl
      · exact (Below.setCell (Below.setCell HBK.out (by show w.heap.size ≤ w.heap.size + 1 + 1; omega) _) (by show w.heap.size ≤ w.heap.size + 1 + 1 + 1; omega) _).trans (belowK_b (w := w) (Nat.le_refl _) _ D _ _ (by have := HBW.out.size; have := hBS.size; omega) hK' rfl rfl)
    case hstop =>
      rintro D c pre W hD hpre ⟨⟨⟨rfl, h5⟩, hb2', hb3'⟩, hBw⟩ hK
      have x2 := (boxed_put hb2' hK rfl (.deferred none)).cell
      have x3 := (boxed_put hb3' hK rfl (.deferred none)).cell
      have HE0 : Hid (rdE (abs m) mk lo hi t = 142) := by
        show _ = _
        have := rdOf_prefix hpre t
        rw [HEE.out, HRD.out, if_pos (by omega)]
      have HBK : Hid (Below w.heap.size w W) := Below.on HBW.out hBw
      gi_wp2
      refine ⟨by simp, .inl ⟨_, _, rfl, run_takeDeferred hK, ?_⟩⟩
      refine ⟨.tuple #[.slice none 0 0, .int .i64 142], ?_, .slice none 0 0, by rw [HE0.out], ?_, ?_⟩
      · simp [results, Tryd.f6, go_sem, x2, x3]
      · unfold rdL; rw [HE0.out]; exact OwnP.nil _ _
      · exact HBK.out.trans (belowK_b (w := w) (Nat.le_refl _) W D _ _ (by have := HBW.out.size; have := hBS.size; omega) hK rfl rfl)
end Go.Proofs.YtmlacdfdpdkdaaaDoor.Vs
/- What a prune does to one key. -/
namespace Go.Proofs.YtmlacdfdpdkdaaaDoor.Vs
open Go.RowKit Go.Sort
set_option linter.unusedVariables false

theorem flatV_drop (k : ByteArray) : ∀ (vs : List Ver) (n : Nat), flatV k (vs.drop n) = (flatV k vs).drop (n * 6)
  | vs, 0 => by simp
  | [], n + 1 => by simp [flatV]
  | v :: vs, n + 1 => by
    rw [List.drop_succ_cons, flatV_drop k vs n]
    show _ = ([Value.string k, .int .u64 v.s.a, .int .u32 v.s.b, .int .u32 v.s.c, .bool v.del, .string v.val] ++ flatV k vs).drop ((n + 1) * 6)
    rw [List.drop_append]
    have e : (n + 1) * 6 - [Value.string k, .int .u64 v.s.a, .int .u32 v.s.b, .int .u32 v.s.c, .bool v.del, .string v.val].length = n * 6 := by simp; omega
    have h1 : List.drop ((n + 1) * 6) [Value.string k, .int .u64 v.s.a, .int .u32 v.s.b, .int .u32 v.s.c, .bool v.del, .string v.val] = [] := List.drop_of_length_le (by simp only [List.length_cons, List.length_nil]; omega)
    rw [e, h1, List.nil_append]
theorem flatV_one (k : ByteArray) (vs : List Ver) : ∀ u ∈ flatV k vs, u.oneCell' = true := fun u hu => by
  obtain ⟨v, _, hv⟩ := List.mem_flatMap.1 hu
  simp at hv
  rcases hv with rfl | rfl | rfl | rfl | rfl | rfl <;> rfl
theorem Row.news {w : World} {k : ByteArray} {h : Hd} (r : Row w k h) (n : Nat) : ∀ j u, (flatV k (h.vs.drop n))[j]? = some u → w.cell? ((⟨h.g, n * 6, none⟩ : Addr).add j) = some u := fun j u hj => by
  have hadd : (⟨h.g, n * 6, none⟩ : Addr).add j = ⟨h.g, n * 6 + j, none⟩ := by
    unfold Addr.add
    split
    · rename_i h0; rw [h0, Nat.add_zero]
    · rfl
  rw [flatV_drop, List.getElem?_drop] at hj
  have hl := flatV_len k h.vs
  have := (List.getElem?_eq_some_iff.1 hj).1
  rw [hadd, r.own.cellAt _ (by rw [← r.len]; omega)]
  exact hj

theorem chain_nil (a : Addr) (q c : Nat) (w : World) : (binOp .eql 69 (.slice (some a) q c) (.slice none 0 0)).run Tryd.prog w = .ok (.bool false) w := by
  kernel_rfl
set_option maxRecDepth 8000 in
theorem clone_is {w : World} {k : ByteArray} {h : Hd} {n : Nat} (r : Row w k h) (hn : n < h.n) (hb : (h.n + 1) * 64 ≤ 140737488355328) :
    Calls Tryd.prog 85 #[.slice (some ⟨h.g, n * 6, none⟩) (h.n - n) (h.cap - n)] w fun e w' => ∃ hd : Hd, e = .returned (.slice (some ⟨hd.g, 0, none⟩) hd.n hd.cap) ∧ Row w' k hd ∧ hd.vs = h.vs.drop n ∧ w.heap.size ≤ hd.g ∧ Below w.heap.size w w' := by
  obtain ⟨i0, hi, hz0, hz1, hz2⟩ := info_ofV infoVr
  have hba : Below w.heap.size w (w.alloc (.cells #[] 76)) := Below.al (Below.refl _ _) _
  have HO : Hid ((w.alloc (.cells #[] 76)).ownsRow 0 76 6 (.slice (some ⟨w.heap.size, 0, none⟩) 0 0) 0 []) := World.ownsRow_made w #[] 0 (Nat.zero_le _) (Nat.zero_le _) rfl
  have HN := hid ((r.later hba).news n)
  have hlen : (flatV k (h.vs.drop n)).length = (h.n - n) * 6 := by rw [flatV_len, List.length_drop, r.len]
  have HL := hid hlen
  have HD : Hid ((h.vs.drop n).length = h.n - n) := by show _ = _; rw [List.length_drop, r.len]
  have hmax : 0 + (h.n - n) ≤ maxLen := by unfold maxLen; omega
  have hbb : (0 + (h.n - n)) * 56 ≤ 140737488355328 := by omega
  obtain ⟨q, hq⟩ : ∃ q, q = h.n - n := ⟨_, rfl⟩
  have hq0 : 0 < q := by omega
  obtain ⟨c, hc⟩ : ∃ c, c = h.cap - n := ⟨_, rfl⟩
  rw [← hq] at HL HD hmax hbb ⊢
  rw [← hc]
  have HBA := hid hba
  have HM := hid (And.intro hmax hbb)
  have hnil := chain_nil ⟨h.g, n * 6, none⟩ q c w
  clear r hn hb hq hc hlen hmax hbb hba
  go_enter Tryd.func85, Tryd.ntmps85
  go_wp2_with (at_builtin; refine wpList_append_lies _ rfl _ _ 69 rfl 0 76 i0 (vv ⟨#[]⟩ ⟨⟨0, 0, 0⟩, false, ⟨#[]⟩⟩) 6 56 Tryd.underlying69 hi hz0 hz1 hz2 rfl (by decide) (.slice (some ⟨w.heap.size, 0, none⟩) 0 0) 0 [] rfl HO.out ⟨h.g, n * 6, none⟩ q c (flatV k (h.vs.drop n)) rfl HL.out HN.out (flatV_one k _) hq0 HM.out.1 HM.out.2 (Nat.zero_le _) _ rfl ?_; intro g cap' w3 hown hgrow hat hlt3)
  go_ret
  refine ⟨⟨g, q, cap', h.vs.drop n⟩, by simp, ⟨by simpa using hown, HD.out⟩, rfl, ?_, HBA.out.trans ((grown_onl hgrow).below (fun b hb => ?_) (by simp))⟩
  · rcases hat with e | e
    · have : w.heap.size = g := by simpa [Value.ownBlock] using e
      show w.heap.size ≤ g
      omega
    · show w.heap.size ≤ g
      rw [e]; simp
  · have : w.heap.size = b := by simpa [Value.ownBlock] using hb
    omega

theorem without_is' {w : World} {k : ByteArray} {h : Hd} {n : Nat} (r : Row w k h) (hn : n < h.n) (hb : (h.n + 1) * 64 ≤ 140737488355328) :
    Calls Tryd.prog 80 #[.slice (some ⟨h.g, 0, none⟩) h.n h.cap, .int .i64 n] w fun e w' => ∃ hd : Hd, e = .returned (.slice (some ⟨hd.g, 0, none⟩) hd.n hd.cap) ∧ Row w' k hd ∧ hd.vs = h.vs.drop n ∧ w.heap.size ≤ hd.g ∧ Below w.heap.size w w' := by
  have CL := hid (clone_is r hn hb)
  have hcap : h.n ≤ h.cap ∧ h.cap ≤ maxLen := by
    obtain ⟨_, ⟨e, _⟩ | ⟨g, cap, cur, e, _, _, h1, h2, _⟩⟩ := r.own
    · cases e
    · injection e with _ _ e3; rw [e3]; exact ⟨h1, h2⟩
  obtain ⟨g, q, cap, vs⟩ := h
  simp only at CL hn hb hcap ⊢
  have hc1 := hcap.1
  have hc2 : cap ≤ 9223372036854775807 := by have := hcap.2; unfold maxLen at this; omega
  have hne : (cap = n) = False := by simp; omega
  have hne2 : (cap - n = 0) = False := by simp; omega
  clear r hcap
  go_enter Tryd.func80, Tryd.ntmps80
  go_wp2_with (go_at_call 85; refine CL.out.mono ?_; rintro e w1 ⟨hd, rfl, h1, h2, h3, h4⟩)
  go_ret
  exact ⟨hd, rfl, h1, h2, h3, h4⟩
end Go.Proofs.YtmlacdfdpdkdaaaDoor.Vs
/- Rows of versions. -/
namespace Go.Proofs.YtmlacdfdpdkdaaaDoor.Vs
open Go.RowKit Go.Sort Go.Shelf
set_option linter.unusedVariables false

def flatK (l : List Kv) : List Value := l.flatMap fun e => [.string e.1, .int .u64 e.2.s.a, .int .u32 e.2.s.b, .int .u32 e.2.s.c, .bool e.2.del, .string e.2.val]
theorem flatK_append (l m : List Kv) : flatK (l ++ m) = flatK l ++ flatK m := by simp [flatK]
theorem flatK_chain (k : ByteArray) (vs : List Ver) : flatK (vs.map fun v => (k, v)) = flatV k vs := by
  unfold flatK flatV; rw [List.flatMap_map]
theorem flatK_len (l : List Kv) : (flatK l).length = l.length * 6 := by
  induction l with
  | nil => rfl
  | cons v vs ih => simp only [flatK, List.flatMap_cons, List.length_append, List.length_cons, List.length_nil] at ih ⊢; omega
theorem flatK_get : ∀ (l : List Kv) (i o : Nat), i < l.length → o < 6 → (flatK l)[i * 6 + o]? = [Value.string (nthK l i).1, .int .u64 (nthK l i).2.s.a, .int .u32 (nthK l i).2.s.b, .int .u32 (nthK l i).2.s.c, .bool (nthK l i).2.del, .string (nthK l i).2.val][o]?
  | [], i, o, h, _ => by simp at h
  | v :: vs, i, o, h, ho => by
    show ([Value.string v.1, .int .u64 v.2.s.a, .int .u32 v.2.s.b, .int .u32 v.2.s.c, .bool v.2.del, .string v.2.val] ++ flatK vs)[i * 6 + o]? = _
    cases i with
    | zero => rw [List.getElem?_append_left (by simp; omega)]; simp [nthK]
    | succ i =>
      have e : (i + 1) * 6 + o - [Value.string v.1, .int .u64 v.2.s.a, .int .u32 v.2.s.b, .int .u32 v.2.s.c, .bool v.2.del, .string v.2.val].length = i * 6 + o := by simp; omega
      rw [List.getElem?_append_right (by simp; omega), e, flatK_get vs i o (by simpa using h) ho]
      simp [nthK]
theorem flatK_one (l : List Kv) : ∀ u ∈ flatK l, u.oneCell' = true := fun u hu => by
  obtain ⟨v, _, hv⟩ := List.mem_flatMap.1 hu
  simp at hv
  rcases hv with rfl | rfl | rfl | rfl | rfl | rfl <;> rfl
/-- a row of versions -/
def RowV (w : World) (a : Option Addr) (l : List Kv) : Prop := ∀ i, i < l.length → ∃ b off, a = some ⟨b, off, none⟩ ∧ VerAt w b (off + i * 6) (nthK l i).1 (nthK l i).2
theorem RowV.later {w w' : World} {a : Option Addr} {l : List Kv} (h : RowV w a l) (hb : Below w.heap.size w w') : RowV w' a l := fun i hi => by
  obtain ⟨b, off, e, c⟩ := h i hi
  exact ⟨b, off, e, c.later hb⟩
theorem VerAt.onl {F : Nat → Prop} {w w' : World} {g o : Nat} {k : ByteArray} {v : Ver} (h : VerAt w g o k v) (ho : Onl F w w') (hg : ¬ F g) : VerAt w' g o k v :=
  ⟨ho.cell hg h.c0, ho.cell hg h.c1, ho.cell hg h.c2, ho.cell hg h.c3, ho.cell hg h.c4, ho.cell hg h.c5⟩
theorem RowV.onl {F : Nat → Prop} {w w' : World} {a : Option Addr} {l : List Kv} (h : RowV w a l) (ho : Onl F w w') (hF : ∀ b off, a = some ⟨b, off, none⟩ → ¬ F b) : RowV w' a l := fun i hi => by
  obtain ⟨b, off, e, c⟩ := h i hi
  exact ⟨b, off, e, c.onl ho (hF b off e)⟩
/-- a row of versions of one's own -/
def OwnV (w : World) (B : Nat) (v : Value) (l : List Kv) : Prop := w.ownsRow B 76 6 v l.length (flatK l)
theorem OwnV.later {w w' : World} {B : Nat} {v : Value} {l : List Kv} (h : OwnV w B v l) (hb : Below w.heap.size w w') : OwnV w' B v l := owns_keep h fun g hg => hb.block g (World.ownsRow.lt h g hg).2
theorem OwnV.nil (w : World) (B : Nat) : OwnV w B (.slice none 0 0) [] := World.ownsRow_nil _ _ _ _
theorem OwnV.base {w : World} {B B' : Nat} {v : Value} {l : List Kv} (h : OwnV w B v l) (hB : B' ≤ B) : OwnV w B' v l := by
  obtain ⟨h1, h2 | ⟨g, cap, cur, hv, hg, r⟩⟩ := h
  · exact ⟨h1, .inl h2⟩
  · exact ⟨h1, .inr ⟨g, cap, cur, hv, Nat.le_trans hB hg, r⟩⟩
theorem OwnV.slice {w : World} {B : Nat} {v : Value} {l : List Kv} (h : OwnV w B v l) : ∃ a c, v = .slice a l.length c := owns_slice h
theorem OwnV.row {w : World} {B c : Nat} {a : Option Addr} {l : List Kv} (h : OwnV w B (.slice a l.length c) l) : RowV w a l := fun i hi => by
  have h' := h
  obtain ⟨_, ⟨e, e2⟩ | ⟨g, cap, cur, e, _, hg, _⟩⟩ := h'
  · omega
  · injection e with e1 _ e3
    subst e1 e3
    have hc : ∀ o, o < 6 → w.cell? ⟨g, i * 6 + o, none⟩ = [Value.string (nthK l i).1, .int .u64 (nthK l i).2.s.a, .int .u32 (nthK l i).2.s.b, .int .u32 (nthK l i).2.s.c, .bool (nthK l i).2.del, .string (nthK l i).2.val][o]? := fun o ho => by
      rw [World.ownsRow.cellAt h _ (by omega), flatK_get l i o hi ho]
    refine ⟨g, 0, rfl, ?_⟩
    rw [Nat.zero_add]
    exact ⟨hc 0 (by omega), hc 1 (by omega), hc 2 (by omega), hc 3 (by omega), hc 4 (by omega), hc 5 (by omega)⟩
/-- the row lies outside of what changes, for it is newer -/
theorem OwnV.low {w : World} {B : Nat} {a : Option Addr} {n c : Nat} {l : List Kv} (h : OwnV w B (.slice a n c) l) : ∀ b off, a = some ⟨b, off, none⟩ → B ≤ b := fun b off e => by
  obtain ⟨_, ⟨e0, _⟩ | ⟨g, cap, cur, e0, hB, _⟩⟩ := h
  · injection e0 with e1 _ _; rw [e1] at e; cases e
  · injection e0 with e1 _ _; rw [e1] at e; injection e with e; injection e with e2 _; rw [← e2]; exact hB
theorem OwnV.addr_lt {w : World} {B : Nat} {a : Option Addr} {n c : Nat} {l : List Kv} (h : OwnV w B (.slice a n c) l) : ∀ b off, a = some ⟨b, off, none⟩ → b < w.heap.size := fun b off e => by
  have h' := h
  obtain ⟨_, ⟨e0, _⟩ | ⟨g, cap, cur, e0, hB, hg, _⟩⟩ := h'
  · injection e0 with e1 _ _; rw [e1] at e; cases e
  · injection e0 with e1 _ _; rw [e1] at e; injection e with e; injection e with e2 _; rw [← e2]; exact (Array.getElem?_eq_some_iff.1 hg).1
theorem OwnV.onl {F : Nat → Prop} {w w' : World} {B : Nat} {v : Value} {l : List Kv} (h : OwnV w B v l) (ho : Onl F w w') (hF : ∀ g, v.ownBlock = some g → ¬ F g) : OwnV w' B v l := owns_onl h ho hF
theorem OwnV.grown {w w' : World} {B : Nat} {v : Value} {l : List Kv} {a : World} (h : OwnV w B v l) (hg : w.grownBy w' v.ownBlock) (ha : Below B a w) (hB : B ≤ a.heap.size) : Below B a w' :=
  Below.grown ha hg (Nat.le_trans hB ha.size) (fun g hv => (World.ownsRow.lt h g hv).1)
theorem append_V {w : World} {ops : Array Oper} {rest : List Oper} {o : Oper} {a : Act} {Q : Exit → Act → World → Prop} (hg : o.guard = none) (s x : Operand)
    (hop : o.op = Op.call { callee := Callee.builtin Builtin.append, args := #[s, x], argTypes := #[56, 56] }) {B : Nat} {v : Value} {l : List Kv} (e : Kv) (hs : a.eval s = v) (hown : OwnV w B v l)
    {g : Nat} (hx : a.eval x = .slice (some ⟨g, 0, none⟩) 1 1) (c : VerAt w g 0 e.1 e.2) (hl : (l.length + 1) * 64 ≤ 140737488355328) (hB : B ≤ w.heap.size)
    (hK : ∀ v' w', OwnV w' B v' (l ++ [e]) → w.grownBy w' v.ownBlock → wpList Tryd.prog ops Q rest (a.put o.dst v') w') : wpList Tryd.prog ops Q (o :: rest) a w := by
  obtain ⟨i0, hi, hz0, hz1, hz2⟩ := info_ofV infoVr
  refine wpList_append_own _ hg s x 56 hop B 76 i0 (vv ⟨#[]⟩ ⟨⟨0, 0, 0⟩, false, ⟨#[]⟩⟩) 6 56 Tryd.underlying56 hi hz0 hz1 hz2 rfl (by decide) v l.length (flatK l) hs hown ⟨g, 0, none⟩ 1 1 (flatK [e]) hx rfl ?_ (flatK_one _) (by unfold maxLen; omega) (by omega) hB ?_
  · intro j u hj
    have h5 := (List.getElem?_eq_some_iff.1 hj).1
    match j, hj with
    | 0, hj => simp [flatK] at hj; subst hj; exact c.c0
    | 1, hj => simp [flatK] at hj; subst hj; exact c.c1
    | 2, hj => simp [flatK] at hj; subst hj; exact c.c2
    | 3, hj => simp [flatK] at hj; subst hj; exact c.c3
    | 4, hj => simp [flatK] at hj; subst hj; exact c.c4
    | 5, hj => simp [flatK] at hj; subst hj; exact c.c5
    | j + 6, hj => simp [flatK] at hj
  · intro v' w' ho hgr _
    refine hK v' w' ?_ hgr
    show w'.ownsRow B _ 6 v' (l ++ [e]).length (flatK (l ++ [e]))
    rw [flatK_append, List.length_append]
    exact ho

/-- what is appended may be of another slice type -/
theorem append_types {P : Program} {t u e e' ty : TypeId} (ht : P.underlying t = some (.slice e)) (hu : P.underlying u = some (.slice e')) (b b' : Option Addr) (n m c c' : Nat) (w : World) :
    (Builtin.append_ #[t, u] ty #[.slice b n c, .slice b' m c']).run P w = (Builtin.append_ #[t, t] ty #[.slice b n c, .slice b' m c']).run P w := by
  simp [Builtin.append_, run_underlying ht, run_underlying hu]
theorem wpListIn_append_two {F : Fence} {n : Nat} {P : Program} (w : World) {ops : Array Oper} {rest : List Oper} {o : Oper} {a : Act} {Q : Exit → Act → World → Prop}
    (hg : o.guard = none) (s x : Operand) (t t' e' : TypeId) (hop : o.op = Op.call { callee := Callee.builtin Builtin.append, args := #[s, x], argTypes := #[t, t'] })
    (base : Nat) (e : TypeId) (i : TypeInfo) (z : Value) (size bytes : Nat) (h1 : P.underlying t = some (.slice e)) (h1' : P.underlying t' = some (.slice e')) (h2 : P.info? e = some i) (h3 : i.zero = some z) (h4 : i.size = size) (h5 : i.bytes = bytes) (h6 : z.cells.size = size) (h7 : 0 < size)
    (v : Value) (k : Nat) (xs : List Value) (hs : a.eval s = v) (hown : w.ownsRow base e size v k xs) (ad : Addr) (m c : Nat) (news : List Value) (hx : a.eval x = .slice (some ad) m c) (hn : news.length = m * size)
    (hc : ∀ j u, news[j]? = some u → w.cell? (ad.add j) = some u) (h1c : ∀ u ∈ news, u.oneCell' = true) (b1 : k + m ≤ maxLen) (b2 : (k + m) * bytes ≤ 140737488355328) (b3 : base ≤ w.heap.size)
    (hK : ∀ v' w', w'.ownsRow base e size v' (k + m) (xs ++ news) → w.grownBy w' v.ownBlock → (v' = .slice none 0 0 ↔ v = .slice none 0 0 ∧ m = 0) → wpListIn F n P ops Q rest (a.put o.dst v') w') :
    wpListIn F n P ops Q (o :: rest) a w := by
  refine wpListIn_plain hg fun K hK' => ?_
  obtain ⟨v', w', hrun, r1, r2, r3⟩ := run_append_own (P := P) w base t o.type e i z size bytes h1 h2 h3 h4 h5 h6 h7 v k xs hown ad m c news hn hc h1c b1 b2 b3
  obtain ⟨va, vc, rfl⟩ := owns_slice hown
  rw [← append_types h1 h1'] at hrun
  unfold Oper.wpIn
  refine ⟨?_, ?_⟩
  · simp [Oper.about, hop, resolve, Target.leads, Sem.run_pure]
  · rw [Oper.semAt_plain F _ _ (by rw [hop]; intro c hc'; cases hc')]
    simp [execOp, hop, resolve, invoke, builtin, hs, hx, hrun, Result.andThen]
    exact hK' _ _ (hK v' w' r1 r2 r3)
/-- what Dump has gathered -/
def dpOf (l : List En) : List Kv := dumpM (abs l)
theorem dpOf_snoc (l : List En) (e : En) : dpOf (l ++ [e]) = dpOf l ++ e.2.vs.map fun v => (e.1, v) := by simp [dpOf, dumpM, abs]
theorem dpOf_prefix {l m : List En} (h : l <+: m) : (dpOf l).length ≤ (dpOf m).length := by
  obtain ⟨r, rfl⟩ := h
  unfold dpOf dumpM abs
  rw [List.map_append, List.flatMap_append, List.length_append]; omega
end Go.Proofs.YtmlacdfdpdkdaaaDoor.Vs
