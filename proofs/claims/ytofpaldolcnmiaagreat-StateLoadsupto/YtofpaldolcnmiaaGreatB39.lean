import Derived.Sort.LoopGhostIn
import Derived.Test.YtofpaldolcnmiaaGreatB38
import Derived.Test.YtofpaldolcnmiaaGreatB36
set_option linter.unusedVariables false
set_option maxHeartbeats 4000000
namespace Go.Proofs.YtofpaldolcnmiaaGreat
section
open Go.RowKit Go.Sort
theorem bytes_of {w : World} {A : Nat → Prop} {b o : Nat} {bs : List Nat} (h : EncAt w A b o bs) (hl : bs.length ≤ 281474976710656) :
  Calls Tryz.prog 49 #[.pointer (some ⟨b, o, none⟩)] w fun e w' => e = .returned (.string (ofNats bs)) ∧ Below w.heap.size w w' := by
 have hb8 := h.b8; obtain ⟨-, ⟨cs, hcs, hch, -, c0⟩, c1, -⟩ := h; obtain ⟨q, hq⟩ := ptrOf_ptr cs; rw [hq] at c0; have HQ := hid hq; clear hq; have HB := hid hb8; have HCS := hid hcs; have HH := hid hch; have R0 := RoomAt.new w bs 5; have hbl : b < w.heap.size := World.block_lt_of_cell? _ _ c0; obtain ⟨n, hn⟩ : ∃ n, n = bs.length := ⟨_, rfl⟩; have hmk := make_u8 w n n (Nat.le_refl _) (by omega); rw [← hn] at c1 R0; have HN := hid hn; obtain ⟨wa, hwa⟩ : ∃ wa, wa = w.alloc (.cells (madeCells (Value.int .u8 0).cells n) 5) := ⟨_, rfl⟩; rw [← hwa] at R0 hmk; have c0a : wa.cell? ⟨b, o, none⟩ = some (.pointer q) := cell_later R0.below c0; have c1a : wa.cell? ⟨b, o + 1, none⟩ = some (.int .i64 (n : Int)) := cell_later R0.below c1; clear hb8 hcs hch hwa hn; go_enter Tryz.func49, Tryz.ntmps49
 go_wp2_with fail
 go_loopg [4, 5] cs.length (fun g s4 s5 wr => ∃ (cs' : List (Nat × List Nat)) (r : List Nat), g = cs'.length ∧ s4 = .int .i64 ((total cs').length : Int) ∧ s5 = ptrOf cs' ∧ Hid (Chain w cs' ∧ bs = total cs' ++ r ∧ RoomAt w wr n (total cs').length bs))
 case atStart =>
  refine ⟨cs, [], rfl, ?_, ?_, HH.out, ?_, ?_⟩
  ·rw [HCS.out, ← HN.out]
  ·rw [HQ.out]
  ·rw [HCS.out, List.append_nil]
  ·rw [HCS.out, ← HN.out]; exact R0
 case round =>
  obtain ⟨cs', r, rfl, rfl, rfl, H⟩ := hrel; clear R0 hmk c0a c1a c0 c1 hbl; cases cs' with
  | nil =>
   obtain ⟨-, -, hR⟩ := H.out; have hcv := run_convert_bytes_arg (P := Tryz.prog) wr 141 5 Tryz.underlying141 Tryz.underlying5 w.heap.size 0 n n (bs.map Int.ofNat) (by rw [List.length_map, HN.out]) (fun i hi => by
    rw [Nat.zero_add, hR.ins i (Nat.zero_le _) hi]; simp [List.getD]; cases bs[i]? <;> rfl) 9 Tryz.underlying9
   rw [strOfNums_nats] at hcv; have HB1 := hid hR.below; clear hR H HH HCS HQ HN; simp only [ptrOf]; go_wp2_with fail
   go_ret
   exact ⟨rfl, HB1.out⟩
  | cons x cs' =>
   obtain ⟨g, t⟩ := x; obtain ⟨⟨k0, k1, k2, k3⟩, hbs, hR⟩ := H.out; obtain ⟨q', hq'⟩ := ptrOf_ptr cs'; rw [hq'] at k0; have HQ' := hid hq'; clear hq'; have hgR : ¬ g = w.heap.size := by have := World.block_lt_of_cell? _ _ k0; dsimp only at this; omega
   replace k0 := cell_later hR.below k0; replace k1 := cell_later hR.below k1; have hnl : n ≤ 281474976710656 := by rw [HN.out]; exact hl
   obtain ⟨m, hm⟩ : ∃ m, m = (total cs').length := ⟨_, rfl⟩; have hlen : (total ((g, t) :: cs')).length = m + t.length := by rw [total, List.length_append, hm]
   have hbs' : bs = total cs' ++ (t ++ r) := by rw [hbs, total, List.append_assoc]
   have hmn : m + t.length ≤ n := by rw [HN.out, hbs', hm]; simp
   rw [hlen] at hR ⊢; have hR' := hR.fill hbs' (by rw [hm]) HN.out; rw [← hm] at hR'; have hcp := fun ty => run_copy_text (P := Tryz.prog) wr.drew 141 9 ty 5 w.heap.size m (n - m) (n - m) t k2 Tryz.underlying141 Tryz.sizeU8 (by omega) (fun j hj => hR.some' _ (by omega)) (fun j hj => hR.loose _)
   have hts : ((ofNats t).size : Int) = (t.length : Int) := by rw [ons]
   have hsub : IntKind.i64.wrap (((m + t.length : Nat) : Int) - (t.length : Int)) = (m : Int) := by rw [IntKind.wrap_i64]; clear hlen; omega
   obtain ⟨wz, hwz⟩ : ∃ wz, wz = wr.drew.setCells w.heap.size m (vals t) := ⟨_, rfl⟩; rw [← hwz] at hR' hcp; have k0z : wz.cell? ⟨g, 0, none⟩ = some (.pointer q') := by
    rw [hwz, World.cell?_setCells_out _ _ _ _ _ (fun e _ => absurd e hgR)]; exact k0
   have HZ := hid hwz; have HR' := hid hR'; have HB' := hid hbs'; have HM := hid hm; have HK := hid k3; have hglt : g < wr.heap.size := World.block_lt_of_cell? _ _ k0; clear hR hR' hbs' hbs H hm k3 k2 hlen HH HCS HQ hwz; simp only [ptrOf]; obtain ⟨m', hm'⟩ : ∃ m' : Nat, m' = m + t.length := ⟨_, rfl⟩; rw [← hm'] at hsub ⊢; by_cases hlt : m < n
   ·go_wp2_with fail
    go_region
    go_wp2_with fail
    go_roundg cs'.length
    case measure => simp
    case rel =>
     refine ⟨cs', t ++ r, rfl, by rw [HM.out], by rw [HQ'.out], HK.out, HB'.out, ?_⟩; have := HR'.out; rwa [HM.out] at this
   ·have hmn' : m = n := by omega
    have ht0 : t = [] := List.eq_nil_of_length_eq_zero (by omega); subst ht0; have e1 : wz = wr.drew := HZ.out; have hcp0 : ∀ ty a, (Builtin.copy_ #[141, 9] ty #[.slice a 0 0, .string (ofNats [])]).run Tryz.prog wr.drew = .ok (goInt 0) wr.drew := by
     intro ty a; obtain ⟨i0, hi, hz⟩ := Option.map_eq_some_iff.1 Tryz.sizeU8; cases a <;> simp [Builtin.copy_, run_underlying Tryz.underlying141, Builtin.lenOf, Builtin.firstCells, sizeOf, typeInfo, hi, storeCells, ofNats]
    subst hmn'; clear hcp; go_wp2_with fail
    go_region
    go_wp2_with fail
    go_roundg cs'.length
    case measure => simp
    case rel =>
     refine ⟨cs', [] ++ r, rfl, by rw [HM.out], by rw [HQ'.out], HK.out, HB'.out, ?_⟩; have := HR'.out; rw [HM.out] at this; rw [e1] at this; rw [← HM.out] at this ⊢; exact this
end
namespace Lg
open Go.RowKit Go.Sort Go.Shelf Go.Lib Lk
theorem swo_T {α : Type} (f : α → Ix) : SWO (ltOf fun x y => cmpT (f x) (f y)) where
 irrefl x := by show decide (_ < _) = _; rw [cmp_lt]; simp [ltI]
 trans x y z h1 h2 := by
  change decide (_ < _) = _ at h1 h2 ⊢
  rw [cmp_lt] at *; simp only [ltI, Bool.or_eq_true, Bool.and_eq_true, decide_eq_true_eq] at *; omega
 ntrans x y z h1 h2 := by
  change decide (_ < _) = _ at h1 h2 ⊢
  rw [cmp_lt] at *; simp only [ltI, Bool.or_eq_false_iff, Bool.and_eq_false_iff, decide_eq_false_iff_not] at *; omega
theorem enCmp (f : Nat) (cf : En → En → Int) (hc : ∀ (x y : En) (W : World), Calls Tryz.prog f #[x.val, y.val] W fun e w' => e = .returned (.int .i64 (cf x y)) ∧ ∃ q os, w' = grow (W.drewN q) os) {w : World} {B n : Nat} {a : Option Addr} {c : Nat} {U : List En} (swo : SWO (ltOf cf))
  (eg : ∀ args w, (callFunc f args).run Tryz.prog w = .ok (.enter f args) w) (h : OwnL B w (.slice a n c) n U) (hn : U.length = n) (hl : n < 4611686018427387904) :
  Calls Tryz.prog 179 #[.slice a n c, .func (.func f) #[] #[]] w fun e w' => e = .returned (.tuple #[]) ∧
   ∃ U', U'.Perm U ∧ U'.Pairwise (fun x y => decide (cf y x < 0) = false) ∧ OwnL B w' (.slice a n c) n U' ∧ Onl (fun b => (Value.slice a n c).ownBlock = some b) w w' := by
 by_cases h0 : n = 0
 ·letI : Inhabited En := ⟨En.zero⟩
  subst h0; have e : U = [] := List.eq_nil_of_length_eq_zero hn; subst e; have hcon := AnyF.slices_SortFunc_none { Tryz.sortE with } a c (.func (.func f) #[] #[]) w; change Calls Tryz.prog 179 _ _ _ at hcon
  refine hcon.mono ?_; rintro e w' ⟨rfl, rfl⟩; exact ⟨rfl, [], List.Perm.refl _, by simp, h, Onl.refl _ _⟩
 ·letI : Inhabited En := ⟨En.zero⟩
  obtain ⟨g, rfl, _, _⟩ := own_cells h (by omega); have hlt : g < w.heap.size := (h.lt g rfl).2; have hcmp : CmpLays Tryz.prog f #[] ecs 7 cf g 0 U.toArray.size w := fun _ _ _ _ x y => hc x y _
  have hcon := AnyQ.slices_SortFunc Tryz.sortE 7 Tryz.isAgg104 Tryz.sizeOf104 ecs ecs_len ecs_one cf swo f #[] g 0 c U.toArray w eg hcmp (holds_row ecs_len (by decide) h) hlt (by simpa [hn] using hl); change Calls Tryz.prog 179 _ _ _ at hcon
  simp only [List.size_toArray, hn] at hcon; refine hcon.mono ?_; rintro e w' ⟨rfl, d', m, os, hp, hs, rfl⟩; have hp' : PermIn 0 U.toArray.size U.toArray d' := by simpa [hn] using hp
  have hsz : d'.size = U.toArray.size := hp'.1; have hs' : SortedIn (ltOf cf) 0 d'.size d' := by rw [hsz]; simpa [hn] using hs
  have hpm := perm_of hp'; have hso := sorted_of hs'; obtain ⟨h1, h2⟩ := sorted_row (ys := d'.toList) ecs_len (by decide) h (by simpa using hsz) m os; refine ⟨rfl, d'.toList, by simpa using hpm, hso.imp fun {x y} hxy => hxy, by unfold OwnL; simpa using h1, ?_⟩; exact Onl.mono (by simpa using h2) (fun b hb => by rw [hb]; rfl)
theorem sortT_is {w : World} {B n : Nat} {a : Option Addr} {c : Nat} {U : List En} (h : OwnL B w (.slice a n c) n U) (hn : U.length = n) (hl : n < 4611686018427387904) :
  Calls Tryz.prog 179 #[.slice a n c, .func (.func 122) #[] #[]] w fun e w' => e = .returned (.tuple #[]) ∧
   ∃ U', U'.Perm U ∧ U'.Pairwise (fun x y => ltI y.id x.id = false) ∧ OwnL B w' (.slice a n c) n U' ∧ Onl (fun b => (Value.slice a n c).ownBlock = some b) w w' :=
 (enCmp 122 (fun x y => cmpT x.id y.id) (fun x y W => byTxn_is x y W) (swo_T fun x : En => x.id) (enters_of Tryz.func122 (by kernel_rfl) rfl) h hn hl).mono fun e w' ⟨h1, U', h2, h3, h4, h5⟩ => ⟨h1, U', h2, h3.imp fun {x y} k => by rw [← cmp_lt]; exact k, h4, h5⟩
attribute [local go_sem] Oper.semAt_some
abbrev VALUES : Nat := 121
abbrev VALUES1 : Nat := 180
theorem rng_walks {m : Option Nat} {r : Nat} {w w' : World} {ps todo : List (Ix × En)} (h : RngO ixv En.val w m r ps todo) (hk : KeepsWalks w w') : RngO ixv En.val w' m r ps todo := by
 refine h.same (fun b e => ?_) ?_
 ·subst e; obtain ⟨es, clock, _, _, _, hb, _⟩ := h.at; rw [hb]; exact hk.same b _ hb rfl
 ·cases m with
  | none => rw [h.2.2]; exact hk.same r _ h.2.2 rfl
  | some b =>
   obtain ⟨es, clock, since, seen, c0, _, _, _, _, hr, _⟩ := h.at; rw [hr]; exact hk.same r _ hr rfl
theorem rng_iter {m : Option Nat} {r : Nat} {w : World} {ps todo : List (Ix × En)} (h : RngO ixv En.val w m r ps todo) : ∃ o : Obj, w.heap[r]? = some o ∧ o.isWalk = true := by
 cases m with
 | none => exact ⟨_, h.2.2, rfl⟩
 | some b =>
  obtain ⟨es, clock, since, seen, c0, _, _, _, _, hr, _⟩ := h.at; exact ⟨_, hr, rfl⟩
theorem onl_grown {w w' : World} {r : Nat} (h : Onl (fun b => b = r) w w') : w.grownBy w' (some r) := ⟨h.os, h.tape, h.output, h.size, fun k hk hn => h.block k hk (fun e => hn (by rw [e]))⟩
theorem below_grown {w w' : World} (h : Below w.heap.size w w') : w.grownBy w' none := ⟨h.os, h.tape, h.output, h.size, fun k hk _ => h.block k hk⟩
set_option maxRecDepth 100000 in
theorem values1_in (n : Nat) (hn : 1 ≤ n) (l Bm : Nat) (m : Option Nat) (M : List En) (J Jx : List En → World → Prop)
  (hY : ∀ pre x W, J pre W → pre.length < M.length → YieldAt Fence.wide (n - 1) Tryz.prog l #[.agg #[.int .u32 x.id.1, .int .u32 x.id.2, .int .u32 x.home, .int .i64 x.oc, .int .u64 x.w, .int .u32 x.l, .int .u32 x.n]] W fun e W' => (e = .returned (.bool true) ∧ J (pre ++ [x]) W' ∧ KeepsWalks W W') ∨ (e = .returned (.bool false) ∧ Jx (pre ++ [x]) W'))
  (W : World) (hJ : AbidesFrom W.heap.size J) (hm : W.cell? ⟨Bm, 0, none⟩ = some (.map m)) (hM : MapO ixv En.val W m (prsE M)) (h0 : J [] W) :
  CallsIn Fence.wide n Tryz.prog VALUES1 #[.func (.yield l) #[] #[], .pointer (some ⟨Bm, 0, none⟩)] W fun e W' => (∃ v, e = .returned v) ∧ ((∃ xs, xs.Perm M ∧ J xs W') ∨ (∃ pre, True ∧ Jx pre W')) := by
 obtain ⟨o, hr, R0⟩ := hM.range (P := Tryz.prog) Tryz.underlying84; have RR := hid R0; have HY := hid hY; have HJ := hid hJ; have H0 := hid h0; clear R0 hY hJ h0 hM; refine callsIn_of_wp Tryz.func180 rfl trivial ?_ rfl; simp only [Tryz.ntmps180, List.size_toArray, List.length_cons, List.length_nil, Nat.reduceAdd, Nat.reduceSub, Array.replicate_succ, Array.replicate_zero, List.push_toArray, List.append_toArray, List.nil_append, List.cons_append]; gi_wp2
 gi_loopg [4] M.length (fun g s4 wr => ∃ (todo : List (Ix × En)) (xs : List En), g = todo.length ∧ Hid ((xs ++ todo.map (·.2)).Perm M) ∧ Hid (RngO ixv En.val wr m W.heap.size (prsE M) todo) ∧ Hid (J xs wr))
 case atStart =>
  refine ⟨prsE M, [], by simp, hid (by simp [prsE, List.map_map, Function.comp_def]), RR, HJ.out [] W _ none H0.out (below_grown (Below.al (Below.refl _ _) _)) (fun r e => by cases e)⟩
 case round =>
  obtain ⟨todo, xs, rfl, HP, HG, HJs⟩ := hrel; clear hr RR; rcases HG.out.next Tryz.prog with ⟨rfl, hn'⟩ | ⟨⟨j, v⟩, todo', w1, hpm, hpI, hn', R1, hen, hon, hsz⟩
  ·gi_wp2
   first | go_end0 | refine bodyPost_ret (results_none rfl _ _ _) rfl ?_
   exact ⟨⟨_, rfl⟩, .inl ⟨xs, by simpa using HP.out, HJs.out⟩⟩
  ·have hpl : todo'.length + 1 = todo.length := by have := hpm.length_eq; simpa using this.symm
   have hJ1 : J xs w1 := HJ.out xs wr w1 (some W.heap.size) HJs.out (onl_grown hon) (fun r e => by cases e; exact ⟨Nat.le_refl _, rng_iter HG.out⟩); have hJ2 : J xs (w1.alloc (.cells #[.int .u32 v.id.1, .int .u32 v.id.2, .int .u32 v.home, .int .i64 v.oc, .int .u64 v.w, .int .u32 v.l, .int .u32 v.n] 104)) := HJ.out xs w1 _ none hJ1 (below_grown (Below.al (Below.refl _ _) _)) (fun r e => by cases e); have hlt : xs.length < M.length := by
    have := HP.out.length_eq; simp at this; omega
   obtain ⟨fn, tmps, assign, body, hy, hR⟩ := HY.out xs v _ hJ2 hlt; have HP2 : Hid ((xs ++ [v] ++ todo'.map (·.2)).Perm M) := by
    refine hid (List.Perm.trans ?_ HP.out); rw [List.append_assoc]; refine List.Perm.append_left _ ?_; have := (hpm.map (·.2)).symm; simpa using this
   have HR2 : Hid (RngO ixv En.val (w1.alloc (.cells #[.int .u32 v.id.1, .int .u32 v.id.2, .int .u32 v.home, .int .i64 v.oc, .int .u64 v.w, .int .u32 v.l, .int .u32 v.n] 104)) m W.heap.size (prsE M) todo') := R1.later (Below.al (Below.refl _ _) _); simp only [En.val, ixv] at hn' hen; clear R1 hpm hpI hon hJ1 hJ2 HG HJs hsz; gi_wp2
   refine hR.mono ?_; rintro e W3 (⟨rfl, hJ3, hk3⟩ | ⟨rfl, hJx3⟩)
   ·have HK3 := hid (rng_walks HR2.out hk3); have HJ3 := hid hJ3; clear hJ3 hk3; gi_wp2
    gi_roundg todo'.length
    case measure => omega
    case rel => exact ⟨todo', xs ++ [v], rfl, HP2, HK3, HJ3⟩
   ·have HX3 := hid hJx3; clear hJx3; gi_wp2
    first | go_end0 | refine bodyPost_ret (results_none rfl _ _ _) rfl ?_
    exact ⟨⟨_, rfl⟩, .inr ⟨xs ++ [v], trivial, HX3.out⟩⟩
theorem values_is (m : Option Nat) (w : World) : Calls Tryz.prog VALUES #[.map m] w fun e w' => e = .returned (.func (.func VALUES1) #[] #[.pointer (some ⟨w.heap.size, 0, none⟩)]) ∧ w' = w.alloc (.cells #[.map m] 84) := by
 go_enter Tryz.func121, Tryz.ntmps121
 go_wp2_with fail
 go_ret
 exact ⟨rfl, rfl⟩
theorem values_stops (n : Nat) (hn : 1 ≤ n) (Bm : Nat) (m : Option Nat) (M : List En) (w : World) (hm : w.cell? ⟨Bm, 0, none⟩ = some (.map m)) (hM : MapO ixv En.val w m (prsE M)) :
  SeqStopsK Fence.wide n Tryz.prog VALUES1 #[.pointer (some ⟨Bm, 0, none⟩)] (fun x : En => #[.agg #[.int .u32 x.id.1, .int .u32 x.id.2, .int .u32 x.home, .int .i64 x.oc, .int .u64 x.w, .int .u32 x.l, .int .u32 x.n]]) KeepsWalks (fun xs => xs.Perm M) (fun _ => True) M.length w := fun l J Jx W hW hJ _ hY h0 =>
 values1_in n hn l Bm m M J Jx hY W hJ (cell_later hW hm) (hM.later hW) h0
attribute [local go_sem] Oper.semAt_some
theorem ko_walks {W W' : World} (h : KeepsOthers W W') : KeepsWalks W W' := ⟨h.size, fun k o hk hw => h.same k o hk (Obj.not_cells_of_walk hw)⟩
def InB (w : World) (b : Nat) (x : En) : Prop := w.heap[b]? = some (.cells #[.int .u32 x.id.1, .int .u32 x.id.2, .int .u32 x.home, .int .i64 x.oc, .int .u64 x.w, .int .u32 x.l, .int .u32 x.n] 104)
theorem inb_own {β : Type} (b : Nat) (x : En) : Own (fun (_ : β) W => InB W b x) := fun s X Y row hs hg hrow => (grownBy_keeps_cells hg hrow (show X.heap[b]? = _ from hs) rfl).trans hs
def ApI (w : World) (pre : List En) (W : World) : Prop :=
 (∃ v, Boxed W w.heap.size 61 v ∧ W.ownsRow w.heap.size 104 7 v pre.length (pre.flatMap ecs) ∧ True) ∧ Below w.heap.size w W
theorem apI_own {w : World} {B : Nat} (h : w.heap.size ≤ B) : OwnFrom B (ApI w) :=
 OwnFrom.and (Own.from (holdsRow_own w.heap.size w.heap.size 61 104 7 (fun pre : List En => pre.length) (fun pre => pre.flatMap ecs) (fun _ _ => True)) _) (ownFrom_below (Nat.le_refl _) h)
def ApA (w : World) (Bm : Nat) (x : En) (a' : Act) (W : World) : Prop :=
 ∃ Bx, w.heap.size < Bx ∧ InB W Bx x ∧ a' = { tmps := #[.slice none 0 0, .func (.func VALUES1) #[] #[.pointer (some ⟨Bm, 0, none⟩)], .pointer (some ⟨w.heap.size, 0, none⟩), undef, .slice none 0 0, .pointer (some ⟨Bx, 0, none⟩), .func (.func VALUES1) #[] #[.pointer (some ⟨Bm, 0, none⟩)], .agg #[.int .u32 x.id.1, .int .u32 x.id.2, .int .u32 x.home, .int .i64 x.oc, .int .u64 x.w, .int .u32 x.l, .int .u32 x.n], undef, undef, undef, undef, undef], defers := [] }
theorem apA_own {w : World} {Bm : Nat} (x : En) (a' : Act) (Q : Nat) : OwnFrom Q (fun (_ : Unit) W => ApA w Bm x a' W) := fun s X Y row hs hg hr => by
 obtain ⟨Bx, hB, hT, ha⟩ := hs; exact ⟨Bx, hB, (Own.from (inb_own (β := Unit) _ _) Q) () X Y row hT hg hr, ha⟩
theorem ApI.al {w W : World} {pre : List En} (h : ApI w pre W) (o : Obj) : ApI w pre (W.alloc o) := by
 obtain ⟨⟨v, h1, h2, h3⟩, hB⟩ := h; exact ⟨⟨v, h1.alloc _, h2.alloc _, h3⟩, Below.al hB _⟩
set_option maxRecDepth 100000 in
theorem appendSeq_is {w : World} {Bm : Nat} {m : Option Nat} {M : List En} (hm : w.cell? ⟨Bm, 0, none⟩ = some (.map m)) (hM : MapO ixv En.val w m (prsE M)) (hlen : M.length ≤ 3518437208882) :
  Calls Tryz.prog 229 #[.slice none 0 0, .func (.func VALUES1) #[] #[.pointer (some ⟨Bm, 0, none⟩)]] w fun e w' => ∃ (v : Value) (U : List En), e = .returned v ∧ Hid (U.Perm M) ∧ Hid (OwnL w.heap.size w' v U.length U) ∧ Hid (Below w.heap.size w w') := by
 refine (callsIn_wide (n := 5)).1 ?_; obtain ⟨i0, hi0, hz0, hz1, hz2⟩ := info_of infoEn; have hb0 : Below w.heap.size w (w.alloc (.cells #[.slice none 0 0] 61)) := Below.al (Below.refl _ _) _; have bO := Boxed.new w 61 (.slice none 0 0); have hst := values_stops 4 (by decide) Bm m M _ (cell_later hb0 hm) (hM.later hb0); refine callsIn_of_wp_marks Tryz.func229 rfl trivial ?_ rfl; simp only [Tryz.ntmps229, List.size_toArray, List.length_cons, List.length_nil, Nat.reduceAdd, Nat.reduceSub, Array.replicate_succ, Array.replicate_zero, List.push_toArray, List.append_toArray, List.nil_append, List.cons_append]; gi_wp2
 obtain ⟨w0, hw0⟩ : ∃ w0, w0 = w.alloc (.cells #[.slice none 0 0] 61) := ⟨_, rfl⟩; rw [← hw0] at bO hb0 hst ⊢; clear hw0; have hs0 : w.heap.size < w0.heap.size := bO.lt; refine wpIn_rangeFunc_ownH rfl (by decide) (gf := VALUES1) (lb := #[.pointer (some ⟨Bm, 0, none⟩)]) rfl trivial (enters_of Tryz.func180 (by kernel_rfl) rfl)
  hst walksK_t walksK_b (Below.refl _ _) (fun _ => rfl)
  (ApI w) (fun _ _ _ => False) (apI_own (by omega)) (fun _ _ _ _ _ hs _ _ => hs)
  ⟨⟨_, bO, World.ownsRow_nil _ _ _ _, trivial⟩, hb0⟩
  (ApA w Bm) (fun x a' => apA_own x a' _) ?assign ?body ?done ?stop
 case assign =>
  rintro l pre x W K hI hK; gi_wp2
  exact hK _ _ ((KeepsOthers.alloc _ _).from _) (KeepsWalks.alloc _ _) (hI.al _) ⟨W.heap.size, (by obtain ⟨⟨v, h1, _⟩, _⟩ := hI; exact h1.lt), World.alloc_heap_new W _, rfl⟩
 case body =>
  rintro l pre x a' W hl hr ⟨⟨v, hv, hrow, -⟩, hB⟩ ⟨Bx, hBx, bX, rfl⟩ hlt; have hc := hv.cell; have hsz := hB.size; have bX' : W.heap[Bx]? = some (.cells #[.int .u32 x.id.1, .int .u32 x.id.2, .int .u32 x.home, .int .i64 x.oc, .int .u64 x.w, .int .u32 x.l, .int .u32 x.n] 104) := bX; have x0 : W.cell? ⟨Bx, 0, none⟩ = some (.int .u32 x.id.1) := cob bX' rfl; have x1 : W.cell? ⟨Bx, 1, none⟩ = some (.int .u32 x.id.2) := cob bX' rfl; have x2 : W.cell? ⟨Bx, 2, none⟩ = some (.int .u32 x.home) := cob bX' rfl; have x3 : W.cell? ⟨Bx, 3, none⟩ = some (.int .i64 x.oc) := cob bX' rfl; have x4 : W.cell? ⟨Bx, 4, none⟩ = some (.int .u64 x.w) := cob bX' rfl; have x5 : W.cell? ⟨Bx, 5, none⟩ = some (.int .u32 x.l) := cob bX' rfl; have x6 : W.cell? ⟨Bx, 6, none⟩ = some (.int .u32 x.n) := cob bX' rfl
  have g1 : pre.length + 1 ≤ maxLen := by unfold maxLen; omega
  have g2 : (pre.length + 1) * 40 ≤ 140737488355328 := by omega
  have hnew : ∀ j u, (ecs x)[j]? = some u → (W.alloc (.cells #[.int .u32 x.id.1, .int .u32 x.id.2, .int .u32 x.home, .int .i64 x.oc, .int .u64 x.w, .int .u32 x.l, .int .u32 x.n] 104)).cell? ((⟨W.heap.size, 0, none⟩ : Addr).add j) = some u := fun j u hj => by
   rw [Addr.add_lit, Nat.zero_add]; exact cob (MapKept.heap_alloc _ _).1 (by simpa using hj)
  clear bX bX'; gi_wp2_with (gi_at_builtin; refine wpListIn_append_own _ rfl _ _ 61 rfl w.heap.size 104 i0 (En.val En.zero) 7 40 Tryz.underlying61 hi0 hz0 hz1 hz2 rfl (by decide) _ _ _ rfl (hrow.alloc _) ⟨W.heap.size, 0, none⟩ 1 1 (ecs x) rfl rfl hnew (ecs_one x) g1 g2 (by simp; omega) ?_; intro v' w2 hown' hgrow _; obtain ⟨g', cap', rfl⟩ := ownsRow_succ hown'; obtain ⟨hv1, hv2, hr2, hk2, hb2⟩ := hv.appended (by decide) hrow hB.size (by omega) hown' hgrow; have hc1 := hv1.cell; have hf1 := hv1.frozen)
  exact ⟨hk2.from _, ko_walks hk2, ⟨_, hv2, by simpa using hr2, trivial⟩, hB.trans hb2⟩
 case done =>
  rintro D ys W hD hys ⟨⟨v, hv, hrow, -⟩, hB⟩ hK; have hc := hv.cell; gi_wp2
  refine ⟨by simp, .inl ⟨_, _, rfl, run_takeDeferred hK, ?_⟩⟩; exact ⟨_, results_tmp rfl _ _ _, v, ys, rfl, hys, ownsRow_putObj hrow _ hK rfl, hB.trans (belowK_b (w := w) (Nat.le_refl _) W D _ _ (by omega) hK rfl rfl)⟩
 case stop =>
  rintro D c pre W _ _ h _; exact h.elim
theorem collect_is {w : World} {Bm : Nat} {m : Option Nat} {M : List En} (hm : w.cell? ⟨Bm, 0, none⟩ = some (.map m)) (hM : MapO ixv En.val w m (prsE M)) (hlen : M.length ≤ 3518437208882) :
  Calls Tryz.prog 178 #[.func (.func VALUES1) #[] #[.pointer (some ⟨Bm, 0, none⟩)]] w fun e w' => ∃ (v : Value) (U : List En), e = .returned v ∧ Hid (U.Perm M) ∧ Hid (OwnL w.heap.size w' v U.length U) ∧ Hid (Below w.heap.size w w') := by
 have AP := hid (appendSeq_is hm hM hlen); clear hm hM; go_enter Tryz.func178, Tryz.ntmps178
 go_wp2_with (go_at_call 229; refine AP.out.mono ?_; rintro e w1 ⟨v, U, rfl, h1, h2, h3⟩)
 go_ret
 exact ⟨v, U, rfl, h1, h2, h3⟩
theorem sortedFunc_is {w : World} {Bm : Nat} {m : Option Nat} {M : List En} (hm : w.cell? ⟨Bm, 0, none⟩ = some (.map m)) (hM : MapO ixv En.val w m (prsE M)) (hlen : M.length ≤ 3518437208882) :
  Calls Tryz.prog 120 #[.func (.func VALUES1) #[] #[.pointer (some ⟨Bm, 0, none⟩)], .func (.func 122) #[] #[]] w fun e w' => ∃ (a : Option Addr) (n c : Nat) (U : List En), e = .returned (.slice a n c) ∧ Hid (U.length = n) ∧ Hid (OwnL w.heap.size w' (.slice a n c) n U) ∧
   Hid (U.Perm M) ∧ Hid (U.Pairwise (fun x y => ltI y.id x.id = false)) ∧ Hid (Below w.heap.size w w') := by
 have CO := hid (collect_is hm hM hlen); clear hm hM; go_enter Tryz.func120, Tryz.ntmps120
 go_wp2_with fail
 refine CO.out.mono ?_; rintro e w1 ⟨v, U, rfl, h1, h2, h3⟩; obtain ⟨a, c, rfl⟩ := ows h2.out; obtain ⟨n, hn⟩ : ∃ n, n = U.length := ⟨_, rfl⟩; rw [← hn] at h2 ⊢; have SO := hid (sortT_is h2.out hn.symm (by have := h1.out.length_eq; omega)); have HN := hid hn; clear hn; go_wp2_with fail
 refine SO.out.mono ?_; rintro e w2 ⟨rfl, U', hpU, hsU, hoU, honl⟩; have HB2 : Hid (Below w.heap.size w w2) := h3.out.trans (honl.below (B := w.heap.size) (fun b hb => (h2.out.lt b hb).1) h3.out.size); have HFin : Hid (U'.length = n) ∧ Hid (OwnL w.heap.size w2 (.slice a n c) n U') ∧ Hid (U'.Perm M) ∧ Hid (U'.Pairwise (fun x y => ltI y.id x.id = false)) ∧ Hid (Below w.heap.size w w2) :=
  ⟨hid (by rw [hpU.length_eq]; exact HN.out.symm), hoU, hid (hpU.trans h1.out), hsU, HB2⟩
 clear hpU hsU hoU honl HB2; go_wp2_with fail
 go_ret
 exact ⟨a, n, c, U', rfl, HFin⟩
theorem entries_is {w : World} {p oo : Nat} {ty : TypeId} {m : Option Nat} {M : List En} (T : LgO w p oo ty m M) (hlen : M.length ≤ 3518437208882) :
  Calls Tryz.prog 59 #[.pointer (some ⟨p, oo, none⟩)] w fun e w' => ∃ (a : Option Addr) (n c : Nat) (U : List En), e = .returned (.slice a n c) ∧ Hid (U.length = n) ∧ Hid (OwnL w.heap.size w' (.slice a n c) n U) ∧
   Hid (U.Perm M) ∧ Hid (U.Pairwise (fun x y => ltI y.id x.id = false)) ∧ Hid (Below w.heap.size w w') := by
 have c0 := T.c0; obtain ⟨wx, hwx⟩ : ∃ wx, wx = w.alloc (.cells #[.map m] 84) := ⟨_, rfl⟩; have hbx : Below w.heap.size w wx := by rw [hwx]; exact Below.al (Below.refl _ _) _
 have hk : wx.heap[w.heap.size]? = some (.cells #[.map m] 84) := by rw [hwx]; exact (MapKept.heap_alloc _ _).1
 have SF := hid (sortedFunc_is (cob hk rfl) (T.ents.later hbx) hlen); have HB := hid hbx; have VA : Hid (Calls Tryz.prog VALUES #[.map m] w fun e w' => e = .returned (.func (.func VALUES1) #[] #[.pointer (some ⟨w.heap.size, 0, none⟩)]) ∧ w' = wx) := by rw [hwx]; exact values_is m w
 clear T hbx hk hwx; go_enter Tryz.func59, Tryz.ntmps59
 go_wp2_with fail
 refine VA.out.mono ?_; rintro e w1 ⟨rfl, rfl⟩; go_wp2_with fail
 refine SF.out.mono ?_; rintro e w2 ⟨a, n, c, U, rfl, h1, h2, h3, h4, h5⟩; have HFin : Hid (U.length = n) ∧ Hid (OwnL w.heap.size w2 (.slice a n c) n U) ∧ Hid (U.Perm M) ∧ Hid (U.Pairwise (fun x y => ltI y.id x.id = false)) ∧ Hid (Below w.heap.size w w2) :=
  ⟨h1, owb h2.out HB.out.size, h3, h4, Below.on HB.out h5.out⟩
 clear h1 h2 h3 h4 h5; go_wp2_with fail
 go_ret
 exact ⟨a, n, c, U, rfl, HFin⟩
end Lg
namespace Ig
open Go.RowKit Go.Sort Ys
section
variable {F : Nat → Prop} {w : World} {p : Nat} {m1 m2 m : Option Nat} {V : List Lk.Hv} {I : Lk.It} {s : Ps}
theorem Held_is (T : Ys.St F w p m1 m2 m V I s) (hlen : V.length ≤ 1759218604441) :
  Calls Tryz.prog 20 #[sp p] w fun e w' => ∃ (U : List Lk.Hv) (a : Option Addr) (c : Nat), e = .returned (.slice a U.length c) ∧ Hid (Lk.OwnH w.heap.size w' (.slice a U.length c) U.length U) ∧ Hid (∀ u ∈ U, u.fresh w.heap.size w' ∧ u.ok w') ∧ Hid (U.map Lk.Hv.h = srt Lk.Hd.id s.H) ∧ Hid (Below w.heap.size w w') := by
 have C := hid (Lk.all_is T.tb hlen); have HN : Hid ((s.H.map Lk.Hd.id).Nodup) := by show List.Nodup _; rw [← T.h]; exact T.tb.ok.ids
 have HV : Hid (V.map Lk.Hv.h = s.H) := T.h; clear T; go_enter Tryz.func20, Tryz.ntmps20
 go_wp2_with fail
 refine C.out.mono ?_; rintro e w1 ⟨a, n, c, U, rfl, rfl, h3, h4, h5, h6, h7⟩; have HU : Hid (U.map Lk.Hv.h = srt Lk.Hd.id s.H) := srt_eq HN.out (by rw [← HV.out]; exact h5) h6; have H3 := hid h3; have H4 := hid h4; have H7 := hid h7; clear h3 h4 h5 h6 h7; go_wp2_with fail
 go_ret
 exact ⟨U, a, c, rfl, H3, H4, HU, H7⟩
theorem Entries_is (T : Ys.St F w p m1 m2 m V I s) (hlen : s.E.length ≤ 3518437208882) :
  Calls Tryz.prog 23 #[sp p] w fun e w' => ∃ (U : List Lg.En) (a : Option Addr) (c : Nat), e = .returned (.slice a U.length c) ∧ Hid (Lg.OwnL w.heap.size w' (.slice a U.length c) U.length U) ∧ Hid (U = srt Lg.En.id s.E) ∧ Hid (Below w.heap.size w w') := by
 have C := hid (Lg.entries_is T.lg hlen); have HN := hid T.lg.nodup; clear T; go_enter Tryz.func23, Tryz.ntmps23
 go_wp2_with fail
 refine C.out.mono ?_; rintro e w1 ⟨a, n, c, U, rfl, h2, h3, h4, h5, h6⟩; have e1 := h2.out; subst e1; have HU : Hid (U = srt Lg.En.id s.E) := srt_eq HN.out h4.out h5.out; clear h2 h4 h5; go_wp2_with fail
 go_ret
 exact ⟨U, a, c, rfl, h3, HU, h6⟩
theorem Versions_is (T : Ys.St F w p m1 m2 m V I s) (hlen : Vs.countM s.M ≤ 1500000) :
  Calls Tryz.prog 26 #[sp p] w fun e w' => ∃ (a : Option Addr) (c : Nat), e = .returned (.slice a (Vs.dumpM s.M).length c) ∧ Hid (Vs.OwnV w' w.heap.size (.slice a (Vs.dumpM s.M).length c) (Vs.dumpM s.M)) ∧ Hid (Below w.heap.size w w') := by
 have C := hid (Vs.dump_is T.st hlen); clear T; go_enter Tryz.func26, Tryz.ntmps26
 go_wp2_with fail
 refine C.out.mono ?_; rintro e w1 ⟨v, rfl, h2, h3⟩; obtain ⟨a, c, rfl⟩ := h2.slice; have H2 := hid h2; have H3 := hid h3; clear h2 h3; go_wp2_with fail
 go_ret
 exact ⟨a, c, rfl, H2, H3⟩
theorem St.enc {w' : World} {b o : Nat} (T : Ys.St F w p m1 m2 m V I s) (hb : w.heap.size ≤ b) {w1 : World} (h1 : Below w.heap.size w w1) (hc : Cel b o 2 w1 w') : Ys.St F w' p m1 m2 m V I s := by
 have hB : Below w.heap.size w w' := h1.trans (hc.below hb h1.size); exact T.later hB
theorem below_cel {w w1 w' : World} {b o : Nat} (h1 : Below w.heap.size w w1) (hc : Cel b o 2 w1 w') (hb : w.heap.size ≤ b) : Below w.heap.size w w' := h1.trans (hc.below hb h1.size)
theorem hv_rd {b : Nat} {w W : World} {v : Lk.Hv} (hf : v.fresh W.heap.size w) (ho : v.ok w) (hb : b < W.heap.size) (hk : okHeld v.h) : HvRd b w v := by
 have hl1 := ho.rl; have hl2 := ho.wl; refine ⟨row2_g ho.r, rowW_g ho.w, fun q off e => ?_, fun q off e => ?_, ⟨hk.1, hk.2.1⟩, by omega, by omega⟩
 ·have := (hf.r.lt q (by rw [e]; rfl)).1; omega
 ·have := (hf.w.lt q (by rw [e]; rfl)).1; omega
theorem Image_is (T : Ys.St F w p m1 m2 m V I s) (hi : ImOk s) (hl : (imgB s).length ≤ 281474976710656) :
  Calls Tryz.prog 10 #[sp p] w fun e w' => e = .returned (.string (ofNats (imgB s))) ∧ Below w.heap.size w w' := by
 obtain ⟨B0, hB0⟩ : ∃ B, B = eU s.node := ⟨_, rfl⟩; obtain ⟨B1, hB1⟩ : ∃ B, B = eU s.ceil := ⟨_, rfl⟩; obtain ⟨B2, hB2⟩ : ∃ B, B = eS s.wm := ⟨_, rfl⟩; obtain ⟨B3, hB3⟩ : ∃ B, B = eL eHeld (srt Lk.Hd.id s.H) := ⟨_, rfl⟩; obtain ⟨B4, hB4⟩ : ∃ B, B = eL eEntry (srt Lg.En.id s.E) := ⟨_, rfl⟩; obtain ⟨B5, hB5⟩ : ∃ B, B = eL eVersion (Vs.dumpM s.M) := ⟨_, rfl⟩; have hE : imgB s = B0 ++ (B1 ++ (B2 ++ (B3 ++ (B4 ++ B5)))) := by rw [hB0, hB1, hB2, hB3, hB4, hB5]; rfl
 have HE := hid hE; have HLB := hid hl; rw [hE] at hl; simp only [List.length_append] at hl; have HBS : Hid (B0 = eU s.node ∧ B1 = eU s.ceil ∧ B2 = eS s.wm ∧ B3 = eL eHeld (srt Lk.Hd.id s.H) ∧ B4 = eL eEntry (srt Lg.En.id s.E) ∧ B5 = eL eVersion (Vs.dumpM s.M)) := ⟨hB0, hB1, hB2, hB3, hB4, hB5⟩; clear hB0 hB1 hB2 hB3 hB4 hB5 hE; obtain ⟨wa, hwa⟩ : ∃ wa, wa = w.alloc (.cells #[.pointer none, .int .i64 0] 77) := ⟨_, rfl⟩; have hba : Below w.heap.size w wa := by rw [hwa]; exact Below.al (Below.refl _ _) _
 have hsz : w.heap.size < wa.heap.size := by rw [hwa]; simp
 have kx : wa.heap[w.heap.size]? = some (.cells #[.pointer none, .int .i64 0] 77 (0, 0)) := by rw [hwa]; exact World.alloc_heap_new _ _
 have H0 : Hid (EOk wa wa (fun k => k = w.heap.size) w.heap.size 0 []) := ⟨Cel.refl _ _ _ _, ⟨rfl, ⟨[], rfl, trivial, fun x hx => (by cases hx), Vs.cob kx rfl⟩, Vs.cob kx rfl, fun o => frozen_of_row wa w.heap.size o _ _ kx⟩, fun k hk => by rw [hk]; exact hsz⟩; have HB := hid hba; have HT := hid T; have HI := hid hi; have n0 := (T.later hba).cell (j := 0) (v := .int .u32 s.node) (fun _ => rfl); rw [hwa] at n0; clear T hi hba kx; go_enter Tryz.func10, Tryz.ntmps10
 go_wp2_with fail
 rw [← hwa]; clear hwa; refine (putNumber_is H0.out HI.out.node (by simp)).mono ?_; rintro e w1 ⟨rfl, h1⟩; have H1 : Hid (EOk wa w1 (fun k => k = w.heap.size) w.heap.size 0 B0) := by
  have := H0.out.step h1; rw [← HBS.out.1, List.nil_append] at this; exact this
 clear h1 n0; have n1 := (St.enc HT.out (Nat.le_refl _) HB.out H1.out.cel).cell (j := 1) (v := .int .u64 s.ceil) (fun _ => rfl); go_wp2_with fail
 refine (eok_var H1.out HI.out.ceil (by omega)).mono ?_; rintro e w2 ⟨rfl, h2⟩; have H2 : Hid (EOk wa w2 (fun k => k = w.heap.size) w.heap.size 0 (B0 ++ B1)) := by
  have := H1.out.step h2; rw [← HBS.out.2.1] at this; exact this
 clear h2 n1; have T2 := hid (St.enc HT.out (Nat.le_refl _) HB.out H2.out.cel); go_wp2_with fail
 refine (Watermark_is T2.out).mono ?_; rintro e w3 ⟨rfl, h3⟩; have H3 := hid (H2.out.later h3); clear h3; go_wp2_with fail
 refine (eok_stamp H3.out HI.out.wm (by simp only [List.length_append]; omega)).mono ?_; rintro e w4 ⟨rfl, h4⟩; have H4 : Hid (EOk wa w4 (fun k => k = w.heap.size) w.heap.size 0 (B0 ++ B1 ++ B2)) := by
  have := H3.out.step h4; rw [← HBS.out.2.2.1] at this; exact this
 clear h4; have T4 := hid (St.enc HT.out (Nat.le_refl _) HB.out H4.out.cel); have hVl : V.length ≤ 1759218604441 := by
  have h1 := congrArg List.length HT.out.h; have h2 := HI.out.hn; rw [List.length_map] at h1; omega
 go_wp2_with fail
 refine (Held_is T4.out hVl).mono ?_; rintro e w5 ⟨U, a5, c5, rfl, O5, F5, U5, B5'⟩; have H5 := hid (H4.out.later B5'.out); have hs4 := H4.out.lt; have HU5 : Hid (∀ x ∈ U, HvRd w.heap.size w5 x) := fun x hx => hv_rd (F5.out x hx).1 (F5.out x hx).2 hs4 (HI.out.H _ (by
  have h9 : x.h ∈ U.map Lk.Hv.h := List.mem_map.2 ⟨x, hx, rfl⟩; rw [U5.out] at h9; exact srt_mem.1 h9))
 have HUE : Hid (eL eHv U = B3) := by
  show _ = _
  rw [HBS.out.2.2.2.1, ← U5.out]; unfold eL; rw [List.length_map, List.flatMap_map]; rfl
 have hUl : U.length ≤ 4611686018427387904 := by
  have h1 := congrArg List.length U5.out; have h2 := HI.out.hn; rw [List.length_map, srt_len] at h1; omega
 go_wp2_with fail
 refine (putHelds_is H5.out (RowG.of_own Lk.hcs_len (by decide) O5.out) (fun q off e => by have := (O5.out.lt q (by rw [e]; rfl)).1; omega) HU5.out (by rw [HUE.out]; simp only [List.length_append]; omega) hUl).mono ?_; rintro e w6 ⟨rfl, h6⟩; have H6 : Hid (EOk wa w6 (fun k => k = w.heap.size) w.heap.size 0 (B0 ++ B1 ++ B2 ++ B3)) := by
  have := H5.out.step h6; rw [HUE.out] at this; exact this
 clear h6 HU5 HUE hUl F5 O5 U5 B5' hVl; have T6 := hid (St.enc HT.out (Nat.le_refl _) HB.out H6.out.cel); go_wp2_with fail
 refine (Entries_is T6.out (by have := HI.out.en; omega)).mono ?_; rintro e w7 ⟨U7, a7, c7, rfl, O7, E7, B7⟩; have H7 := hid (H6.out.later B7.out); have hs6 := H6.out.lt; have HUE : Hid (eL eEntry U7 = B4) := by rw [E7.out, HBS.out.2.2.2.2.1]; exact hid rfl
 have hUl : U7.length ≤ 4611686018427387904 := by rw [E7.out, srt_len]; have := HI.out.en; omega
 have HUO : Hid (∀ x ∈ U7, okTxn (x.id, x.home) ∧ okS (atEn x)) := fun x hx => by
  have h9 := HI.out.E x (by rw [E7.out] at hx; exact srt_mem.1 hx); exact ⟨h9.1, h9.2.2⟩
 go_wp2_with fail
 refine (putEntries_is H7.out (RowG.of_own Lg.ecs_len (by decide) O7.out) (fun q off e => by have := (O7.out.lt q (by rw [e]; rfl)).1; omega) HUO.out (by rw [HUE.out]; simp only [List.length_append]; omega) hUl).mono ?_; rintro e w8 ⟨rfl, h8⟩; have H8 : Hid (EOk wa w8 (fun k => k = w.heap.size) w.heap.size 0 (B0 ++ B1 ++ B2 ++ B3 ++ B4)) := by
  have := H7.out.step h8; rw [HUE.out] at this; exact this
 clear h8 HUO HUE hUl O7 E7 B7; have T8 := hid (St.enc HT.out (Nat.le_refl _) HB.out H8.out.cel); go_wp2_with fail
 refine (Versions_is T8.out HI.out.dn).mono ?_; rintro e w9 ⟨a9, c9, rfl, O9, B9⟩; have H9 := hid (H8.out.later B9.out); have hs8 := H8.out.lt; have hUl : (Vs.dumpM s.M).length ≤ 4611686018427387904 := by rw [Vs.dump_len]; have := HI.out.dn; omega
 have HUO : Hid (∀ x ∈ Vs.dumpM s.M, okS x.2.s) := fun x hx => (HI.out.D x hx).2.1
 have HUE : Hid (eL eVersion (Vs.dumpM s.M) = B5) := HBS.out.2.2.2.2.2.symm; go_wp2_with fail
 refine (putVersions_is H9.out (RowG.of_own (enc := c6) (fun x => rfl) (by decide) O9.out) (fun q off e => by have := (O9.out.lt q (by rw [e]; rfl)).1; omega) HUO.out (by rw [HUE.out]; simp only [List.length_append]; omega) hUl).mono ?_; rintro e w10 ⟨rfl, h10⟩; have H10 : Hid (EOk wa w10 (fun k => k = w.heap.size) w.heap.size 0 (imgB s)) := by
  have := H9.out.step h10; rw [HUE.out] at this; show EOk _ _ _ _ _ _
  rw [HE.out]; simp only [List.append_assoc] at this; exact this
 clear h10 HUO HUE hUl O9 B9; go_wp2_with fail
 refine (bytes_of H10.out.enc HLB.out).mono ?_; rintro e w11 ⟨rfl, h11⟩; have HF := hid (Below.on (below_cel HB.out H10.out.cel (Nat.le_refl _)) h11); clear h11; go_wp2_with fail
 go_ret
 exact ⟨rfl, HF.out⟩
end
theorem new_eq (w : World) (n : Int) : Calls Tryz.prog 28 #[.int .u32 n] w fun e w' => e = .returned (.pointer (some ⟨w.heap.size, 0, none⟩)) ∧ w' = w.alloc (.cells (scs (zero n) none none none none) SS) := by
 go_enter Tryz.func28, Tryz.ntmps28
 go_wp2_with fail
 go_ret
 exact ⟨rfl, rfl⟩
theorem beq_self (s : ByteArray) : (s.toList == s.toList) = true := by simp
theorem Load_yes {w : World} {n : Int} {bs : List Nat} {s : Ps} (hb : B8 bs) (hl : bs.length ≤ 1099511627776) (ht : takeP n (.at bs) = some s) (hi : ImOk s) (he : imgB s = bs) :
  Calls Tryz.prog 9 #[.int .u32 n, .string (ofNats bs)] w fun e w' => e = .returned (.tuple #[.pointer (some ⟨w.heap.size, 0, none⟩), .int .i64 0]) ∧ Hid (Sta w.heap.size w' w.heap.size s) ∧ Hid (Below w.heap.size w w') := by
 obtain ⟨w1, hw1⟩ : ∃ w1, w1 = w.alloc (.cells (scs (zero n) none none none none) SS) := ⟨_, rfl⟩; have hb1 : Below w.heap.size w w1 := by rw [hw1]; exact Below.al (Below.refl _ _) _
 have k1 : w1.heap[w.heap.size]? = some (.cells (scs (zero n) none none none none) SS (0, 0)) := by rw [hw1]; exact World.alloc_heap_new _ _
 have NW : Hid (Calls Tryz.prog 28 #[.int .u32 n] w fun e w' => e = .returned (.pointer (some ⟨w.heap.size, 0, none⟩)) ∧ w' = w1) := by rw [hw1]; exact hid (new_eq w n)
 have HB1 := hid hb1; have K1 := hid k1; have HS1 : Hid (w.heap.size < w1.heap.size) := (Array.getElem?_eq_some_iff.1 k1).1; have HB8 := hid hb; have HL := hid hl; have HT := hid ht; have HI := hid hi; have HE := hid he; obtain ⟨S, hS⟩ : ∃ S, S = ofNats bs := ⟨_, rfl⟩; have HSS := hid hS; have sb := beq_self S; rw [← hS]; clear hb hl ht hi he hb1 k1 hw1 hS; go_enter Tryz.func9, Tryz.ntmps9
 go_wp2_with fail
 refine NW.out.mono ?_; rintro e w1' ⟨rfl, rfl⟩; go_wp2_with fail
 refine (open_at HSS.out HB8.out (p := w1'.heap.size) rfl).mono ?_; rintro e w2 ⟨rfl, hb2, hp2, hd2⟩; have hD : DOk w2 w2 w1'.heap.size 0 (.at bs) := ⟨Cel.refl _ _ _ _, hd2, HL.out⟩; have K2 := (hb2.block _ HS1.out).trans K1.out; have TK := hid (take_yes HT.out K2 hD (by have := HS1.out; omega)); have HB2 := hid (Below.on HB1.out hb2); clear hb2 hd2 hD K2; go_wp2_with fail
 refine TK.out.mono ?_; rintro e w3 ⟨rfl, ⟨F, m1, m2, m, V, I, hT3, hf3⟩, ho3⟩; have hsw : w.heap.size ≤ w2.heap.size := HB2.out.size; have HB3 : Hid (Below w.heap.size w w3) := HB2.out.trans (ho3.below (fun k hk => by have := HS1.out; omega) hsw); have HT3 := hid hT3; have HF3 : Hid (∀ k, F k ∨ Bm w.heap.size m1 m2 m k → w.heap.size ≤ k) := fun k hk => by
  rcases hf3 k hk with h9 | h9
  ·omega
  ·omega
 have IM : Hid (Calls Tryz.prog 10 #[.pointer (some ⟨w.heap.size, 0, none⟩)] w3 fun e w' => e = .returned (.string S) ∧ Below w3.heap.size w3 w') := by
  rw [HSS.out, ← HE.out]; exact hid (Image_is HT3.out HI.out (by rw [HE.out]; have := HL.out; omega))
 clear hT3 hf3 ho3 TK; go_wp2_with (go_at_call 10; refine IM.out.mono ?_; rintro e w4 ⟨rfl, hb4⟩)
 refine bodyPost_ret (results_tmp2 rfl _ _ _) rfl ?_; exact ⟨rfl, ⟨F, m1, m2, m, V, I, HT3.out.later hb4, HF3.out⟩, Below.on HB3.out hb4⟩
end Ig
end Go.Proofs.YtofpaldolcnmiaaGreat
