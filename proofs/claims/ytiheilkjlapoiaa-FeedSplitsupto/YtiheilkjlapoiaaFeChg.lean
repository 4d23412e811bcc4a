import Derived.Test.YtiheilkjlapoiaaFeRound
/- feed.Changes. -/
namespace Go.Proofs.Ytiheilkjlapoiaa.Lg
open Go.RowKit Go.Sort Go.Shelf Go.Lib Lk
set_option linter.unusedVariables false
attribute [local go_sem] Oper.semAt_some

/-- a result: where its lists lie -/
structure Rv where
  st : Int
  sh : Int
  cl : Int
  pa : Option Addr
  pn : Nat
  pc : Nat
  cap : Int
  park : Int
  win : Int
  ea : Option Addr
  en : Nat
  ec : Nat
  wa : Option Addr
  wn : Nat
  wc : Nat
  ca : Option Addr
  cn : Nat
  cc : Nat
  ha : Option Addr
  hn : Nat
  hc : Nat
  fl : Int
  ss : Int
abbrev Rv.cs (r : Rv) : List Value := [.int .i64 r.st, .int .i64 r.sh, .int .i64 r.cl, .slice r.pa r.pn r.pc, .int .i64 r.cap, .int .i64 r.park, .int .u64 r.win, .slice r.ea r.en r.ec, .slice r.wa r.wn r.wc, .slice r.ca r.cn r.cc, .slice r.ha r.hn r.hc, .int .i64 r.fl, .int .i64 r.ss]
abbrev Rv.val (r : Rv) : Value := .agg #[.int .i64 r.st, .int .i64 r.sh, .int .i64 r.cl, .slice r.pa r.pn r.pc, .int .i64 r.cap, .int .i64 r.park, .int .u64 r.win, .slice r.ea r.en r.ec, .slice r.wa r.wn r.wc, .slice r.ca r.cn r.cc, .slice r.ha r.hn r.hc, .int .i64 r.fl, .int .i64 r.ss]

theorem tw_all {α : Type} {p : α → Bool} : ∀ {l : List α}, (∀ y ∈ l, p y = true) → l.takeWhile p = l
  | [], _ => rfl
  | x :: l, h => by rw [List.takeWhile_cons, h x (by simp)]; simp only [if_true]; rw [tw_all fun y hy => h y (by simp [hy])]
theorem tw_stop {α : Type} {p : α → Bool} {x : α} {rest : List α} (hx : p x = false) : ∀ {l : List α}, (∀ y ∈ l, p y = true) → (l ++ [x] ++ rest).takeWhile p = l
  | [], _ => by simp [hx]
  | y :: l, h => by
    have ih := tw_stop (rest := rest) hx (l := l) fun z hz => h z (by simp [hz])
    simp only [List.cons_append, List.takeWhile_cons, h y (by simp), if_true]
    rw [show l ++ [x] ++ rest = l ++ [x] ++ rest from rfl] at ih
    rw [ih]
/-- between the rounds of Changes -/
def ChJ (evs : List Ev) (fr tt : Sm) (w5 : World) (Bl : Nat) (pre : List En) (W : World) : Prop := (∀ y ∈ pre, belo y tt = true) ∧ ChI w5 Bl (told evs fr pre) W
/-- left early -/
def ChX (evs : List Ev) (fr tt : Sm) (w5 : World) (Bl : Nat) (c : Code) (pre : List En) (W : World) : Prop := c = .exit 0 ∧ ∃ pre' x, pre = pre' ++ [x] ∧ belo x tt = false ∧ (∀ y ∈ pre', belo y tt = true) ∧ ChI w5 Bl (told evs fr pre') W
theorem chJ_own (evs : List Ev) (fr tt : Sm) (w5 : World) (Bl : Nat) : OwnFrom w5.heap.size (ChJ evs fr tt w5 Bl) := fun s W W' row hs hg hr =>
  ⟨hs.1, (chI_own (fun s : List En => told evs fr s)) s W W' row hs.2 hg hr⟩
theorem chX_own (evs : List Ev) (fr tt : Sm) (w5 : World) (Bl : Nat) (c : Code) : OwnFrom w5.heap.size (ChX evs fr tt w5 Bl c) := fun s W W' row hs hg hr => by
  obtain ⟨h1, pre', x, h2, h3, h4, h5⟩ := hs
  exact ⟨h1, pre', x, h2, h3, h4, (chI_own (fun s : List En => told evs fr s)) pre' W W' row h5 hg hr⟩
set_option maxRecDepth 100000 in
set_option maxHeartbeats 4000000 in
theorem changes_is {r : Rv} {fr tt : Sm} {evs : List Ev} {M : List En} {w : World} (hE : RowEv w r.ea evs) (hen : evs.length = r.en) (hM : RowE w r.ca M) (hcn : M.length = r.cn) (hle : r.en ≤ 1048576) (hlc : r.cn ≤ 1048576) :
    Calls Try.prog 7 #[r.val, smv fr, smv tt] w fun e w' => ∃ (a : Option Addr) (n c : Nat) (U : List En), e = .returned (.slice a n c) ∧ Hid (U.Perm M ∧ Srt U) ∧ Hid ((told evs fr ((U.filter com).takeWhile fun e => belo e tt)).length = n) ∧
      Hid (w'.ownsRow w.heap.size 47 6 (.slice a n c) n ((told evs fr ((U.filter com).takeWhile fun e => belo e tt)).flatMap vcs)) ∧ Hid (Below w.heap.size w w') := by
  refine (callsIn_wide (n := 5)).1 ?_
  have HE := hid hE
  have HEN := hid hen
  have HM := hid hM
  have HCN := hid hcn
  obtain ⟨wa, hwa⟩ : ∃ wa, wa = (((w.alloc (.cells #[.int .i64 r.st, .int .i64 r.sh, .int .i64 r.cl, .slice r.pa r.pn r.pc, .int .i64 r.cap, .int .i64 r.park, .int .u64 r.win, .slice r.ea r.en r.ec, .slice r.wa r.wn r.wc, .slice r.ca r.cn r.cc, .slice r.ha r.hn r.hc, .int .i64 r.fl, .int .i64 r.ss] 41)).alloc (.cells #[.int .u64 fr.w, .int .u32 fr.l, .int .u32 fr.n] 30)).alloc (.cells #[.int .u64 tt.w, .int .u32 tt.l, .int .u32 tt.n] 30)).alloc (.cells #[.slice none 0 0] 44) := ⟨_, rfl⟩
  have hba : Below w.heap.size w wa := by rw [hwa]; exact Below.al (Below.al (Below.al (Below.al (Below.refl _ _) _) _) _) _
  have hsa : wa.heap.size = w.heap.size + 1 + 1 + 1 + 1 := by rw [hwa]; simp
  have c9 : wa.cell? ⟨w.heap.size, 9, none⟩ = some (.slice r.ca r.cn r.cc) := by rw [hwa]; simp [go_sem]
  have f0 : wa.cell? ⟨w.heap.size + 1, 0, none⟩ = some (.int .u64 fr.w) := by rw [hwa]; simp [go_sem]
  have f1 : wa.cell? ⟨w.heap.size + 1, 1, none⟩ = some (.int .u32 fr.l) := by rw [hwa]; simp [go_sem]
  have f2 : wa.cell? ⟨w.heap.size + 1, 2, none⟩ = some (.int .u32 fr.n) := by rw [hwa]; simp [go_sem]
  have t0 : wa.cell? ⟨w.heap.size + 1 + 1, 0, none⟩ = some (.int .u64 tt.w) := by rw [hwa]; simp [go_sem]
  have t1 : wa.cell? ⟨w.heap.size + 1 + 1, 1, none⟩ = some (.int .u32 tt.l) := by rw [hwa]; simp [go_sem]
  have t2 : wa.cell? ⟨w.heap.size + 1 + 1, 2, none⟩ = some (.int .u32 tt.n) := by rw [hwa]; simp [go_sem]
  have hbx : Boxed wa (w.heap.size + 1 + 1 + 1) 44 (.slice none 0 0) := by
    rw [hwa]
    have := Boxed.new (((w.alloc (.cells #[.int .i64 r.st, .int .i64 r.sh, .int .i64 r.cl, .slice r.pa r.pn r.pc, .int .i64 r.cap, .int .i64 r.park, .int .u64 r.win, .slice r.ea r.en r.ec, .slice r.wa r.wn r.wc, .slice r.ca r.cn r.cc, .slice r.ha r.hn r.hc, .int .i64 r.fl, .int .i64 r.ss] 41)).alloc (.cells #[.int .u64 fr.w, .int .u32 fr.l, .int .u32 fr.n] 30)).alloc (.cells #[.int .u64 tt.w, .int .u32 tt.l, .int .u32 tt.n] 30)) 44 (.slice none 0 0)
    simpa using this
  have BT := hid (byTxn_is (c := r.ec) (hE.later hba) hen hle)
  have HBA := hid hba
  have HBX := hid hbx
  have HSA := hid hsa
  clear hE hM hen hcn hba hbx hsa
  refine callsIn_of_wp_marks Try.func7 rfl trivial ?_ rfl
  simp only [Try.ntmps7, List.size_toArray, List.length_cons, List.length_nil, Nat.reduceAdd, Nat.reduceSub, Array.replicate_succ, Array.replicate_zero, List.push_toArray, List.append_toArray, List.nil_append, List.cons_append]
  refine wpIn_wide.2 ?_
  go_wp2_with fail
  rw [← hwa]
  clear hwa
  refine BT.out.mono ?_
  rintro e w1 ⟨mb, ps, rfl, HMP, HPA, HB1⟩
  obtain ⟨w2, hw2⟩ : ∃ w2, w2 = w1.alloc (.cells #[.map (some mb)] 51) := ⟨_, rfl⟩
  have hb2 : Below w1.heap.size w1 w2 := by rw [hw2]; exact Below.al (Below.refl _ _) _
  have c9' := cell_later (Below.on HB1.out hb2) c9
  have g0 := cell_later (Below.on HB1.out hb2) f0
  have g1 := cell_later (Below.on HB1.out hb2) f1
  have g2 := cell_later (Below.on HB1.out hb2) f2
  have u0 := cell_later (Below.on HB1.out hb2) t0
  have u1 := cell_later (Below.on HB1.out hb2) t1
  have u2 := cell_later (Below.on HB1.out hb2) t2
  have hk2 : w2.cell? ⟨w1.heap.size, 0, none⟩ = some (.map (some mb)) := by rw [hw2]; exact cell_of_obj (MapKept.heap_alloc _ _).1 rfl
  have HB2 := hid hb2
  clear BT c9 f0 f1 f2 t0 t1 t2 hb2
  go_upto_region 3 with fail
  rw [← hw2]
  clear hw2
  have CO := hid (coms_is r.ca r.cn r.cc w2)
  obtain ⟨w5, hw5⟩ : ∃ w5, w5 = w2.alloc (.cells #[.slice r.ca r.cn r.cc] 38) := ⟨_, rfl⟩
  have hb5 : Below w2.heap.size w2 w5 := by rw [hw5]; exact Below.al (Below.refl _ _) _
  have hk5 : w5.cell? ⟨w2.heap.size, 0, none⟩ = some (.slice r.ca r.cn r.cc) := by rw [hw5]; exact cell_of_obj (MapKept.heap_alloc _ _).1 rfl
  have g0' := cell_later hb5 g0; have g1' := cell_later hb5 g1; have g2' := cell_later hb5 g2
  have u0' := cell_later hb5 u0; have u1' := cell_later hb5 u1; have u2' := cell_later hb5 u2
  have hk2' := cell_later hb5 hk2
  have HBW : Hid (Below w.heap.size w w5) := hid (Below.on (Below.on (Below.on HBA.out HB1.out) HB2.out) hb5)
  have HB15 : Hid (Below w1.heap.size w1 w5) := hid (Below.on HB2.out hb5)
  have HBX5 : Hid (Boxed w5 (w.heap.size + 1 + 1 + 1) 44 (.slice none 0 0)) := hid ((Below.block (Below.on HB1.out HB15.out) _ HBX.out.lt).trans HBX.out)
  go_wp2_with (go_at_call 11; refine CO.out.mono ?_; rintro e w3 ⟨rfl, e3⟩; subst e3)
  rw [← hw5]
  clear hw5 CO g0 g1 g2 u0 u1 u2 hk2 c9'
  have hst := coms_stops 4 (by decide) (w := w5) (M := M) (by rw [HCN.out]; exact hk5) (HM.out.later HBW.out) (by rw [HCN.out]; exact hlc)
  refine (wpIn_wide (n := 5)).1 ?_
  obtain ⟨Bl, hBl⟩ : ∃ Bl, Bl = w.heap.size + 1 + 1 + 1 := ⟨_, rfl⟩
  have HBL : Hid (Bl = w.heap.size + 1 + 1 + 1 ∧ Bl < w5.heap.size) := hid ⟨hBl, by rw [hBl]; exact HBX5.out.lt⟩
  have h00 : ChI w5 Bl [] w5 := ⟨⟨_, by rw [hBl]; exact HBX5.out, World.ownsRow_nil _ _ _ _, trivial⟩, Onl.refl _ _⟩
  rw [← hBl]
  clear hBl
  refine wpIn_rangeFunc_ownH rfl (by decide) (gf := COMS1) (lb := #[.pointer (some ⟨w2.heap.size, 0, none⟩)]) rfl trivial (enters_of Try.func14 (by kernel_rfl) rfl)
    hst keepE_t keepE_b (Below.refl _ _) (fun _ => rfl)
    (ChJ evs fr tt w5 Bl) (ChX evs fr tt w5 Bl) (chJ_own _ _ _ _ _) (fun c => chX_own _ _ _ _ _ c)
    ⟨by simp, h00⟩
    (fun x a' W => ∃ Bx, w5.heap.size ≤ Bx ∧ InB W Bx x ∧ a' = { tmps := #[r.val, smv fr, smv tt, .pointer (some ⟨w.heap.size, 0, none⟩), .pointer (some ⟨w.heap.size + 1, 0, none⟩), .pointer (some ⟨w.heap.size + 1 + 1, 0, none⟩), .slice none 0 0, .pointer (some ⟨Bl, 0, none⟩), .pointer (some ⟨w1.heap.size, 0, none⟩), .pointer (some ⟨Bx, 0, none⟩), undef, undef, .pointer (some ⟨w.heap.size, 7, none⟩), .slice r.ea r.en r.ec, .map (some mb), .pointer (some ⟨w.heap.size, 9, none⟩), .slice r.ca r.cn r.cc, .func (.func COMS1) #[] #[.pointer (some ⟨w2.heap.size, 0, none⟩)], x.val, undef, undef, undef, undef, undef, undef, undef, undef, undef, undef, undef, undef, undef, undef, undef, undef, undef, undef, undef, undef, undef, undef, undef, undef, undef, undef, undef, undef, undef, undef, undef, undef, undef, undef, undef, undef], defers := [] }) (fun x a' => ?ownA) ?assign ?body ?done ?stop
  case ownA =>
    intro s X Y row hs hg hr
    obtain ⟨Bx, hB, hT, ha⟩ := hs
    exact ⟨Bx, hB, (Own.from (inb_own (β := Unit) _ _) _) () X Y row hT hg hr, ha⟩
  case assign =>
    rintro l pre x W K hI hK
    gi_wp2
    exact hK _ _ ((KeepsOthers.alloc _ _).from _) (keepE_below (Below.al (Below.refl _ _) _)) ⟨hI.1, hI.2.later (Below.al (Below.refl _ _) _)⟩ ⟨W.heap.size, hI.2.2.size, (MapKept.heap_alloc _ _).1, rfl⟩
  case body =>
    rintro l pre x a' W hl hr ⟨hall, hCh⟩ ⟨Bx, hBx, bX, rfl⟩ hlt
    have hO := hCh.2
    have hBL := HBL.out
    have bX' : W.heap[Bx]? = some (.cells #[.int .u32 x.id.1, .int .u32 x.id.2, .int .u32 x.home, .int .i64 x.oc, .int .u64 x.w, .int .u32 x.l, .int .u32 x.n] 60) := bX
    have x0 : W.cell? ⟨Bx, 0, none⟩ = some (.int .u32 x.id.1) := cell_of_obj bX' rfl
    have x1 : W.cell? ⟨Bx, 1, none⟩ = some (.int .u32 x.id.2) := cell_of_obj bX' rfl
    have x4 : W.cell? ⟨Bx, 4, none⟩ = some (.int .u64 x.w) := cell_of_obj bX' rfl
    have x5 : W.cell? ⟨Bx, 5, none⟩ = some (.int .u32 x.l) := cell_of_obj bX' rfl
    have x6 : W.cell? ⟨Bx, 6, none⟩ = some (.int .u32 x.n) := cell_of_obj bX' rfl
    have p0 : W.cell? ⟨w.heap.size + 1 + 1, 0, none⟩ = some (.int .u64 tt.w) := hO.cell (by show ¬ _ = Bl; omega) u0'
    have p1 : W.cell? ⟨w.heap.size + 1 + 1, 1, none⟩ = some (.int .u32 tt.l) := hO.cell (by show ¬ _ = Bl; omega) u1'
    have p2 : W.cell? ⟨w.heap.size + 1 + 1, 2, none⟩ = some (.int .u32 tt.n) := hO.cell (by show ¬ _ = Bl; omega) u2'
    have q0 : W.cell? ⟨w.heap.size + 1, 0, none⟩ = some (.int .u64 fr.w) := hO.cell (by show ¬ _ = Bl; omega) g0'
    have q1 : W.cell? ⟨w.heap.size + 1, 1, none⟩ = some (.int .u32 fr.l) := hO.cell (by show ¬ _ = Bl; omega) g1'
    have q2 : W.cell? ⟨w.heap.size + 1, 2, none⟩ = some (.int .u32 fr.n) := hO.cell (by show ¬ _ = Bl; omega) g2'
    have HCH := hid hCh
    have HALL := hid hall
    clear hBL hst h00 hk5
    have hbb : Below W.heap.size W W := Below.refl _ _
    cases htt : belo x tt with
    | false =>
      have htt' : lessB x.w x.l x.n tt.w tt.l tt.n = false := htt
      have HTT := hid htt
      clear htt bX bX' hCh hall hO x0 x1 q0 q1 q2
      gi_wp2_with ((try refine ⟨trivial, ?_⟩); gi_at_call 12; refine (CallsIn.inRound l (callsIn_wide.2 (less_is rfl _))).mono ?_; rintro e w6 ⟨rfl, hg6⟩)
      exact ⟨(ko_below hg6.below).from _, rfl, pre, x, rfl, HTT.out, HALL.out, HCH.out.later hg6.below⟩
    | true =>
      have htt' : lessB x.w x.l x.n tt.w tt.l tt.n = true := htt
      have HTT : Hid (∀ y ∈ pre ++ [x], belo y tt = true) := hid fun y hy => by
        rcases List.mem_append.1 hy with k | k
        · exact HALL.out y k
        · rw [List.mem_singleton.1 k]; exact htt
      cases hfr : belo x fr with
      | true =>
        have hfr' : lessB x.w x.l x.n fr.w fr.l fr.n = true := hfr
        have HTS : Hid (told evs fr (pre ++ [x]) = told evs fr pre) := hid (by rw [told_snoc, if_pos hfr])
        clear htt hfr bX bX' hCh hall hO x0 x1
        gi_wp2_with ((try refine ⟨trivial, ?_⟩); gi_at_call 12; refine (CallsIn.inRound l (callsIn_wide.2 (less_is rfl _))).mono ?_; rintro e w6 ⟨rfl, hg6⟩; replace hbb := Below.on hbb hg6.below; replace x4 := cell_later hg6.below x4; replace x5 := cell_later hg6.below x5; replace x6 := cell_later hg6.below x6; replace q0 := cell_later hg6.below q0; replace q1 := cell_later hg6.below q1; replace q2 := cell_later hg6.below q2; clear hg6)
        exact ⟨(ko_below hbb).from _, keepE_below hbb, HTT.out, by rw [HTS.out]; exact HCH.out.later hbb⟩
      | false =>
        have hfr' : lessB x.w x.l x.n fr.w fr.l fr.n = false := hfr
        have HTS : Hid (told evs fr (pre ++ [x]) = told evs fr pre ++ vers evs x) := hid (by rw [told_snoc, if_neg (by rw [hfr]; decide)])
        have hs15 := HB15.out.size
        obtain ⟨s, hsn, hsr, hml1, hmn, hlk⟩ := parts_at (W := W) HMP.out HPA.out (by have := HSA.out; have := HBL.out.1; omega) ⟨_, _, _, (HB1.out.block _ (by rw [HBL.out.1]; exact HBX.out.lt)).trans (by rw [HBL.out.1]; exact HBX.out)⟩ (fun g hg hne => (hO.block g (by omega) hne).trans (HB15.out.block g hg)) x.id
        have hmW : W.heap[mb]? = w1.heap[mb]? := (hO.block mb (by omega) hmn).trans (HB15.out.block mb hml1)
        have hmlW : mb < W.heap.size := Nat.lt_of_lt_of_le hml1 (Nat.le_trans hs15 hO.size)
        have m0 : W.cell? ⟨w1.heap.size, 0, none⟩ = some (.map (some mb)) := hO.cell (by show ¬ _ = Bl; have := HB1.out.size; have := HSA.out; have := HBL.out.1; omega) hk2'
        have HLK := hid hlk
        have HSR := hid hsr
        have HSN := hid hsn
        have HMW := hid hmW
        have HMLW := hid hmlW
        have HBXX : Hid (InB W Bx x) := hid bX
        clear htt hfr bX bX' hCh hall hO hlk hsr hsn hmW hmlW hml1 hmn hs15 hk2' g0' g1' g2' u0' u1' u2'
        gi_wp2_with ((try refine ⟨trivial, ?_⟩); gi_at_call 12; refine (CallsIn.inRound l (callsIn_wide.2 (less_is rfl _))).mono ?_; rintro e w6 ⟨rfl, hg6⟩; replace hbb := Below.on hbb hg6.below; replace x0 := cell_later hg6.below x0; replace x1 := cell_later hg6.below x1; replace m0 := cell_later hg6.below m0; replace x4 := cell_later hg6.below x4; replace x5 := cell_later hg6.below x5; replace x6 := cell_later hg6.below x6; replace q0 := cell_later hg6.below q0; replace q1 := cell_later hg6.below q1; replace q2 := cell_later hg6.below q2; clear hg6)
        clear q0 q1 q2 p0 p1 p2
        have hmix : Try.prog.follows .mixedOrders = true := by kernel_rfl
        have hlk7 : (Instr.lookup 51 (.map (some mb)) (.agg #[.int .u32 x.id.1, .int .u32 x.id.2]) false).run Try.prog w6.drew = .ok (.slice s.a s.n s.c) w6.drew := HLK.out _ ((hbb.block mb HMLW.out).trans HMW.out)
        have WRT : Hid (Calls Try.prog 13 #[.agg #[.int .i64 0, .int .i64 0, .int .i64 0, .slice none 0 0, .int .i64 0, .int .i64 0, .int .u64 0, .slice s.a s.n s.c, .slice none 0 0, .slice none 0 0, .slice none 0 0, .int .i64 0, .int .i64 0], .agg #[.int .u32 x.id.1, .int .u32 x.id.2]] w6.drew fun e w' => ∃ (a : Option Addr) (n c : Nat), e = .returned (.slice a n c) ∧ Hid ((srtW (laidW x.id evs)).length = n) ∧ Hid (w'.ownsRow w6.heap.size 64 3 (.slice a n c) n ((srtW (laidW x.id evs)).flatMap wcs)) ∧ Hid (Below w6.heap.size w6 w')) := by
          have h := writes_is (w := w6.drew) (a := s.a) (n := s.n) (c := s.c) (t := x.id) (HSR.out.later (Below.drew hbb)) HSN.out (by have h1 := HEN.out; have h2 := HSN.out; have h3 : (ofT x.id evs).length ≤ evs.length := List.length_filter_le _ _; omega)
          rw [layW_ofT] at h
          exact hid (h.mono fun e w' ⟨a, n, c, h1, h2, h3, h4⟩ => ⟨a, n, c, h1, h2, h3, hid ((Below.drew (Below.refl _ w6)).trans h4.out)⟩)
        refine wpIn_region_round (S := fun w' => w'.cell? ⟨w1.heap.size, 0, none⟩ = some (.map (some mb)) ∧ w'.cell? ⟨Bx, 0, none⟩ = some (.int .u32 x.id.1) ∧ w'.cell? ⟨Bx, 1, none⟩ = some (.int .u32 x.id.2) ∧ (Instr.lookup 51 (.map (some mb)) (.agg #[.int .u32 x.id.1, .int .u32 x.id.2]) false).run Try.prog w' = .ok (.slice s.a s.n s.c) w') hmix (by rintro ⟨_, _, h⟩; exact h) ?nodefer ?_
        case nodefer =>
          intro i o ho c e
          rw [List.getElem?_toArray] at ho
          have hm := List.mem_of_getElem? ho
          simp only [List.mem_cons, List.not_mem_nil, or_false] at hm
          rcases hm with rfl | rfl | rfl | rfl | rfl | rfl | rfl | rfl | rfl | rfl <;> cases e
        have hS0 : w6.drew.cell? ⟨w1.heap.size, 0, none⟩ = some (.map (some mb)) ∧ w6.drew.cell? ⟨Bx, 0, none⟩ = some (.int .u32 x.id.1) ∧ w6.drew.cell? ⟨Bx, 1, none⟩ = some (.int .u32 x.id.2) ∧ (Instr.lookup 51 (.map (some mb)) (.agg #[.int .u32 x.id.1, .int .u32 x.id.2]) false).run Try.prog w6.drew = .ok (.slice s.a s.n s.c) w6.drew := ⟨m0, x0, x1, hlk7⟩
        refine wpAnyH_take (i := 0) (v := .map (some mb)) rfl (by kernel_rfl) (by kernel_rfl) (by kernel_rfl) (fun _ _ _ h => h) (.inl ⟨by kernel_rfl, fun w' hS => ?_⟩) hS0 ?_
        · obtain ⟨s1, s2, s3, s4⟩ := hS
          simp [go_sem, execOp, s1]
        simp only [Act.put, List.setIfInBounds_toArray]
        refine wpAnyH_take (i := 1) (v := .pointer (some ⟨Bx, 0, none⟩)) rfl (by kernel_rfl) (by kernel_rfl) (by kernel_rfl) (fun _ _ _ h => h) (.inl ⟨by kernel_rfl, fun w' hS => ?_⟩) hS0 ?_
        · simp [go_sem, execOp]
        simp only [Act.put]
        refine wpAnyH_take (i := 2) (v := .agg #[.int .u32 x.id.1, .int .u32 x.id.2]) rfl (by kernel_rfl) (by kernel_rfl) (by kernel_rfl) (fun _ _ _ h => h) (.inl ⟨by kernel_rfl, fun w' hS => ?_⟩) hS0 ?_
        · obtain ⟨s1, s2, s3, s4⟩ := hS
          simp [go_sem, execOp, s2, s3]
        simp only [Act.put]
        refine wpAnyH_take (i := 3) (v := .slice s.a s.n s.c) rfl (by kernel_rfl) (by kernel_rfl) (by kernel_rfl) (fun _ _ _ h => h) (.inl ⟨by kernel_rfl, fun w' hS => ?_⟩) hS0 ?_
        · obtain ⟨s1, s2, s3, s4⟩ := hS
          simp [go_sem, execOp, s4]
        simp only [Act.put]
        refine wpAnyH_take (i := 4) (v := .agg #[.int .i64 0, .int .i64 0, .int .i64 0, .slice none 0 0, .int .i64 0, .int .i64 0, .int .u64 0, .slice s.a s.n s.c, .slice none 0 0, .slice none 0 0, .slice none 0 0, .int .i64 0, .int .i64 0]) rfl (by kernel_rfl) (by kernel_rfl) (by kernel_rfl) (fun _ _ _ h => h) (.inl ⟨by kernel_rfl, fun w' hS => ?_⟩) hS0 ?_
        · simp [go_sem, execOp]
        simp only [Act.put]
        refine wpAnyH_take (i := 5) (v := .pointer (some ⟨Bx, 0, none⟩)) rfl (by kernel_rfl) (by kernel_rfl) (by kernel_rfl) (fun _ _ _ h => h) (.inl ⟨by kernel_rfl, fun w' hS => ?_⟩) hS0 ?_
        · simp [go_sem, execOp]
        simp only [Act.put]
        refine wpAnyH_take (i := 6) (v := .agg #[.int .u32 x.id.1, .int .u32 x.id.2]) rfl (by kernel_rfl) (by kernel_rfl) (by kernel_rfl) (fun _ _ _ h => h) (.inl ⟨by kernel_rfl, fun w' hS => ?_⟩) hS0 ?_
        · obtain ⟨s1, s2, s3, s4⟩ := hS
          simp [go_sem, execOp, s2, s3]
        simp only [Act.put]
        refine wpAnyH_take (i := 9) (v := .int .i64 0) rfl (by kernel_rfl) (by kernel_rfl) (by kernel_rfl) (fun _ _ _ h => h) (.inl ⟨by kernel_rfl, fun w' hS => ?_⟩) hS0 ?_
        · simp [go_sem, execOp]
        simp only [Act.put]
        refine wpAnyH_all (rs := [7]) (by kernel_rfl) (by simp) ?_
        intro i hi
        obtain rfl := List.mem_singleton.1 hi
        unfold wpOp
        simp only [List.getElem?_toArray, List.getElem?_cons_succ, List.getElem?_cons_zero]
        rw [if_pos (by kernel_rfl)]
        left
        go_wp2_with (go_at_call 13; refine WRT.out.mono ?_; rintro e w8 ⟨ya, yn, yc, rfl, HYL, HYO, HYB⟩)
        have hbb8 : Below W.heap.size W w8 := Below.on hbb HYB.out
        have hS8 : w8.cell? ⟨w1.heap.size, 0, none⟩ = some (.map (some mb)) ∧ w8.cell? ⟨Bx, 0, none⟩ = some (.int .u32 x.id.1) ∧ w8.cell? ⟨Bx, 1, none⟩ = some (.int .u32 x.id.2) ∧ (Instr.lookup 51 (.map (some mb)) (.agg #[.int .u32 x.id.1, .int .u32 x.id.2]) false).run Try.prog w8 = .ok (.slice s.a s.n s.c) w8 := ⟨cell_later HYB.out m0, cell_later HYB.out x0, cell_later HYB.out x1, HLK.out _ ((hbb8.block mb HMLW.out).trans HMW.out)⟩
        refine ⟨hS8, ?_⟩
        refine wpAnyH_take (i := 8) (v := .int .i64 (yn : Int)) rfl (by kernel_rfl) (by kernel_rfl) (by kernel_rfl) (fun _ _ _ h => h) (.inl ⟨by kernel_rfl, fun w' hS => ?_⟩) hS8 ?_
        · simp [go_sem, execOp]
        simp only [Act.put]
        refine wpAnyH_done (by kernel_rfl) ?_ _
        change Exit.then _ _ Exit.normal ({ tmps := #[r.val, smv fr, smv tt, .pointer (some ⟨w.heap.size, 0, none⟩), .pointer (some ⟨w.heap.size + 1, 0, none⟩), .pointer (some ⟨w.heap.size + 1 + 1, 0, none⟩), .slice none 0 0, .pointer (some ⟨Bl, 0, none⟩), .pointer (some ⟨w1.heap.size, 0, none⟩), .pointer (some ⟨Bx, 0, none⟩), undef, undef, .pointer (some ⟨w.heap.size, 7, none⟩), .slice r.ea r.en r.ec, .map (some mb), .pointer (some ⟨w.heap.size, 9, none⟩), .slice r.ca r.cn r.cc, .func (.func COMS1) #[] #[.pointer (some ⟨w2.heap.size, 0, none⟩)], x.val, .pointer (some ⟨Bx, 4, none⟩), .agg #[.int .u64 x.w, .int .u32 x.l, .int .u32 x.n], .agg #[.int .u64 tt.w, .int .u32 tt.l, .int .u32 tt.n], .bool true, .bool false, .pointer (some ⟨Bx, 4, none⟩), .agg #[.int .u64 x.w, .int .u32 x.l, .int .u32 x.n], .agg #[.int .u64 fr.w, .int .u32 fr.l, .int .u32 fr.n], .bool false, .map (some mb), .pointer (some ⟨Bx, 0, none⟩), .agg #[.int .u32 x.id.1, .int .u32 x.id.2], .slice s.a s.n s.c, .agg #[.int .i64 0, .int .i64 0, .int .i64 0, .slice none 0 0, .int .i64 0, .int .i64 0, .int .u64 0, .slice s.a s.n s.c, .slice none 0 0, .slice none 0 0, .slice none 0 0, .int .i64 0, .int .i64 0], .pointer (some ⟨Bx, 0, none⟩), .agg #[.int .u32 x.id.1, .int .u32 x.id.2], .slice ya yn yc, .int .i64 (yn : Int), .int .i64 0, undef, undef, undef, undef, undef, undef, undef, undef, undef, undef, undef, undef, undef, undef, undef, undef, undef], defers := [] } : Act) w8
        have z4 := cell_later HYB.out x4; have z5 := cell_later HYB.out x5; have z6 := cell_later HYB.out x6
        clear hS8 hS0 hlk7 hmix m0 x0 x1 x4 x5 x6 WRT z4 z5 z6
        have HBB8 := hid hbb8
        have HIN8 : Hid (InB w8 Bx x) := hid ((hbb8.block Bx (Array.getElem?_eq_some_iff.1 HBXX.out).1).trans HBXX.out)
        have HLP : Hid ((told evs fr pre).length ≤ 1099511627776) := hid (Nat.le_trans (told_len evs fr pre) (Nat.le_trans (Nat.mul_le_mul (show pre.length ≤ 1048576 by have := HCN.out; omega) (show evs.length ≤ 1048576 by have := HEN.out; omega)) (by decide)))
        have hyn : yn ≤ 1048576 := by
          have h1 := HYL.out
          have h2 := vers_len evs x
          unfold vers at h2
          rw [List.length_map, h1] at h2
          have := HEN.out
          omega
        obtain ⟨i0, hi0, hz0, hz1, hz2⟩ := info_of infoVr
        clear hbb hbb8
        gi_wp2
        gi_loopg [37] yn (fun g s37 wr => ∃ (k : Nat), k ≤ yn ∧ g = yn - k ∧ s37 = .int .i64 k ∧ Hid (ChI w5 Bl (told evs fr pre ++ (vers evs x).take k) wr) ∧ Hid (KeepsOthers W wr) ∧ Hid (KeepT 60 W wr) ∧ Hid (wr.ownsRow w6.heap.size 64 3 (.slice ya yn yc) yn ((srtW (laidW x.id evs)).flatMap wcs)) ∧ Hid (InB wr Bx x))
        case atStart => exact ⟨0, by omega, by omega, rfl, hid (by simpa using HCH.out.later HBB8.out), hid (ko_below HBB8.out), hid (keepT_below HBB8.out), HYO, HIN8⟩
        case round =>
          obtain ⟨k, hk, rfl, rfl, HCI, HKO, HKE, HYR, HIX⟩ := hrel
          by_cases hlt2 : k < yn
          · obtain ⟨g, eg, _, hcs⟩ := own_cells HYR.out (by omega)
            obtain ⟨u, hu⟩ : ∃ u, (srtW (laidW x.id evs))[k]? = some u := ⟨_, List.getElem?_eq_getElem (by have := HYL.out; omega)⟩
            have hfm : ∀ o, o < 3 → ((srtW (laidW x.id evs)).flatMap wcs)[k * 3 + o]? = (wcs u)[o]? := fun o ho => by
              letI : Inhabited Wr := ⟨Wr.zero⟩
              have hl : k < (srtW (laidW x.id evs)).length := by have := HYL.out; omega
              rw [fm_get wcs_len _ k o hl ho, getElem!_pos _ k hl]
              rw [List.getElem?_eq_getElem hl] at hu
              injection hu with hu
              rw [hu]
            have v0 : wr.cell? ⟨g, k * 3, none⟩ = some (.string u.key) := hcs (k * 3 + 0) _ (by rw [hfm 0 (by decide)]; rfl)
            have v1 : wr.cell? ⟨g, k * 3 + 1, none⟩ = some (.bool u.del) := hcs (k * 3 + 1) _ (by rw [hfm 1 (by decide)]; rfl)
            have v2 : wr.cell? ⟨g, k * 3 + 2, none⟩ = some (.string u.val) := hcs (k * 3 + 2) _ (by rw [hfm 2 (by decide)]; rfl)
            subst eg
            have hix : wr.heap[Bx]? = some (.cells #[.int .u32 x.id.1, .int .u32 x.id.2, .int .u32 x.home, .int .i64 x.oc, .int .u64 x.w, .int .u32 x.l, .int .u32 x.n] 60) := HIX.out
            have a4 : wr.cell? ⟨Bx, 4, none⟩ = some (.int .u64 x.w) := cell_of_obj hix rfl
            have a5 : wr.cell? ⟨Bx, 5, none⟩ = some (.int .u32 x.l) := cell_of_obj hix rfl
            have a6 : wr.cell? ⟨Bx, 6, none⟩ = some (.int .u32 x.n) := cell_of_obj hix rfl
            have hbq : Below wr.heap.size wr (wr.alloc (.cells #[.string u.key, .bool u.del, .string u.val] 64)) := Below.al (Below.refl _ _) _
            obtain ⟨⟨v, hv, hrow, -⟩, hO⟩ := HCI.out
            obtain ⟨T, hT⟩ : ∃ T, T = told evs fr pre ++ (vers evs x).take k := ⟨_, rfl⟩
            rw [← hT] at hrow
            have hTl : T.length ≤ 1099511627776 + 1048576 := by
              rw [hT, List.length_append, List.length_take]
              have := HLP.out
              omega
            have HTN : Hid (told evs fr pre ++ (vers evs x).take (k + 1) = T ++ [ver x u]) := by
              refine hid ?_
              rw [hT, List.take_add_one, List.append_assoc]
              congr 2
              unfold vers
              rw [List.getElem?_map, hu]
              rfl
            obtain ⟨tl, htl⟩ : ∃ tl, tl = T.length := ⟨_, rfl⟩
            obtain ⟨tr, htr⟩ : ∃ tr, tr = T.flatMap vcs := ⟨_, rfl⟩
            rw [← htl, ← htr] at hrow
            rw [← htl] at hTl
            obtain ⟨va, vc, rfl⟩ := owns_slice hrow
            have lc := hv.cell
            have nl : (Bl = wr.heap.size) = False := eq_false (by have := hv.lt; omega)
            have nx : (Bx = wr.heap.size) = False := eq_false (by have := (Array.getElem?_eq_some_iff.1 hix).1; omega)
            have lc' : (wr.alloc (.cells #[.string u.key, .bool u.del, .string u.val] 64)).cell? ⟨Bl, 0, none⟩ = some (.slice va tl vc) := cell_later hbq lc
            have a4' : (wr.alloc (.cells #[.string u.key, .bool u.del, .string u.val] 64)).cell? ⟨Bx, 4, none⟩ = some (.int .u64 x.w) := cell_later hbq a4
            have a5' : (wr.alloc (.cells #[.string u.key, .bool u.del, .string u.val] 64)).cell? ⟨Bx, 5, none⟩ = some (.int .u32 x.l) := cell_later hbq a5
            have a6' : (wr.alloc (.cells #[.string u.key, .bool u.del, .string u.val] 64)).cell? ⟨Bx, 6, none⟩ = some (.int .u32 x.n) := cell_later hbq a6
            have hnew : ∀ j y, (vcs (ver x u))[j]? = some y → ((wr.alloc (.cells #[.string u.key, .bool u.del, .string u.val] 64)).alloc (.cells #[.string u.key, .int .u64 x.w, .int .u32 x.l, .int .u32 x.n, .bool u.del, .string u.val] 47)).cell? ((⟨wr.heap.size + 1, 0, none⟩ : Addr).add j) = some y := fun j y hj => by
              rw [Addr.add_lit, Nat.zero_add, show wr.heap.size + 1 = (wr.alloc (.cells #[.string u.key, .bool u.del, .string u.val] 64)).heap.size by simp]
              exact cell_of_obj (MapKept.heap_alloc _ _).1 (by simpa [ver] using hj)
            have hszq : w5.heap.size ≤ wr.heap.size := hO.size
            have hrow2 := (hrow.alloc (.cells #[.string u.key, .bool u.del, .string u.val] 64)).alloc (.cells #[.string u.key, .int .u64 x.w, .int .u32 x.l, .int .u32 x.n, .bool u.del, .string u.val] 47)
            have HV := hid hv
            have HROW := hid hrow
            have HOO := hid hO
            have HBQ := hid hbq
            have HTL := hid htl
            have HTR := hid htr
            clear hcs hu hfm hix hT htl htr hv hO hbq hrow
            gi_wp2_with (gi_at_builtin; refine wpListIn_append_own _ rfl _ _ 44 rfl w5.heap.size 47 i0 (.agg (vcs Vr.zero).toArray) 6 56 Try.underlying44 hi0 hz0 hz1 hz2 rfl (by decide) _ _ _ rfl hrow2 ⟨wr.heap.size + 1, 0, none⟩ 1 1 (vcs (ver x u)) rfl rfl hnew (vcs_one _) (by unfold maxLen; omega) (by omega) (by simp; omega) ?_; intro v' w9 hown' hgrow _; obtain ⟨g', cap', rfl⟩ := ownsRow_succ hown'; obtain ⟨hv1, hv2, hr2, hk2, ho2, hT2⟩ := ChI.app (HV.out.alloc _) (HROW.out.alloc _) (HOO.out.on HBQ.out) hown' hgrow; have hc1 := hv1.cell; have hf1 := hv1.frozen)
            have HC9 : Hid (ChI w5 Bl (told evs fr pre ++ (vers evs x).take (k + 1)) (w9.setCell ⟨Bl, 0, none⟩ (.slice (some ⟨g', 0, none⟩) (tl + 1) cap'))) := by
              rw [HTN.out]
              refine hid ⟨⟨_, hv2, ?_, trivial⟩, ho2⟩
              rw [List.length_append, List.flatMap_append, ← HTL.out, ← HTR.out]
              simpa using hr2
            have HKO9 := hid (HKO.out.trans ((ko_below HBQ.out).trans hk2))
            have HKE9 := hid (keepT_t HKE.out (keepT_t (keepT_below HBQ.out) (hT2 60 (by decide) (by decide))))
            have HYR9 := hid (owns_keepT HYR.out (keepT_t (keepT_below HBQ.out) (hT2 64 (by decide) (by decide))))
            have HIX9 : Hid (InB (w9.setCell ⟨Bl, 0, none⟩ (.slice (some ⟨g', 0, none⟩) (tl + 1) cap')) Bx x) := hid ((keepT_t (keepT_below HBQ.out) (hT2 60 (by decide) (by decide)) Bx _ _ HIX.out).trans HIX.out)
            gi_roundg (yn - (k + 1))
            case measure => omega
            case rel => exact ⟨k + 1, by omega, rfl, by go_num, HC9, HKO9, HKE9, HYR9, HIX9⟩
          · have HTE : Hid (told evs fr (pre ++ [x]) = told evs fr pre ++ (vers evs x).take k) := hid (by
              rw [HTS.out, List.take_of_length_le]
              unfold vers
              rw [List.length_map]
              have := HYL.out
              omega)
            gi_wp2
            exact ⟨HKO.out.from _, HKE.out, HTT.out, by rw [HTE.out]; exact HCI.out⟩
  case done =>
    rintro D ys W hD ⟨U, hUP, hUS, rfl⟩ ⟨hall, ⟨v, hv, hrow, -⟩, hO⟩ hK
    have hc := hv.cell
    go_wp2_with fail
    refine ⟨by simp, .inl ⟨_, _, rfl, run_takeDeferred hK, ?_⟩⟩
    have hbk : Below w.heap.size w W := HBW.out.trans (hO.below (B := w.heap.size) (fun b hb => by have := HBL.out.1; omega) HBW.out.size)
    obtain ⟨va, vc, rfl⟩ := owns_slice hrow
    exact ⟨_, results_tmp rfl _ _ _, va, _, vc, U, rfl, hid ⟨hUP, hUS⟩, hid (by rw [tw_all hall]), hid (by rw [tw_all hall]; exact ownsRow_putObj (owns_base hrow HBW.out.size) _ hK rfl), hid (hbk.trans (belowK_b (w := w) (Nat.le_refl _) W D _ _ (by have := HBW.out.size; omega) hK rfl rfl))⟩
  case stop =>
    rintro D c pre W hD ⟨U, i, hUP, hUS, hi, rfl⟩ ⟨rfl, pre', x, hpre, hx, hall, ⟨v, hv, hrow, -⟩, hO⟩ hK
    have hc := hv.cell
    refine wpIn_exit ?_
    go_wp2_with fail
    refine ⟨by simp, .inl ⟨_, _, rfl, run_takeDeferred hK, ?_⟩⟩
    have hbk : Below w.heap.size w W := HBW.out.trans (hO.below (B := w.heap.size) (fun b hb => by have := HBL.out.1; omega) HBW.out.size)
    obtain ⟨va, vc, rfl⟩ := owns_slice hrow
    have htw : (U.filter com).takeWhile (fun e => belo e tt) = pre' := by
      have e1 : U.filter com = pre' ++ [x] ++ (U.drop (i + 1)).filter com := by
        rw [← hpre, ← List.filter_append, List.take_append_drop]
      rw [e1]
      exact tw_stop (p := fun e => belo e tt) hx hall
    exact ⟨_, results_tmp rfl _ _ _, va, _, vc, U, rfl, hid ⟨hUP, hUS⟩, hid (by rw [htw]), hid (by rw [htw]; exact ownsRow_putObj (owns_base hrow HBW.out.size) _ hK rfl), hid (hbk.trans (belowK_b (w := w) (Nat.le_refl _) W D _ _ (by have := HBW.out.size; omega) hK rfl rfl))⟩
end Go.Proofs.Ytiheilkjlapoiaa.Lg
