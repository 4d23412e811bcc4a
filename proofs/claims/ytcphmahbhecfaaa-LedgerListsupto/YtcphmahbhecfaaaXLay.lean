import Derived.Test.YtcphmahbhecfaaaXTab
/- lay. -/
namespace Go.Proofs.Ytcphmahbhecfaaa.Lg
open Go.RowKit Go.Sort Lk
set_option linter.unusedVariables false

theorem LgO.made {w : World} {p oo : Nat} {ty : TypeId} {M : List En} (T : LgO w p oo ty none M) :
    LgO ((w.setCell ⟨p, oo, none⟩ (.map (some w.heap.size))).alloc (.map #[] 0)) p oo ty (some w.heap.size) M := by
  have hM : M = [] := by have : prsE M = [] := T.ents; simpa [prsE] using this
  subst hM
  have hlt := T.lt
  obtain ⟨w2, h2⟩ : ∃ w2, w2 = w.setCell ⟨p, oo, none⟩ (.map (some w.heap.size)) := ⟨_, rfl⟩
  have hs : w2.heap.size = w.heap.size := by rw [h2]; simp
  obtain ⟨cs, hc, y0⟩ := T.obj
  have l0 := (Array.getElem?_eq_some_iff.1 y0).1
  have b0 : w2.heap[p]? = some (.cells (cs.setIfInBounds oo (.map (some w.heap.size))) ty (0, 0)) := by rw [h2]; exact heap_put _ hc
  rw [← h2, ← hs]
  rw [← hs] at b0 hlt
  clear h2
  refine ⟨⟨_, ((MapKept.heap_alloc _ _).2 p hlt).trans b0, by simp [l0]⟩, ?_⟩
  · refine ⟨#[], 0, ?_, MapKept.stamped_empty 0, by simp [prsE], by simp [prsE]⟩
    exact (MapKept.heap_alloc _ _).1
set_option maxHeartbeats 1000000 in
theorem layO_is {w : World} {p oo : Nat} {ty : TypeId} {m : Option Nat} {M : List En} {e : En} (T : LgO w p oo ty m M) (hn : e.id ∉ M.map En.id) :
    Calls Try.prog 12 #[.pointer (some ⟨p, oo, none⟩), .agg #[.int .u32 e.id.1, .int .u32 e.id.2, .int .u32 e.home, .int .i64 e.oc, .int .u64 e.w, .int .u32 e.l, .int .u32 e.n]] w fun r w' => r = .returned (.tuple #[]) ∧
      ∃ b, Hid (LgO w' p oo ty (some b) (M ++ [e])) ∧ Hid (m = some b ∨ w.heap.size ≤ b) ∧ Hid (Onl (ItsL p m) w w') ∧ Hid (Part p oo 1 w w') := by
  obtain ⟨wx, hwx⟩ : ∃ wx, wx = w.alloc (.cells #[.int .u32 e.id.1, .int .u32 e.id.2, .int .u32 e.home, .int .i64 e.oc, .int .u64 e.w, .int .u32 e.l, .int .u32 e.n] 36) := ⟨_, rfl⟩
  have hbx : Below w.heap.size w wx := by rw [hwx]; exact Below.al (Below.refl _ _) _
  have hblk : wx.heap[w.heap.size]? = some (.cells #[.int .u32 e.id.1, .int .u32 e.id.2, .int .u32 e.home, .int .i64 e.oc, .int .u64 e.w, .int .u32 e.l, .int .u32 e.n] 36) := by rw [hwx]; exact (MapKept.heap_alloc _ _).1
  have T0 := T.later hbx
  have c0 := T0.c0
  have c0' : (w.alloc (.cells #[.int .u32 e.id.1, .int .u32 e.id.2, .int .u32 e.home, .int .i64 e.oc, .int .u64 e.w, .int .u32 e.l, .int .u32 e.n] 36)).cell? ⟨p, oo, none⟩ = some (.map m) := by rw [← hwx]; exact c0
  have hnm := run_nilMap m
  have hsx : w.heap.size < wx.heap.size := by rw [hwx]; simp
  have HT := hid T
  have HT0 := hid T0
  have HBX := hid hbx
  have HBK := hid hblk
  have HN := hid hn
  clear T T0 hbx hblk hn
  go_enter Try.func12, Try.ntmps12
  go_upto_if 8 with fail
  rw [← hwx]
  clear hwx c0'
  go_cut [] (fun wE => ∃ b, Hid (LgO wE p oo ty (some b) M) ∧ Hid (Part p oo 1 w wE) ∧ Hid (Onl (ItsL p m) w wE) ∧ Hid (wE.heap[w.heap.size]? = wx.heap[w.heap.size]?) ∧ Hid (m = some b ∨ w.heap.size ≤ b))
  case first =>
    cases m with
    | some b =>
      go_wp2_with fail
      go_meet
      exact ⟨b, HT0, hid (Part.below HBX.out), Onl.of_below HBX.out, rfl, .inl rfl⟩
    | none =>
      have f0 : ∀ o, wx.frozen? ⟨p, o, none⟩ = false := fun o => HT0.out.loose o
      have hpl := HT0.out.lt
      have hne : p ≠ wx.heap.size := by omega
      have mk1 : ∀ W, (Instr.makeMap 48 none).run Try.prog W = .ok (.map (some W.heap.size)) (W.alloc (.map #[] 0)) := fun W => run_makeMap _ W
      go_wp2_with fail
      go_meet
      refine ⟨wx.heap.size, HT0.out.made, hid (((Part.below HBX.out).trans (Part.set _ p oo _)).al _), ?_, ?_, .inr (Nat.le_of_lt hsx)⟩
      · exact hid (Onl.al (Onl.set (Onl.of_below HBX.out) (Or.inl rfl) _ _) _)
      · show _ = _
        have hpn : w.heap.size ≠ p := by have := HT.out.lt; omega
        rw [(MapKept.heap_alloc _ _).2 _ (by simpa using hsx), Below.heap_setCell _ _ _ _ (by exact hpn)]
  case rest =>
    obtain ⟨b, HE, HPE, HO, HX, H1⟩ := hcut
    rename World => wE
    clear c0
    have hblk := HX.out.trans HBK.out
    have x0 : wE.cell? ⟨w.heap.size, 0, none⟩ = some (.int .u32 e.id.1) := cell_of_obj hblk rfl
    have x1 : wE.cell? ⟨w.heap.size, 1, none⟩ = some (.int .u32 e.id.2) := cell_of_obj hblk rfl
    have x2 : wE.cell? ⟨w.heap.size, 2, none⟩ = some (.int .u32 e.home) := cell_of_obj hblk rfl
    have x3 : wE.cell? ⟨w.heap.size, 3, none⟩ = some (.int .i64 e.oc) := cell_of_obj hblk rfl
    have x4 : wE.cell? ⟨w.heap.size, 4, none⟩ = some (.int .u64 e.w) := cell_of_obj hblk rfl
    have x5 : wE.cell? ⟨w.heap.size, 5, none⟩ = some (.int .u32 e.l) := cell_of_obj hblk rfl
    have x6 : wE.cell? ⟨w.heap.size, 6, none⟩ = some (.int .u32 e.n) := cell_of_obj hblk rfl
    have c0 := HE.out.c0
    have nb : b ≠ w.heap.size := fun k => mapat_ne HE.out.ents hblk k.symm
    have np : b ≠ p := fun k => HE.out.ne k.symm
    obtain ⟨w6, hput, hm6, ho6, _⟩ := (HE.out.ents.later (Below.drew (Below.refl _ _)) : MapO ixv En.val wE.drew (some b) _).put (P := Try.prog) ids Try.underlying48 e.id e
    simp only [ixv, En.val] at hput
    have ho6' : Onl (fun c => b = c) wE w6 := (Onl.drew (Onl.refl _ wE)).trans ho6
    have HPF : Hid (Part p oo 1 w w6) := hid (HPE.out.trans (Part.onl ho6' np))
    have HFin : Hid (LgO w6 p oo ty (some b) (M ++ [e])) := by
      refine ⟨HE.out.objs (ho6'.block p HE.out.lt np), ?_⟩
      rw [putA_new (by rw [prsE_keys]; exact HN.out)] at hm6
      simpa [prsE] using hm6
    have HOF : Hid (Onl (ItsL p m) w w6) := HO.out.fresh ho6' (fun i hi => by
      subst hi
      rcases H1.out with k | k
      · exact .inl (.inr k)
      · exact .inr k)
    clear hm6 ho6 hblk HX HBK HBX HT HT0 HE hnm
    go_wp2_with fail
    go_region_held3 (fun w' => w'.cell? ⟨p, oo, none⟩ = some (.map (some b)) ∧ w'.cell? ⟨w.heap.size, 0, none⟩ = some (.int .u32 e.id.1) ∧ w'.cell? ⟨w.heap.size, 1, none⟩ = some (.int .u32 e.id.2) ∧ w'.cell? ⟨w.heap.size, 2, none⟩ = some (.int .u32 e.home) ∧ w'.cell? ⟨w.heap.size, 3, none⟩ = some (.int .i64 e.oc) ∧ w'.cell? ⟨w.heap.size, 4, none⟩ = some (.int .u64 e.w) ∧ w'.cell? ⟨w.heap.size, 5, none⟩ = some (.int .u32 e.l) ∧ w'.cell? ⟨w.heap.size, 6, none⟩ = some (.int .u32 e.n) ∧ Onl (fun c => b = c) wE w')
      ((refine (fun (hO : Onl (fun c => b = c) wE _) => ⟨hO.cell np c0, hO.cell nb x0, hO.cell nb x1, hO.cell nb x2, hO.cell nb x3, hO.cell nb x4, hO.cell nb x5, hO.cell nb x6, hO⟩) ?_; (repeat (first | exact Onl.refl _ _ | assumption | refine Onl.drew ?_ | refine Onl.on ?_ (by assumption)))))
      (fail)
    all_goals (try go_wp2_with fail)
    first | go_end0 | refine bodyPost_ret (results_none rfl _ _ _) rfl ?_
    exact ⟨rfl, b, HFin, H1, HOF, HPF⟩
theorem lay_is {w : World} {p : Nat} {m : Option Nat} {M : List En} {e : En} (T : Lg w p m M) (hn : e.id ∉ M.map En.id) :
    Calls Try.prog 12 #[.pointer (some ⟨p, 0, none⟩), .agg #[.int .u32 e.id.1, .int .u32 e.id.2, .int .u32 e.home, .int .i64 e.oc, .int .u64 e.w, .int .u32 e.l, .int .u32 e.n]] w fun r w' => r = .returned (.tuple #[]) ∧
      ∃ b, Hid (Lg w' p (some b) (M ++ [e])) ∧ Hid (m = some b ∨ w.heap.size ≤ b) ∧ Hid (Onl (ItsL p m) w w') :=
  (layO_is T hn).mono fun r w' ⟨h1, b, h2, h3, h4, _⟩ => ⟨h1, b, h2, h3, h4⟩
end Go.Proofs.Ytcphmahbhecfaaa.Lg
