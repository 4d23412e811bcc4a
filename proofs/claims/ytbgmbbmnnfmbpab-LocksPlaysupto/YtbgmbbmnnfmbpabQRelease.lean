import Derived.Test.YtbgmbbmnnfmbpabQHold
/- Release, Get, Len. -/
namespace Go.Proofs.Ytbgmbbmnnfmbpab.Lk
open Go.RowKit Go.Sort
set_option linter.unusedVariables false

def hasB (M : List Hd) (i : Ix) : Bool := decide (i ∈ M.map Hd.id)
def dropV (V : List Hv) (i : Ix) : List Hv := V.filter (fun v => !decide (v.h.id = i))
theorem dropV_prs (V : List Hv) (i : Ix) : prs (dropV V i) = dropA (prs V) i := by
  simp only [prs, dropV, dropA, List.filter_map]; rfl
theorem dropV_map (V : List Hv) (i : Ix) : (dropV V i).map Hv.h = dropM (V.map Hv.h) i := by
  simp only [dropV, dropM, List.filter_map]; rfl
theorem dropM_not {M : List Hd} {i : Ix} (h : i ∉ M.map Hd.id) : dropM M i = M :=
  List.filter_eq_self.2 fun x hx => by
    have : x.id ≠ i := fun e => h (List.mem_map.2 ⟨x, hx, e⟩)
    simp [this]
/-- the intents that stand behind a Release -/
def dropI (I : It) (ws : List Wr) : It := dropAll I ws
theorem ok_drop {V : List Hv} {I : It} {i : Ix} {v : Hv} (ok : Ok (V.map Hv.h) I) (h : (v ∈ V ∧ v.h.id = i) ∨ (i ∉ (V.map Hv.h).map Hd.id ∧ v.h.ws = [])) : Ok ((dropV V i).map Hv.h) (dropAll I v.h.ws) := by
  rw [dropV_map]
  rcases h with ⟨hv, rfl⟩ | ⟨hn, hw⟩
  · exact ok.drop (List.mem_map.2 ⟨v, hv, rfl⟩)
  · rw [dropM_not hn, hw]; exact ok
/-- the table behind a Release -/
theorem Tb.dropped {w w' wm : World} {p : Nat} {m1 m2 : Option Nat} {V : List Hv} {I : It} {i : Ix} {v : Hv} (T : Tb w p m1 m2 V I) (hv : (v ∈ V ∧ v.h.id = i) ∨ (i ∉ (V.map Hv.h).map Hd.id ∧ v.h.ws = []))
    (hi : MapO Value.string ixv wm m2 (dropAll I v.h.ws)) (o1 : Onl (fun c => m2 = some c) w wm) (hh : MapO ixv Hv.val w' m1 (dropA (prs V) i)) (o2 : Onl (fun c => m1 = some c) wm w') :
    Tb w' p m1 m2 (dropV V i) (dropAll I v.h.ws) := by
  have n1 : ∀ b, m1 = some b → b ≠ p := by
    rintro b rfl e
    exact mapat_ne (γ := Ix) (δ := Hv) (ev' := ixv) (fv' := Hv.val) T.held T.blk e.symm
  have n2 : ∀ b, m2 = some b → b ≠ p := by
    rintro b rfl e
    exact mapat_ne (γ := Ix) (δ := Hv) (ev' := ixv) (fv' := Hv.val) T.ints T.blk e.symm
  have bm : wm.heap[p]? = some (.cells #[.map m1, .map m2] 49) := (o1.block p T.lt (fun e => n2 p e rfl)).trans T.blk
  have hlm : p < wm.heap.size := (Array.getElem?_eq_some_iff.1 bm).1
  have ba1 : ∀ c, m2 = some c → Bare w c := by rintro c rfl; exact bare_map T.ints
  have heldm : MapO ixv Hv.val wm m1 (prs V) := T.held.same (fun b e => o1.block b (T.held.lt b e) (T.ne b e))
  have ba2 : ∀ c, m1 = some c → Bare wm c := by rintro c rfl; exact bare_map heldm
  refine ⟨(o2.block p hlm (fun e => n1 p e rfl)).trans bm, by rw [dropV_prs]; exact hh, hi.same (fun b e => o2.block b (hi.lt b e) (fun k => T.ne b k e)), fun x hx => ?_, ok_drop T.ok hv, T.nil, T.ne⟩
  exact ((T.rows x (List.mem_filter.1 hx).1).onl o1 ba1).onl o2 ba2

set_option maxHeartbeats 2000000 in
theorem release_is {w : World} {p : Nat} {m1 m2 : Option Nat} {V : List Hv} {I : It} (T : Tb w p m1 m2 V I) (i : Ix) :
    Calls Try.prog 14 #[.pointer (some ⟨p, 0, none⟩), ixv i] w fun e w' => e = .returned (.bool (hasB (V.map Hv.h) i)) ∧
      ∃ V' I', Tb w' p m1 m2 V' I' ∧ V'.map Hv.h = dropM (V.map Hv.h) i ∧ Onl (Its p m1 m2) w w' ∧ ∀ x ∈ V', x ∈ V := by
  obtain ⟨ic, is⟩ := i
  obtain ⟨wx, hwx⟩ : ∃ wx, wx = w.alloc (.cells #[.int .u32 ic, .int .u32 is] 29) := ⟨_, rfl⟩
  have hbx : Below w.heap.size w wx := by rw [hwx]; exact Below.al (Below.refl _ _) _
  have T0 := T.later hbx
  have c0 := T0.c0
  have x0 : wx.cell? ⟨w.heap.size, 0, none⟩ = some (.int .u32 ic) := by rw [hwx]; simp [go_sem]
  have x1 : wx.cell? ⟨w.heap.size, 1, none⟩ = some (.int .u32 is) := by rw [hwx]; simp [go_sem]
  obtain ⟨v0, ok, hyes, hno, hlook⟩ := T0.held.lookT (P := Try.prog) ids Try.underlying46 zero_hv ⟨ic, is⟩
  have hok : ok = hasB (V.map Hv.h) ⟨ic, is⟩ := by
    cases ok with
    | true => exact (decide_eq_true (by rw [← prs_keys]; exact List.mem_map.2 ⟨_, hyes rfl, rfl⟩)).symm
    | false => exact (decide_eq_false (by have := (hno rfl).1; rwa [prs_keys] at this)).symm
  have hvv : (v0 ∈ V ∧ v0.h.id = ⟨ic, is⟩) ∨ ((⟨ic, is⟩ : Ix) ∉ (V.map Hv.h).map Hd.id ∧ v0.h.ws = []) := by
    cases ok with
    | true =>
      obtain ⟨v, hv, e⟩ := List.mem_map.1 (hyes rfl)
      injection e with e1 e2
      subst e2
      exact .inl ⟨hv, e1⟩
    | false =>
      have := hno rfl
      rw [prs_keys] at this
      exact .inr ⟨this.1, by rw [this.2]; rfl⟩
  have hvo : v0.ok wx := by
    rcases hvv with ⟨h, _⟩ | ⟨h1, h2⟩
    · exact T0.rows v0 h
    · cases ok with
      | true => exact absurd (by rw [← prs_keys]; exact List.mem_map.2 ⟨_, hyes rfl, rfl⟩) h1
      | false =>
        rw [(hno rfl).2]
        exact ⟨fun i hi => by simp [Hv.zero] at hi, fun i hi => by simp [Hv.zero] at hi, by simp [Hv.zero], by simp [Hv.zero]⟩
  rw [← hok]
  have HVV := hid hvv
  have HVO := hid hvo
  clear hyes hno hok hvv hvo
  obtain ⟨⟨⟨zc, zs⟩, zh, zw, zl, zn, zrs, ws⟩, zra, zrc, wa, wk⟩ := v0
  simp only [Hv.val, ixv] at hlook
  have hwl : ws.length + 1 ≤ 3518437208883 := HVO.out.wl
  have HLK := hid hlook
  have HT := hid T
  have HT0 := hid T0
  have HBX := hid hbx
  have hsx : w.heap.size < wx.heap.size := by rw [hwx]; simp
  clear T T0 hlook hbx
  go_enter Try.func14, Try.ntmps14
  go_wp2_with fail
  rw [← hwx]
  clear hwx
  go_cut [5, 6] (fun s5 s6 wz => ∃ q : Nat, s5 = .pointer (some ⟨q, 0, none⟩) ∧ s6 = .bool ok ∧ Hid (wz.cell? ⟨q, 7, none⟩ = some (.slice wa ws.length wk)) ∧ Hid (Below wx.heap.size wx wz))
  case first =>
    go_region_held3 (fun w' => w'.cell? ⟨p, 0, none⟩ = some (.map m1) ∧ w'.cell? ⟨w.heap.size, 0, none⟩ = some (.int .u32 ic) ∧ w'.cell? ⟨w.heap.size, 1, none⟩ = some (.int .u32 is) ∧ (Instr.lookup 46 (.map m1) (.agg #[.int .u32 ic, .int .u32 is]) true).run Try.prog w' = .ok (.tuple #[.agg #[.int .u32 zc, .int .u32 zs, .int .u32 zh, .int .u64 zw, .int .u32 zl, .int .u32 zn, .slice zra zrs.length zrc, .slice wa ws.length wk], .bool ok]) w' ∧ Below wx.heap.size wx w')
      ((refine (fun (hB : Below wx.heap.size wx _) => ⟨cell_later hB c0, cell_later hB x0, cell_later hB x1, HLK.out _ (fun b e => hB.block b (HT0.out.held.lt b e)), hB⟩) ?_; (repeat (first | exact Below.refl _ _ | assumption | refine Below.drew ?_ | refine Below.al ?_ _ | refine Below.setCell ?_ (by first | exact Nat.le_refl _ | (simp; omega) | (simp; done)) _ | refine Below.on ?_ (by assumption)))))
      (fail)
    all_goals (try go_wp2_with fail)
    all_goals go_meet
    all_goals refine ⟨_, rfl, rfl, hid ?_, hid ?_⟩
    all_goals (first | (simp [go_sem]; done) | ((repeat (first | exact Below.refl _ _ | assumption | refine Below.drew ?_ | refine Below.al ?_ _ | refine Below.setCell ?_ (by first | exact Nat.le_refl _ | (simp; omega) | (simp; done)) _ | refine Below.on ?_ (by assumption)))))
  case rest =>
    obtain ⟨q, rfl, rfl, HQ7, HZ⟩ := hcut
    rename World => wz
    have hbz := HZ.out
    have q7 := HQ7.out
    have hBw : Below w.heap.size w wz := Below.on HBX.out hbz
    have TZ := HT.out.later hBw
    have z0 := TZ.c0
    have z1 := TZ.c1
    have x0 := cell_later hbz x0
    have x1 := cell_later hbz x1
    have hwr : RowW wz wa ws := HVO.out.w.later hbz
    have n2b : ∀ c, m2 = some c → Bare wz c := by rintro c rfl; exact bare_map TZ.ints
    have n2p : ¬ m2 = some p := by rintro rfl; exact mapat_ne (γ := Ix) (δ := Hv) (ev' := ixv) (fv' := Hv.val) TZ.ints TZ.blk rfl
    have n2x : ¬ m2 = some w.heap.size := fun e => by have := HT.out.ints.lt _ e; omega
    have n1p : ¬ m1 = some p := by rintro rfl; exact mapat_ne (γ := Ix) (δ := Hv) (ev' := ixv) (fv' := Hv.val) TZ.held TZ.blk rfl
    have n1x : ¬ m1 = some w.heap.size := fun e => by have := HT.out.held.lt _ e; omega
    have HTZ := hid TZ
    have HWR := hid hwr
    have HN2 := hid n2b
    clear TZ hwr n2b HQ7 HLK HT0
    go_wp2_with fail
    go_loopg [21] ws.length (fun g s21 wr => ∃ k : Nat, k ≤ ws.length ∧ g = ws.length - k ∧ s21 = .int .i64 k ∧ Hid (MapO Value.string ixv wr m2 (dropAll I (ws.take k))) ∧ Hid (Onl (fun c => m2 = some c) wz wr))
    case atStart => exact ⟨0, by omega, by omega, rfl, hid (by simpa [dropAll] using HTZ.out.ints), Onl.refl _ _⟩
    case round =>
      obtain ⟨k, hk, rfl, rfl, HM, HR⟩ := hrel
      by_cases hlt : k < ws.length
      · obtain ⟨b, off, e9, d0, d1, d2⟩ := (rowW_onl HWR.out HR.out HN2.out) k hlt
        obtain ⟨⟨key, del, val⟩, hx⟩ : ∃ x, x = nthW ws k := ⟨_, rfl⟩
        rw [← hx] at d0 d1 d2
        simp only at d0 d1 d2
        have HX := hid hx
        clear hx
        subst e9
        obtain ⟨wy, hwy⟩ : ∃ wy, wy = wr.alloc (.cells #[.string key, .bool del, .string val] 70) := ⟨_, rfl⟩
        have hby : Below wr.heap.size wr wy := by rw [hwy]; exact Below.al (Below.refl _ _) _
        have k0 : wy.cell? ⟨wr.heap.size, 0, none⟩ = some (.string key) := by rw [hwy]; simp [go_sem]
        have cy1 := cell_later hby (HR.out.cell n2p z1)
        have nby : ¬ m2 = some wr.heap.size := fun e => by have := HM.out.lt _ e; omega
        obtain ⟨w6, hdel, hm6, ho6, _⟩ := ((HM.out.later hby).later (Below.drew (Below.refl _ _)) : MapO Value.string ixv wy.drew m2 _).drop (P := Try.prog) keysS Try.underlying47 key 0
        have hdl : ∀ ty, (Builtin.delete_ #[47, 9] ty #[.map m2, .string key]).run Try.prog wy.drew = .ok (.tuple #[]) w6 := fun ty => hdel
        have ho6' : Onl (fun c => m2 = some c) wy w6 := (Onl.drew (Onl.refl _ wy)).trans ho6
        have HM6 := hid hm6
        have HOK : Hid (Onl (fun c => m2 = some c) wz w6) := (HR.out.on hby).trans ho6'
        clear hm6 ho6 hdel
        go_wp2_with fail
        rw [← hwy]
        clear hwy
        go_region_held3 (fun w' => w'.cell? ⟨p, 1, none⟩ = some (.map m2) ∧ w'.cell? ⟨wr.heap.size, 0, none⟩ = some (.string key) ∧ Onl (fun c => m2 = some c) wy w')
          ((refine (fun (hO : Onl (fun c => m2 = some c) wy _) => ⟨hO.cell n2p cy1, hO.cell nby k0, hO⟩) ?_; (repeat (first | exact Onl.refl _ _ | assumption | refine Onl.drew ?_))))
          (fail)
        go_wp2_with fail
        go_roundg (ws.length - (k + 1))
        case measure => omega
        case rel =>
          refine ⟨k + 1, by omega, rfl, by go_num, hid ?_, HOK⟩
          have e : dropAll I (ws.take (k + 1)) = dropA (dropAll I (ws.take k)) key := by
            rw [nthW_take hlt, ← HX.out]
            simp [dropAll, List.foldl_append]
          rw [e]; exact HM6.out
      · obtain rfl : k = ws.length := by omega
        have hM := HM.out
        rw [List.take_length] at hM
        rename World => wm
        have hme : MapO ixv Hv.val wm m1 (prs V) := HTZ.out.held.same (fun b e => HR.out.block b (HTZ.out.held.lt b e) (HTZ.out.ne b e))
        have cz0 := HR.out.cell n2p z0
        have cx0 := HR.out.cell n2x x0
        have cx1 := HR.out.cell n2x x1
        obtain ⟨w7, hdel, hm7, ho7, _⟩ := (hme.later (Below.drew (Below.refl _ _)) : MapO ixv Hv.val wm.drew m1 _).drop (P := Try.prog) ids Try.underlying46 (⟨ic, is⟩ : Ix) 0
        have hdl : ∀ ty, (Builtin.delete_ #[46, 29] ty #[.map m1, .agg #[.int .u32 ic, .int .u32 is]]).run Try.prog wm.drew = .ok (.tuple #[]) w7 := fun ty => hdel
        have ho7' : Onl (fun c => m1 = some c) wm w7 := (Onl.drew (Onl.refl _ wm)).trans ho7
        have HTD : Hid (Tb w7 p m1 m2 (dropV V ⟨ic, is⟩) (dropAll I ws)) := HTZ.out.dropped HVV.out hM HR.out hm7 ho7'
        have HON : Hid (Onl (Its p m1 m2) w w7) := by
          refine (((Onl.of_below hBw : Onl (Its p m1 m2) w wz).fresh HR.out ?_).fresh ho7' ?_)
          · intro c hc; exact .inl (.inr (.inr hc))
          · intro c hc; exact .inl (.inr (.inl hc))
        clear hdel hm7 ho7 hme hM
        go_wp2_with fail
        go_region_held3 (fun w' => w'.cell? ⟨p, 0, none⟩ = some (.map m1) ∧ w'.cell? ⟨w.heap.size, 0, none⟩ = some (.int .u32 ic) ∧ w'.cell? ⟨w.heap.size, 1, none⟩ = some (.int .u32 is) ∧ Onl (fun c => m1 = some c) wm w')
          ((refine (fun (hO : Onl (fun c => m1 = some c) wm _) => ⟨hO.cell n1p cz0, hO.cell n1x cx0, hO.cell n1x cx1, hO⟩) ?_; (repeat (first | exact Onl.refl _ _ | assumption | refine Onl.drew ?_))))
          (fail)
        go_wp2_with fail
        go_ret
        exact ⟨rfl, _, _, HTD.out, dropV_map _ _, HON.out, fun x hx => (List.mem_filter.1 hx).1⟩

/-- Len -/
theorem len_is {w : World} {p : Nat} {m1 m2 : Option Nat} {V : List Hv} {I : It} (T : Tb w p m1 m2 V I) :
    Calls Try.prog 24 #[.pointer (some ⟨p, 0, none⟩)] w fun e w' => e = .returned (.int .i64 V.length) ∧ Below w.heap.size w w' := by
  have c0 := T.c0
  have hl : ∀ ty, (Builtin.len_ #[46] ty #[.map m1]).run Try.prog w = .ok (.int .i64 V.length) w := fun ty => by
    have := T.held.len (P := Try.prog) Try.underlying46 ty
    simpa [goInt] using this
  clear T
  go_enter Try.func24, Try.ntmps24
  go_wp2_with fail
  go_ret
  exact ⟨rfl, Below.refl _ _⟩
end Go.Proofs.Ytbgmbbmnnfmbpab.Lk
