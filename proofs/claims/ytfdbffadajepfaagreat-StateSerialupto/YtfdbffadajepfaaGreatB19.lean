import Derived.Test.YtfdbffadajepfaaGreatB06
/- Release, Get, Len. -/
namespace Go.Proofs.YtfdbffadajepfaaGreat.Lk
open Go.RowKit Go.Sort
set_option linter.unusedVariables false

def hasB (M : List Hd) (i : Ix) : Bool := decide (i ∈ M.map Hd.id)
def dropV (V : List Hv) (i : Ix) : List Hv := V.filter (fun v => !decide (v.h.id = i))
theorem dropV_prs (V : List Hv) (i : Ix) : prs (dropV V i) = dropA (prs V) i := by
  simp only [prs, dropV, dropA, List.filter_map]; rfl
theorem dropV_map (V : List Hv) (i : Ix) : (dropV V i).map Hv.h = dropM (V.map Hv.h) i := by
  simp only [dropV, dropM, List.filter_map]; rfl
theorem dropM_not {M : List Hd} {i : Ix} (h : i ∉ M.map Hd.id) : dropM M i = M :=
  List.filter_eq_self.2 fun x hx => by
    have : x.id ≠ i := fun e => h (List.mem_map.2 ⟨x, hx, e⟩)
    simp [this]
/-- the intents that stand behind a Release -/
def dropI (I : It) (ws : List Wr) : It := dropAll I ws
theorem ok_drop {V : List Hv} {I : It} {i : Ix} {v : Hv} (ok : Ok (V.map Hv.h) I) (h : (v ∈ V ∧ v.h.id = i) ∨ (i ∉ (V.map Hv.h).map Hd.id ∧ v.h.ws = [])) : Ok ((dropV V i).map Hv.h) (dropAll I v.h.ws) := by
  rw [dropV_map]
  rcases h with ⟨hv, rfl⟩ | ⟨hn, hw⟩
  · exact ok.drop (List.mem_map.2 ⟨v, hv, rfl⟩)
  · rw [dropM_not hn, hw]; exact ok
/-- the table behind a Release -/
theorem TbO.dropped {w w' wm : World} {p oo : Nat} {ty : TypeId} {m1 m2 : Option Nat} {V : List Hv} {I : It} {i : Ix} {v : Hv} (T : TbO w p oo ty m1 m2 V I) (hv : (v ∈ V ∧ v.h.id = i) ∨ (i ∉ (V.map Hv.h).map Hd.id ∧ v.h.ws = []))
    (hi : MapO Value.string ixv wm m2 (dropAll I v.h.ws)) (o1 : Onl (fun c => m2 = some c) w wm) (hh : MapO ixv Hv.val w' m1 (dropA (prs V) i)) (o2 : Onl (fun c => m1 = some c) wm w') :
    TbO w' p oo ty m1 m2 (dropV V i) (dropAll I v.h.ws) := by
  have n1 : ∀ b, m1 = some b → b ≠ p := by
    rintro b rfl e
    exact T.ne1 e.symm
  have n2 : ∀ b, m2 = some b → b ≠ p := by
    rintro b rfl e
    exact T.ne2 e.symm
  have hlm : p < wm.heap.size := Nat.lt_of_lt_of_le T.lt o1.size
  have e5 : w'.heap[p]? = w.heap[p]? := (o2.block p hlm (fun e => n1 p e rfl)).trans (o1.block p T.lt (fun e => n2 p e rfl))
  have ba1 : ∀ c, m2 = some c → Bare w c := by rintro c rfl; exact bare_map T.ints
  have heldm : MapO ixv Hv.val wm m1 (prs V) := T.held.same (fun b e => o1.block b (T.held.lt b e) (T.ne b e))
  have ba2 : ∀ c, m1 = some c → Bare wm c := by rintro c rfl; exact bare_map heldm
  refine ⟨(T.objs e5).1, (T.objs e5).2, by rw [dropV_prs]; exact hh, hi.same (fun b e => o2.block b (hi.lt b e) (fun k => T.ne b k e)), fun x hx => ?_, ok_drop T.ok hv, T.nil, T.ne⟩
  exact ((T.rows x (List.mem_filter.1 hx).1).onl o1 ba1).onl o2 ba2

set_option maxHeartbeats 2000000 in
theorem releaseO_is {w : World} {p oo : Nat} {ty : TypeId} {m1 m2 : Option Nat} {V : List Hv} {I : It} (T : TbO w p oo ty m1 m2 V I) (i : Ix) :
    Calls Tryz.prog 93 #[.pointer (some ⟨p, oo, none⟩), ixv i] w fun e w' => e = .returned (.bool (hasB (V.map Hv.h) i)) ∧
      ∃ V' I', TbO w' p oo ty m1 m2 V' I' ∧ V'.map Hv.h = dropM (V.map Hv.h) i ∧ Onl (Its p m1 m2) w w' ∧ (∀ x ∈ V', x ∈ V) ∧ Part p oo 2 w w' := by
  obtain ⟨ic, is⟩ := i
  obtain ⟨wx, hwx⟩ : ∃ wx, wx = w.alloc (.cells #[.int .u32 ic, .int .u32 is] 43) := ⟨_, rfl⟩
  have hbx : Below w.heap.size w wx := by rw [hwx]; exact Below.al (Below.refl _ _) _
  have T0 := T.later hbx
  have c0 := T0.c0
  have x0 : wx.cell? ⟨w.heap.size, 0, none⟩ = some (.int .u32 ic) := by rw [hwx]; simp [go_sem]
  have x1 : wx.cell? ⟨w.heap.size, 1, none⟩ = some (.int .u32 is) := by rw [hwx]; simp [go_sem]
  obtain ⟨v0, ok, hyes, hno, hlook⟩ := T0.held.lookT (P := Tryz.prog) ids Tryz.underlying68 zero_hv ⟨ic, is⟩
  have hok : ok = hasB (V.map Hv.h) ⟨ic, is⟩ := by
    cases ok with
    | true => exact (decide_eq_true (by rw [← prs_keys]; exact List.mem_map.2 ⟨_, hyes rfl, rfl⟩)).symm
    | false => exact (decide_eq_false (by have := (hno rfl).1; rwa [prs_keys] at this)).symm
  have hvv : (v0 ∈ V ∧ v0.h.id = ⟨ic, is⟩) ∨ ((⟨ic, is⟩ : Ix) ∉ (V.map Hv.h).map Hd.id ∧ v0.h.ws = []) := by
    cases ok with
    | true =>
      obtain ⟨v, hv, e⟩ := List.mem_map.1 (hyes rfl)
      injection e with e1 e2
      subst e2
      exact .inl ⟨hv, e1⟩
    | false =>
      have := hno rfl
      rw [prs_keys] at this
      exact .inr ⟨this.1, by rw [this.2]; rfl⟩
  have hvo : v0.ok wx := by
    rcases hvv with ⟨h, _⟩ | ⟨h1, h2⟩
    · exact T0.rows v0 h
    · cases ok with
      | true => exact absurd (by rw [← prs_keys]; exact List.mem_map.2 ⟨_, hyes rfl, rfl⟩) h1
      | false =>
        rw [(hno rfl).2]
        exact ⟨fun i hi => by simp [Hv.zero] at hi, fun i hi => by simp [Hv.zero] at hi, by simp [Hv.zero], by simp [Hv.zero]⟩
  rw [← hok]
  have HVV := hid hvv
  have HVO := hid hvo
  clear hyes hno hok hvv hvo
  obtain ⟨⟨⟨zc, zs⟩, zh, zw, zl, zn, zrs, ws⟩, zra, zrc, wa, wk⟩ := v0
  simp only [Hv.val, ixv] at hlook
  have hwl : ws.length + 1 ≤ 3518437208883 := HVO.out.wl
  have HLK := hid hlook
  have HT := hid T
  have HT0 := hid T0
  have HBX := hid hbx
  have hsx : w.heap.size < wx.heap.size := by rw [hwx]; simp
  clear T T0 hlook hbx
  go_enter Tryz.func93, Tryz.ntmps93
  go_wp2_with fail
  rw [← hwx]
  clear hwx
  go_cut [5, 6] (fun s5 s6 wz => ∃ q : Nat, s5 = .pointer (some ⟨q, 0, none⟩) ∧ s6 = .bool ok ∧ Hid (wz.cell? ⟨q, 7, none⟩ = some (.slice wa ws.length wk)) ∧ Hid (Below wx.heap.size wx wz))
  case first =>
    go_region_held3 (fun w' => w'.cell? ⟨p, oo, none⟩ = some (.map m1) ∧ w'.cell? ⟨w.heap.size, 0, none⟩ = some (.int .u32 ic) ∧ w'.cell? ⟨w.heap.size, 1, none⟩ = some (.int .u32 is) ∧ (Instr.lookup 68 (.map m1) (.agg #[.int .u32 ic, .int .u32 is]) true).run Tryz.prog w' = .ok (.tuple #[.agg #[.int .u32 zc, .int .u32 zs, .int .u32 zh, .int .u64 zw, .int .u32 zl, .int .u32 zn, .slice zra zrs.length zrc, .slice wa ws.length wk], .bool ok]) w' ∧ Below wx.heap.size wx w')
      ((refine (fun (hB : Below wx.heap.size wx _) => ⟨cell_later hB c0, cell_later hB x0, cell_later hB x1, HLK.out _ (fun b e => hB.block b (HT0.out.held.lt b e)), hB⟩) ?_; (repeat (first | exact Below.refl _ _ | assumption | refine Below.drew ?_ | refine Below.al ?_ _ | refine Below.setCell ?_ (by first | exact Nat.le_refl _ | (simp; omega) | (simp; done)) _ | refine Below.on ?_ (by assumption)))))
      (fail)
    all_goals (try go_wp2_with fail)
    all_goals go_meet
    all_goals refine ⟨_, rfl, rfl, hid ?_, hid ?_⟩
    all_goals (first | (simp [go_sem]; done) | ((repeat (first | exact Below.refl _ _ | assumption | refine Below.drew ?_ | refine Below.al ?_ _ | refine Below.setCell ?_ (by first | exact Nat.le_refl _ | (simp; omega) | (simp; done)) _ | refine Below.on ?_ (by assumption)))))
  case rest =>
    obtain ⟨q, rfl, rfl, HQ7, HZ⟩ := hcut
    rename World => wz
    have hbz := HZ.out
    have q7 := HQ7.out
    have hBw : Below w.heap.size w wz := Below.on HBX.out hbz
    have TZ := HT.out.later hBw
    have z0 := TZ.c0
    have z1 := TZ.c1
    have x0 := cell_later hbz x0
    have x1 := cell_later hbz x1
    have hwr : RowW wz wa ws := HVO.out.w.later hbz
    have n2b : ∀ c, m2 = some c → Bare wz c := by rintro c rfl; exact bare_map TZ.ints
    have n2p : ¬ m2 = some p := by rintro rfl; exact TZ.ne2 rfl
    have n2x : ¬ m2 = some w.heap.size := fun e => by have := HT.out.ints.lt _ e; omega
    have n1p : ¬ m1 = some p := by rintro rfl; exact TZ.ne1 rfl
    have n1x : ¬ m1 = some w.heap.size := fun e => by have := HT.out.held.lt _ e; omega
    have HTZ := hid TZ
    have HWR := hid hwr
    have HN2 := hid n2b
    clear TZ hwr n2b HQ7 HLK HT0
    go_wp2_with fail
    go_loopg [21] ws.length (fun g s21 wr => ∃ k : Nat, k ≤ ws.length ∧ g = ws.length - k ∧ s21 = .int .i64 k ∧ Hid (MapO Value.string ixv wr m2 (dropAll I (ws.take k))) ∧ Hid (Onl (fun c => m2 = some c) wz wr))
    case atStart => exact ⟨0, by omega, by omega, rfl, hid (by simpa [dropAll] using HTZ.out.ints), Onl.refl _ _⟩
    case round =>
      obtain ⟨k, hk, rfl, rfl, HM, HR⟩ := hrel
      by_cases hlt : k < ws.length
      · obtain ⟨b, off, e9, d0, d1, d2⟩ := (rowW_onl HWR.out HR.out HN2.out) k hlt
        obtain ⟨⟨key, del, val⟩, hx⟩ : ∃ x, x = nthW ws k := ⟨_, rfl⟩
        rw [← hx] at d0 d1 d2
        simp only at d0 d1 d2
        have HX := hid hx
        clear hx
        subst e9
        obtain ⟨wy, hwy⟩ : ∃ wy, wy = wr.alloc (.cells #[.string key, .bool del, .string val] 97) := ⟨_, rfl⟩
        have hby : Below wr.heap.size wr wy := by rw [hwy]; exact Below.al (Below.refl _ _) _
        have k0 : wy.cell? ⟨wr.heap.size, 0, none⟩ = some (.string key) := by rw [hwy]; simp [go_sem]
        have cy1 := cell_later hby (HR.out.cell n2p z1)
        have nby : ¬ m2 = some wr.heap.size := fun e => by have := HM.out.lt _ e; omega
        obtain ⟨w6, hdel, hm6, ho6, _⟩ := ((HM.out.later hby).later (Below.drew (Below.refl _ _)) : MapO Value.string ixv wy.drew m2 _).drop (P := Tryz.prog) keysS Tryz.underlying69 key 0
        have hdl : ∀ ty, (Builtin.delete_ #[69, 9] ty #[.map m2, .string key]).run Tryz.prog wy.drew = .ok (.tuple #[]) w6 := fun ty => hdel
        have ho6' : Onl (fun c => m2 = some c) wy w6 := (Onl.drew (Onl.refl _ wy)).trans ho6
        have HM6 := hid hm6
        have HOK : Hid (Onl (fun c => m2 = some c) wz w6) := (HR.out.on hby).trans ho6'
        clear hm6 ho6 hdel
        go_wp2_with fail
        rw [← hwy]
        clear hwy
        go_region_held3 (fun w' => w'.cell? ⟨p, oo + 1, none⟩ = some (.map m2) ∧ w'.cell? ⟨wr.heap.size, 0, none⟩ = some (.string key) ∧ Onl (fun c => m2 = some c) wy w')
          ((refine (fun (hO : Onl (fun c => m2 = some c) wy _) => ⟨hO.cell n2p cy1, hO.cell nby k0, hO⟩) ?_; (repeat (first | exact Onl.refl _ _ | assumption | refine Onl.drew ?_))))
          (fail)
        go_wp2_with fail
        go_roundg (ws.length - (k + 1))
        case measure => omega
        case rel =>
          refine ⟨k + 1, by omega, rfl, by go_num, hid ?_, HOK⟩
          have e : dropAll I (ws.take (k + 1)) = dropA (dropAll I (ws.take k)) key := by
            rw [nthW_take hlt, ← HX.out]
            simp [dropAll, List.foldl_append]
          rw [e]; exact HM6.out
      · obtain rfl : k = ws.length := by omega
        have hM := HM.out
        rw [List.take_length] at hM
        rename World => wm
        have hme : MapO ixv Hv.val wm m1 (prs V) := HTZ.out.held.same (fun b e => HR.out.block b (HTZ.out.held.lt b e) (HTZ.out.ne b e))
        have cz0 := HR.out.cell n2p z0
        have cx0 := HR.out.cell n2x x0
        have cx1 := HR.out.cell n2x x1
        obtain ⟨w7, hdel, hm7, ho7, _⟩ := (hme.later (Below.drew (Below.refl _ _)) : MapO ixv Hv.val wm.drew m1 _).drop (P := Tryz.prog) ids Tryz.underlying68 (⟨ic, is⟩ : Ix) 0
        have hdl : ∀ ty, (Builtin.delete_ #[68, 43] ty #[.map m1, .agg #[.int .u32 ic, .int .u32 is]]).run Tryz.prog wm.drew = .ok (.tuple #[]) w7 := fun ty => hdel
        have ho7' : Onl (fun c => m1 = some c) wm w7 := (Onl.drew (Onl.refl _ wm)).trans ho7
        have HTD : Hid (TbO w7 p oo ty m1 m2 (dropV V ⟨ic, is⟩) (dropAll I ws)) := HTZ.out.dropped HVV.out hM HR.out hm7 ho7'
        have HON : Hid (Onl (Its p m1 m2) w w7) := by
          refine (((Onl.of_below hBw : Onl (Its p m1 m2) w wz).fresh HR.out ?_).fresh ho7' ?_)
          · intro c hc; exact .inl (.inr (.inr hc))
          · intro c hc; exact .inl (.inr (.inl hc))
        have HPP : Hid (Part p oo 2 w w7) := hid (((Part.below hBw).trans (Part.onl HR.out n2p)).trans (Part.onl ho7' n1p))
        clear hdel hm7 ho7 hme hM
        go_wp2_with fail
        go_region_held3 (fun w' => w'.cell? ⟨p, oo, none⟩ = some (.map m1) ∧ w'.cell? ⟨w.heap.size, 0, none⟩ = some (.int .u32 ic) ∧ w'.cell? ⟨w.heap.size, 1, none⟩ = some (.int .u32 is) ∧ Onl (fun c => m1 = some c) wm w')
          ((refine (fun (hO : Onl (fun c => m1 = some c) wm _) => ⟨hO.cell n1p cz0, hO.cell n1x cx0, hO.cell n1x cx1, hO⟩) ?_; (repeat (first | exact Onl.refl _ _ | assumption | refine Onl.drew ?_))))
          (fail)
        go_wp2_with fail
        go_ret
        exact ⟨rfl, _, _, HTD.out, dropV_map _ _, HON.out, fun x hx => (List.mem_filter.1 hx).1, HPP.out⟩

theorem release_is {w : World} {p : Nat} {m1 m2 : Option Nat} {V : List Hv} {I : It} (T : Tb w p m1 m2 V I) (i : Ix) :
    Calls Tryz.prog 93 #[.pointer (some ⟨p, 0, none⟩), ixv i] w fun e w' => e = .returned (.bool (hasB (V.map Hv.h) i)) ∧
      ∃ V' I', Tb w' p m1 m2 V' I' ∧ V'.map Hv.h = dropM (V.map Hv.h) i ∧ Onl (Its p m1 m2) w w' ∧ ∀ x ∈ V', x ∈ V :=
  (releaseO_is T i).mono fun e w' ⟨h1, V', I', h2, h3, h4, h5, _⟩ => ⟨h1, V', I', h2, h3, h4, h5⟩
/-- Len -/
theorem len_is {w : World} {p oo : Nat} {ty : TypeId} {m1 m2 : Option Nat} {V : List Hv} {I : It} (T : TbO w p oo ty m1 m2 V I) :
    Calls Tryz.prog 96 #[.pointer (some ⟨p, oo, none⟩)] w fun e w' => e = .returned (.int .i64 V.length) ∧ Below w.heap.size w w' := by
  have c0 := T.c0
  have hl : ∀ ty, (Builtin.len_ #[68] ty #[.map m1]).run Tryz.prog w = .ok (.int .i64 V.length) w := fun ty => by
    have := T.held.len (P := Tryz.prog) Tryz.underlying68 ty
    simpa [goInt] using this
  clear T
  go_enter Tryz.func96, Tryz.ntmps96
  go_wp2_with fail
  go_ret
  exact ⟨rfl, Below.refl _ _⟩
end Go.Proofs.YtfdbffadajepfaaGreat.Lk
/- byID: how ids are compared. -/
namespace Go.Proofs.YtfdbffadajepfaaGreat.Lk
open Go.RowKit Go.Sort Go.Shelf Go.Lib
set_option linter.unusedVariables false

/-- a world with draws and blocks more -/
def Grew (w w' : World) : Prop := ∃ q os, w' = grow (w.drewN q) os
theorem Grew.refl (w : World) : Grew w w := ⟨0, #[], by rw [grow_empty]; rfl⟩
theorem Grew.al {w w' : World} (h : Grew w w') (o : Obj) : Grew w (w'.alloc o) := by
  obtain ⟨q, os, rfl⟩ := h
  exact ⟨q, os ++ #[o], by rw [alloc_eq_grow, grow_grow]⟩
theorem Grew.drew {w w' : World} (h : Grew w w') : Grew w w'.drew := by
  obtain ⟨q, os, rfl⟩ := h
  exact ⟨q + 1, os, rfl⟩
theorem Grew.trans {a b c : World} (h : Grew a b) (k : Grew b c) : Grew a c := by
  obtain ⟨q, os, rfl⟩ := h
  obtain ⟨r, ps, rfl⟩ := k
  refine ⟨q + r, os ++ ps, ?_⟩
  rw [← grow_grow]
  congr 1
  simp [grow, World.drewN, Nat.add_assoc]
def cmpZ (a b : Int) : Int := if a < b then -1 else if b < a then 1 else 0
def cmpI (i j : Ix) : Int := if cmpZ i.1 j.1 = 0 then cmpZ i.2 j.2 else cmpZ i.1 j.1
theorem nan_is (a : Int) (w : World) : Calls Tryz.prog 123 #[.int .u32 a] w fun e w' => e = .returned (.bool false) ∧ w' = w := by
  go_enter Tryz.func123, Tryz.ntmps123
  go_wp2_with fail
  go_ret
  exact ⟨by simp, rfl⟩
theorem cmpU_is (a b : Int) (w : World) : Calls Tryz.prog 78 #[.int .u32 a, .int .u32 b] w fun e w' => e = .returned (.int .i64 (cmpZ a b)) ∧ w' = w := by
  have N := hid (fun x W => nan_is x W)
  by_cases h1 : a < b
  · have e : cmpZ a b = -1 := by simp [cmpZ, h1]
    rw [e]
    clear e
    go_enter Tryz.func78, Tryz.ntmps78
    go_wp2_with (go_at_call 123; refine (N.out _ _).mono ?_; rintro e w1 ⟨rfl, rfl⟩)
    go_ret
    exact ⟨rfl, rfl⟩
  · by_cases h2 : b < a
    · have e : cmpZ a b = 1 := by simp [cmpZ, h1, h2]
      rw [e]
      clear e
      go_enter Tryz.func78, Tryz.ntmps78
      go_wp2_with (go_at_call 123; refine (N.out _ _).mono ?_; rintro e w1 ⟨rfl, rfl⟩)
      go_ret
      exact ⟨rfl, rfl⟩
    · have e : cmpZ a b = 0 := by simp [cmpZ, h1, h2]
      rw [e]
      clear e
      go_enter Tryz.func78, Tryz.ntmps78
      go_wp2_with (go_at_call 123; refine (N.out _ _).mono ?_; rintro e w1 ⟨rfl, rfl⟩)
      go_ret
      exact ⟨rfl, rfl⟩
theorem or_is {x y r : Int} {g : Nat} {w : World} (hr : r = if x = 0 then y else x) (h0 : w.cell? ⟨g, 0, none⟩ = some (.int .i64 x)) (h1 : w.cell? ⟨g, 1, none⟩ = some (.int .i64 y)) :
    Calls Tryz.prog 77 #[.slice (some ⟨g, 0, none⟩) 2 2] w fun e w' => e = .returned (.int .i64 r) ∧ w' = w := by
  have HR := hid hr
  clear hr
  go_enter Tryz.func77, Tryz.ntmps77
  go_wp2_with fail
  go_loopg [8] 2 (fun k s8 wr => wr = w ∧ ((k = 2 ∧ s8 = .int .i64 0) ∨ (k = 1 ∧ s8 = .int .i64 1 ∧ x = 0) ∨ (k = 0 ∧ s8 = .int .i64 2 ∧ x = 0 ∧ y = 0)))
  case atStart => exact ⟨rfl, .inl ⟨rfl, rfl⟩⟩
  case round =>
    obtain ⟨rfl, ⟨rfl, rfl⟩ | ⟨rfl, rfl, rfl⟩ | ⟨rfl, rfl, rfl, rfl⟩⟩ := hrel
    · by_cases hx : x = 0
      · subst hx
        go_wp2_with fail
        go_roundg 1
        case measure => omega
        case rel => exact ⟨rfl, .inr (.inl ⟨rfl, by go_num, by simp⟩)⟩
      · have hx' : (x != 0) = true := by simpa using hx
        have e : r = x := by rw [HR.out, if_neg hx]
        subst e
        go_wp2_with fail
        go_ret
        exact ⟨rfl, rfl⟩
    · by_cases hy : y = 0
      · subst hy
        go_wp2_with fail
        go_roundg 0
        case measure => omega
        case rel => exact ⟨rfl, .inr (.inr ⟨rfl, by go_num, by simp, by simp⟩)⟩
      · have hy' : (y != 0) = true := by simpa using hy
        have e : r = y := by rw [HR.out]; simp
        subst e
        go_wp2_with fail
        go_ret
        exact ⟨rfl, rfl⟩
    · have e : r = 0 := by rw [HR.out]; simp
      subst e
      go_wp2_with fail
      go_ret
      exact ⟨rfl, rfl⟩

set_option maxHeartbeats 400000 in
theorem byID_is (i j : Ix) (w : World) : Calls Tryz.prog 46 #[ixv i, ixv j] w fun e w' => e = .returned (.int .i64 (cmpI i j)) ∧ ∃ q os, w' = grow (w.drewN q) os := by
  obtain ⟨ic, is⟩ := i
  obtain ⟨jc, js⟩ := j
  obtain ⟨r, hr⟩ : ∃ r, r = if cmpZ ic jc = 0 then cmpZ is js else cmpZ ic jc := ⟨_, rfl⟩
  rw [show cmpI ⟨ic, is⟩ ⟨jc, js⟩ = r from hr.symm]
  have HR := hid hr
  clear hr
  obtain ⟨wb, hwb⟩ : ∃ wb, wb = (w.alloc (.cells #[.int .u32 ic, .int .u32 is] 43)).alloc (.cells #[.int .u32 jc, .int .u32 js] 43) := ⟨_, rfl⟩
  have a0 : wb.cell? ⟨w.heap.size, 0, none⟩ = some (.int .u32 ic) := by rw [hwb]; simp [go_sem]
  have a1 : wb.cell? ⟨w.heap.size, 1, none⟩ = some (.int .u32 is) := by rw [hwb]; simp [go_sem]
  have b0 : wb.cell? ⟨w.heap.size + 1, 0, none⟩ = some (.int .u32 jc) := by rw [hwb]; simp [go_sem]
  have b1 : wb.cell? ⟨w.heap.size + 1, 1, none⟩ = some (.int .u32 js) := by rw [hwb]; simp [go_sem]
  have HG : Hid (Grew w wb) := by show Grew _ _; rw [hwb]; exact ((Grew.refl w).al _).al _
  go_enter Tryz.func46, Tryz.ntmps46
  go_wp2_with fail
  rw [← hwb]
  clear hwb
  go_region_held3 (fun w' => w'.cell? ⟨w.heap.size, 0, none⟩ = some (.int .u32 ic) ∧ w'.cell? ⟨w.heap.size, 1, none⟩ = some (.int .u32 is) ∧ w'.cell? ⟨w.heap.size + 1, 0, none⟩ = some (.int .u32 jc) ∧ w'.cell? ⟨w.heap.size + 1, 1, none⟩ = some (.int .u32 js) ∧ Below wb.heap.size wb w')
    ((refine (fun (hB : Below wb.heap.size wb _) => ⟨cell_later hB a0, cell_later hB a1, cell_later hB b0, cell_later hB b1, hB⟩) ?_; (repeat (first | exact Below.refl _ _ | assumption | refine Below.drew ?_ | refine Below.al ?_ _ | refine Below.setCell ?_ (by first | exact Nat.le_refl _ | (simp; omega) | (simp; done)) _ | refine Below.on ?_ (by assumption)))))
    (first
      | (go_at_call 78; refine (cmpU_is _ _ _).mono ?_; rintro e w1 ⟨rfl, rfl⟩)
      | (go_at_call 77; refine (or_is HR.out (by simp [go_sem]) (by simp [go_sem])).mono ?_; rintro e w1 ⟨rfl, rfl⟩))
  all_goals (try go_wp2_with fail)
  go_ret
  exact ⟨rfl, (HG.out.al _).drew⟩

set_option maxHeartbeats 1000000 in
theorem all1_is (v u : Hv) (w : World) : Calls Tryz.prog 227 #[v.val, u.val] w fun e w' => e = .returned (.int .i64 (cmpI v.h.id u.h.id)) ∧ ∃ q os, w' = grow (w.drewN q) os := by
  obtain ⟨⟨⟨vc, vs⟩, home, vw, vl, vn, rs, ws⟩, ra, rc, wa, wk⟩ := v
  obtain ⟨⟨⟨uc, us⟩, uhome, uw, ul, un, urs, uws⟩, ura, urc, uwa, uwk⟩ := u
  simp only
  obtain ⟨r, hr⟩ : ∃ r, cmpI ⟨vc, vs⟩ ⟨uc, us⟩ = r := ⟨_, rfl⟩
  rw [hr]
  have B : Hid (∀ W, Calls Tryz.prog 46 #[.agg #[.int .u32 vc, .int .u32 vs], .agg #[.int .u32 uc, .int .u32 us]] W fun e w' => e = .returned (.int .i64 r) ∧ ∃ q os, w' = grow (W.drewN q) os) := fun W => by rw [← hr]; exact byID_is _ _ W
  clear hr
  go_enter Tryz.func227, Tryz.ntmps227
  go_wp2_with (go_at_call 46; refine (B.out _).mono ?_; rintro e w1 ⟨rfl, q, os, rfl⟩)
  go_ret
  exact ⟨rfl, (((Grew.refl w).al _).al _).trans ⟨q, os, rfl⟩⟩

/-- how ids are ordered -/
def ltI (i j : Ix) : Bool := decide (i.1 < j.1) || (decide (i.1 = j.1) && decide (i.2 < j.2))
theorem cmp_lt (i j : Ix) : decide (cmpI i j < 0) = ltI i j := by
  unfold cmpI cmpZ ltI
  rcases Int.lt_trichotomy i.1 j.1 with h | h | h
  · have h1 : i.1 < j.1 := h
    simp [h1]
  · rw [h]
    rcases Int.lt_trichotomy i.2 j.2 with k | k | k
    · simp [k]
    · simp [k]
    · have k1 : ¬ i.2 < j.2 := by omega
      simp [k, k1]
  · have h1 : ¬ i.1 < j.1 := by omega
    have h2 : ¬ i.1 = j.1 := by omega
    simp [h, h1, h2]
abbrev hcs (v : Hv) : List Value := [.int .u32 v.h.id.1, .int .u32 v.h.id.2, .int .u32 v.h.home, .int .u64 v.h.w, .int .u32 v.h.l, .int .u32 v.h.n, .slice v.ra v.h.rs.length v.rc, .slice v.wa v.h.ws.length v.wc]
theorem box_cells {w : World} {g : Nat} {y : Hv} (h : w.heap[g]? = some (.cells (hcs y).toArray 62)) : ∀ o v, (hcs y)[o]? = some v → w.cell? ⟨g, o, none⟩ = some v := fun o v hv => cell_of_obj h (by simpa using hv)
theorem ltI_tri {i j : Ix} (h : ltI i j = false) (h' : ltI j i = false) : i = j := by
  obtain ⟨a, b⟩ := i
  obtain ⟨c, d⟩ := j
  simp [ltI] at h h'
  have e : a = c := by omega
  subst e
  simp at h h'
  have e : b = d := by omega
  rw [e]
theorem ltI_of {i j : Ix} (h : ltI j i = false) (h' : i ≠ j) : ltI i j = true := by
  cases e : ltI i j with
  | true => rfl
  | false => exact absurd (ltI_tri e h) h'

end Go.Proofs.YtfdbffadajepfaaGreat.Lk
/- Get. -/
namespace Go.Proofs.YtfdbffadajepfaaGreat.Lk
open Go.RowKit Go.Sort
set_option linter.unusedVariables false

theorem Hv.fresh.low {B B' : Nat} {w w' : World} {F : Nat → Prop} {v : Hv} (h : v.fresh B w) (ho : Onl F w w') (hF : ∀ g, F g → g < B) (hB : B' ≤ B) : v.fresh B' w' :=
  ⟨owns_base (owns_keep h.r fun g e => ho.block g (h.r.lt g e).2 (fun k => by have := hF g k; have := (h.r.lt g e).1; omega)) hB, owns_base (owns_keep h.w fun g e => ho.block g (h.w.lt g e).2 (fun k => by have := hF g k; have := (h.w.lt g e).1; omega)) hB⟩

set_option maxHeartbeats 2000000 in
theorem get_is {w : World} {p oo : Nat} {ty : TypeId} {m1 m2 : Option Nat} {V : List Hv} {I : It} (T : TbO w p oo ty m1 m2 V I) (i : Ix) :
    Calls Tryz.prog 40 #[.pointer (some ⟨p, oo, none⟩), ixv i] w fun e w' => ∃ u : Hv, e = .returned (.tuple #[.agg #[.int .u32 u.h.id.1, .int .u32 u.h.id.2, .int .u32 u.h.home, .int .u64 u.h.w, .int .u32 u.h.l, .int .u32 u.h.n, .slice u.ra u.h.rs.length u.rc, .slice u.wa u.h.ws.length u.wc], .bool (hasB (V.map Hv.h) i)]) ∧
      Hid (hasB (V.map Hv.h) i = true → u.h ∈ V.map Hv.h ∧ u.h.id = i) ∧ Hid (hasB (V.map Hv.h) i = false → u.h = Hv.zero.h) ∧ Hid (u.fresh w.heap.size w') ∧ Hid (u.ok w') ∧ Hid (Below w.heap.size w w') := by
  obtain ⟨ic, is⟩ := i
  obtain ⟨wx, hwx⟩ : ∃ wx, wx = (w.alloc (.cells #[.int .u32 ic, .int .u32 is] 43)).alloc (.cells #[.int .u32 0, .int .u32 0, .int .u32 0, .int .u64 0, .int .u32 0, .int .u32 0, .slice none 0 0, .slice none 0 0] 62) := ⟨_, rfl⟩
  have hbx : Below w.heap.size w wx := by rw [hwx]; exact Below.al (Below.al (Below.refl _ _) _) _
  have T0 := T.later hbx
  have c0 := T0.c0
  have x0 : wx.cell? ⟨w.heap.size, 0, none⟩ = some (.int .u32 ic) := by rw [hwx]; simp [go_sem]
  have x1 : wx.cell? ⟨w.heap.size, 1, none⟩ = some (.int .u32 is) := by rw [hwx]; simp [go_sem]
  have hz : wx.heap[w.heap.size + 1]? = some (.cells #[.int .u32 0, .int .u32 0, .int .u32 0, .int .u64 0, .int .u32 0, .int .u32 0, .slice none 0 0, .slice none 0 0] 62) := by
    rw [hwx, show w.heap.size + 1 = (w.alloc (.cells #[.int .u32 ic, .int .u32 is] 43)).heap.size by simp]
    exact (MapKept.heap_alloc _ _).1
  obtain ⟨v0, ok, hyes, hno, hlook⟩ := T0.held.lookT (P := Tryz.prog) ids Tryz.underlying68 zero_hv ⟨ic, is⟩
  have hok : ok = hasB (V.map Hv.h) ⟨ic, is⟩ := by
    cases ok with
    | true => exact (decide_eq_true (by rw [← prs_keys]; exact List.mem_map.2 ⟨_, hyes rfl, rfl⟩)).symm
    | false => exact (decide_eq_false (by have := (hno rfl).1; rwa [prs_keys] at this)).symm
  have hvv : (ok = true → v0 ∈ V ∧ v0.h.id = ⟨ic, is⟩) ∧ (ok = false → v0 = Hv.zero) := by
    refine ⟨fun e => ?_, fun e => (hno e).2⟩
    obtain ⟨v, hv, e⟩ := List.mem_map.1 (hyes e)
    injection e with e1 e2
    subst e2
    exact ⟨hv, e1⟩
  have hvo : v0.ok wx := by
    cases ok with
    | true => exact T0.rows v0 (hvv.1 rfl).1
    | false =>
      rw [hvv.2 rfl]
      exact ⟨fun i hi => by simp [Hv.zero] at hi, fun i hi => by simp [Hv.zero] at hi, by simp [Hv.zero], by simp [Hv.zero]⟩
  rw [← hok]
  have HVV := hid hvv
  have HVO := hid hvo
  have HT0 := hid T0
  have HBX := hid hbx
  have HZ := hid hz
  have hsx : w.heap.size + 1 < wx.heap.size := by rw [hwx]; simp
  simp only [Hv.val, ixv] at hlook
  have HLK := hid hlook
  clear hyes hno hok hvv hvo T T0 hbx hz hlook
  go_enter Tryz.func40, Tryz.ntmps40
  go_wp2_with fail
  rw [← hwx]
  clear hwx
  go_cut [6, 7] (fun s6 s7 wz => ∃ q : Nat, s6 = .pointer (some ⟨q, 0, none⟩) ∧ s7 = .bool ok ∧ Hid (∀ o u, (hcs v0)[o]? = some u → wz.cell? ⟨q, o, none⟩ = some u) ∧ Hid (Below wx.heap.size wx wz))
  case first =>
    go_region_held3 (fun w' => w'.cell? ⟨p, oo, none⟩ = some (.map m1) ∧ w'.cell? ⟨w.heap.size, 0, none⟩ = some (.int .u32 ic) ∧ w'.cell? ⟨w.heap.size, 1, none⟩ = some (.int .u32 is) ∧ (Instr.lookup 68 (.map m1) (.agg #[.int .u32 ic, .int .u32 is]) true).run Tryz.prog w' = .ok (.tuple #[.agg #[.int .u32 v0.h.id.1, .int .u32 v0.h.id.2, .int .u32 v0.h.home, .int .u64 v0.h.w, .int .u32 v0.h.l, .int .u32 v0.h.n, .slice v0.ra v0.h.rs.length v0.rc, .slice v0.wa v0.h.ws.length v0.wc], .bool ok]) w' ∧ Below wx.heap.size wx w')
      ((refine (fun (hB : Below wx.heap.size wx _) => ⟨cell_later hB c0, cell_later hB x0, cell_later hB x1, HLK.out _ (fun b e => hB.block b (HT0.out.held.lt b e)), hB⟩) ?_; (repeat (first | exact Below.refl _ _ | assumption | refine Below.drew ?_ | refine Below.al ?_ _ | refine Below.setCell ?_ (by first | exact Nat.le_refl _ | (simp; omega) | (simp; done)) _ | refine Below.on ?_ (by assumption)))))
      (fail)
    all_goals (try go_wp2_with fail)
    all_goals go_meet
    all_goals refine ⟨_, rfl, rfl, hid ?_, hid ?_⟩
    all_goals first
      | (refine box_cells (g := _) ?_
         first
         | exact (MapKept.heap_alloc _ _).1
         | (simp [hcs, World.drew, World.alloc]; done))
      | ((repeat (first | exact Below.refl _ _ | assumption | refine Below.drew ?_ | refine Below.al ?_ _ | refine Below.setCell ?_ (by first | exact Nat.le_refl _ | (simp; omega) | (simp; done)) _ | refine Below.on ?_ (by assumption))))
  case rest =>
    obtain ⟨q, rfl, rfl, HQ, HC⟩ := hcut
    rename World => wz
    have q0 := HQ.out 0 _ rfl
    have q1 := HQ.out 1 _ rfl
    have q2 := HQ.out 2 _ rfl
    have q3 := HQ.out 3 _ rfl
    have q4 := HQ.out 4 _ rfl
    have q5 := HQ.out 5 _ rfl
    have q6 := HQ.out 6 _ rfl
    have q7 := HQ.out 7 _ rfl
    have OW := hid (own_is (HVO.out.later HC.out))
    simp only [Hv.val] at OW
    have HB2 : Hid (Below w.heap.size w wz) := Below.on HBX.out HC.out
    have hzz := (HC.out.block _ hsx).trans HZ.out
    go_wp2_with fail
    refine OW.out.mono ?_
    rintro e w3 ⟨u, rfl, huh, huf, hb3⟩
    have hz3 : w3.heap[w.heap.size + 1]? = some (.cells #[.int .u32 0, .int .u32 0, .int .u32 0, .int .u64 0, .int .u32 0, .int .u32 0, .slice none 0 0, .slice none 0 0] 62) := (hb3.block _ (by have := HC.out.size; omega)).trans hzz
    have f3 : ∀ o, w3.frozen? ⟨w.heap.size + 1, o, none⟩ = false := fun o => by simp [World.frozen?, hz3]
    have HUH := hid huh
    have HUF := hid huf
    have HB3 : Hid (Below w.heap.size w w3) := Below.on HB2.out hb3
    have hsz3 : w.heap.size + 1 < wz.heap.size := Nat.lt_of_lt_of_le hsx HC.out.size
    clear OW hb3 hzz huh huf HQ
    have r0 : w3.cell? ⟨w.heap.size + 1, 0, none⟩ = some (.int .u32 0) := cell_of_obj hz3 rfl
    have r1 : w3.cell? ⟨w.heap.size + 1, 1, none⟩ = some (.int .u32 0) := cell_of_obj hz3 rfl
    have r2 : w3.cell? ⟨w.heap.size + 1, 2, none⟩ = some (.int .u32 0) := cell_of_obj hz3 rfl
    have r3 : w3.cell? ⟨w.heap.size + 1, 3, none⟩ = some (.int .u64 0) := cell_of_obj hz3 rfl
    have r4 : w3.cell? ⟨w.heap.size + 1, 4, none⟩ = some (.int .u32 0) := cell_of_obj hz3 rfl
    have r5 : w3.cell? ⟨w.heap.size + 1, 5, none⟩ = some (.int .u32 0) := cell_of_obj hz3 rfl
    have r6 : w3.cell? ⟨w.heap.size + 1, 6, none⟩ = some (.slice none 0 0) := cell_of_obj hz3 rfl
    have r7 : w3.cell? ⟨w.heap.size + 1, 7, none⟩ = some (.slice none 0 0) := cell_of_obj hz3 rfl
    have HH := hid hz3
    clear hz3
    go_wp2_with fail
    obtain ⟨w8, hw8⟩ : ∃ w8, w8 = (((((((w3.setCell ⟨w.heap.size + 1, 0, none⟩ (.int .u32 u.h.id.1)).setCell ⟨w.heap.size + 1, 1, none⟩ (.int .u32 u.h.id.2)).setCell ⟨w.heap.size + 1, 2, none⟩ (.int .u32 u.h.home)).setCell ⟨w.heap.size + 1, 3, none⟩ (.int .u64 u.h.w)).setCell ⟨w.heap.size + 1, 4, none⟩ (.int .u32 u.h.l)).setCell ⟨w.heap.size + 1, 5, none⟩ (.int .u32 u.h.n)).setCell ⟨w.heap.size + 1, 6, none⟩ (.slice u.ra u.h.rs.length u.rc)).setCell ⟨w.heap.size + 1, 7, none⟩ (.slice u.wa u.h.ws.length u.wc) := ⟨_, rfl⟩
    have hO8 : Onl (fun b => b = w.heap.size + 1) w3 w8 := by
      rw [hw8]
      repeat refine Onl.set ?_ (by rfl) _ _
      exact Onl.refl _ _
    have hb8 : Below w.heap.size w w8 := by
      rw [hw8]
      repeat refine Below.setCell ?_ (by exact Nat.le_succ _) _
      exact HB3.out
    have hblk8 : w8.heap[w.heap.size + 1]? = some (.cells #[.int .u32 u.h.id.1, .int .u32 u.h.id.2, .int .u32 u.h.home, .int .u64 u.h.w, .int .u32 u.h.l, .int .u32 u.h.n, .slice u.ra u.h.rs.length u.rc, .slice u.wa u.h.ws.length u.wc] 62) := by
      rw [hw8]
      exact heap_setCell_same _ _ _ _ _ _ (heap_setCell_same _ _ _ _ _ _ (heap_setCell_same _ _ _ _ _ _ (heap_setCell_same _ _ _ _ _ _ (heap_setCell_same _ _ _ _ _ _ (heap_setCell_same _ _ _ _ _ _ (heap_setCell_same _ _ _ _ _ _ (heap_setCell_same _ _ _ _ _ _ HH.out)))))))
    rw [← hw8]
    have t0 : w8.cell? ⟨w.heap.size + 1, 0, none⟩ = some (.int .u32 u.h.id.1) := cell_of_obj hblk8 rfl
    have t1 : w8.cell? ⟨w.heap.size + 1, 1, none⟩ = some (.int .u32 u.h.id.2) := cell_of_obj hblk8 rfl
    have t2 : w8.cell? ⟨w.heap.size + 1, 2, none⟩ = some (.int .u32 u.h.home) := cell_of_obj hblk8 rfl
    have t3 : w8.cell? ⟨w.heap.size + 1, 3, none⟩ = some (.int .u64 u.h.w) := cell_of_obj hblk8 rfl
    have t4 : w8.cell? ⟨w.heap.size + 1, 4, none⟩ = some (.int .u32 u.h.l) := cell_of_obj hblk8 rfl
    have t5 : w8.cell? ⟨w.heap.size + 1, 5, none⟩ = some (.int .u32 u.h.n) := cell_of_obj hblk8 rfl
    have t6 : w8.cell? ⟨w.heap.size + 1, 6, none⟩ = some (.slice u.ra u.h.rs.length u.rc) := cell_of_obj hblk8 rfl
    have t7 : w8.cell? ⟨w.heap.size + 1, 7, none⟩ = some (.slice u.wa u.h.ws.length u.wc) := cell_of_obj hblk8 rfl
    clear hw8 hblk8
    have hfr : u.fresh w.heap.size w8 := HUF.out.low hO8 (fun g e => by omega) (by omega)
    refine bodyPost_ret (v := .tuple #[.agg #[.int .u32 u.h.id.1, .int .u32 u.h.id.2, .int .u32 u.h.home, .int .u64 u.h.w, .int .u32 u.h.l, .int .u32 u.h.n, .slice u.ra u.h.rs.length u.rc, .slice u.wa u.h.ws.length u.wc], .bool ok]) (by simp [results, Tryz.results40, go_sem, t0, t1, t2, t3, t4, t5, t6, t7]) rfl ⟨u, rfl, ?_, ?_, hfr, hfr.ok (by rw [HUH.out]; exact HVO.out.rl) (by rw [HUH.out]; exact HVO.out.wl), hb8⟩
    · intro e
      obtain ⟨h1, h2⟩ := HVV.out.1 e
      exact ⟨by rw [HUH.out]; exact List.mem_map.2 ⟨_, h1, rfl⟩, by rw [HUH.out]; exact h2⟩
    · intro e
      rw [HUH.out, HVV.out.2 e]
end Go.Proofs.YtfdbffadajepfaaGreat.Lk
