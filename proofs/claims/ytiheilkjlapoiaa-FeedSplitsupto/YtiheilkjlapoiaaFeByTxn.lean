import Derived.Test.YtiheilkjlapoiaaFeParts
/- feed.byTxn (written by mk_febytxn.py). -/
namespace Go.Proofs.Ytiheilkjlapoiaa.Lg
open Go.RowKit Go.Sort Go.Shelf Go.Lib Lk
open Go.ChangeMaps (setBlock heap_setBlock_same heap_setBlock_other)
set_option linter.unusedVariables false

theorem infoEv : (Try.prog.info? 72).map (fun i => (i.zero, i.size, i.bytes)) = some (some (.agg Ev.zero.cs.toArray), 20, 184) := by kernel_rfl
theorem zero_sl (W : World) : (zeroValue 37).run Try.prog W = .ok (slv ⟨none, 0, 0⟩) W := by kernel_rfl
set_option maxHeartbeats 2000000 in
set_option maxRecDepth 100000 in
theorem byTxn_is {a : Option Addr} {n c : Nat} {evs : List Ev} {w : World} (hr : RowEv w a evs) (hn : evs.length = n) (hlen : n ≤ 1048576) :
    Calls Try.prog 10 #[.slice a n c] w fun e w' => ∃ (b : Nat) (ps : List (Ix × Sl)), e = .returned (.map (some b)) ∧ Hid (MapO ixv slv w' (some b) ps) ∧ Hid (Parts w' w.heap.size ps evs) ∧ Hid (Below w.heap.size w w') := by
  have HR := hid hr
  have HN := hid hn
  clear hr hn
  have mk1 : ∀ W, (Instr.makeMap 51 none).run Try.prog W = .ok (.map (some W.heap.size)) (W.alloc (.map #[] 0)) := fun W => run_makeMap _ W
  obtain ⟨w0, hw0⟩ : ∃ w0, w0 = w.alloc (.map #[] 0) := ⟨_, rfl⟩
  have hb0 : Below w.heap.size w w0 := by rw [hw0]; exact Below.al (Below.refl _ _) _
  have hV0 : MapO ixv slv w0 (some w.heap.size) [] := by rw [hw0]; exact ⟨#[], 0, (MapKept.heap_alloc _ _).1, MapKept.stamped_empty 0, by simp, by simp⟩
  have HB0 := hid hb0
  have HV0 := hid hV0
  clear hb0 hV0
  obtain ⟨i0, hi0, hz0, hz1, hz2⟩ := info_of infoEv
  go_enter Try.func10, Try.ntmps10
  go_wp2_with fail
  rw [← hw0]
  clear hw0 mk1
  obtain ⟨mb, hmb⟩ : ∃ mb, mb = w.heap.size := ⟨_, rfl⟩
  have HMB : Hid (w.heap.size ≤ mb) := hid (by omega)
  rw [← hmb] at HV0 ⊢
  clear hmb
  go_loopg [9] n (fun g s9 wr => ∃ (i : Nat) (ps : List (Ix × Sl)), i ≤ n ∧ g = n - i ∧ s9 = .int .i64 i ∧ Hid (MapO ixv slv wr (some mb) ps) ∧ Hid (Parts wr w.heap.size ps (evs.take i)) ∧ Hid (Below w.heap.size w wr))
  case atStart => exact ⟨0, [], by omega, by omega, rfl, HV0, hid (Parts.nil _ _), HB0⟩
  case round =>
    obtain ⟨i, ps, hi, rfl, rfl, HV, HP, HBr⟩ := hrel
    by_cases hlt : i < n
    · obtain ⟨b, off, ea, hbl, hcs⟩ := HR.out.later HBr.out i (by have := HN.out; omega)
      obtain ⟨x, hx⟩ : ∃ x, x = nthV evs i := ⟨_, rfl⟩
      rw [← hx] at hcs
      have HT : Hid (evs.take (i + 1) = evs.take i ++ [x]) := hid (by rw [nthV_take evs i (by have := HN.out; omega), hx])
      subst ea
      have hx20 : ∀ j v, ([.int .i64 x.asked, .int .i64 x.answered, .int .u32 x.client, .int .u32 x.id.1, .int .u32 x.id.2, .int .i64 x.kind, .bool x.ro, .bool x.asof, .bool x.back, .string x.tok, .string x.key, .string x.hi, .string x.val, .int .i64 x.lim, .int .i64 x.st, .int .u64 x.aw, .int .u32 x.al, .int .u32 x.an, .slice x.pa x.pn x.pc, .string x.tk] : List Value)[j]? = some v → wr.cell? ((⟨b, off + i * 20, none⟩ : Addr).add j) = some v := fun j v hj => by rw [Addr.add_lit]; exact hcs j v hj
      clear hcs hx
      obtain ⟨wx, hwx⟩ : ∃ wx, wx = wr.alloc (.cells #[.int .i64 x.asked, .int .i64 x.answered, .int .u32 x.client, .int .u32 x.id.1, .int .u32 x.id.2, .int .i64 x.kind, .bool x.ro, .bool x.asof, .bool x.back, .string x.tok, .string x.key, .string x.hi, .string x.val, .int .i64 x.lim, .int .i64 x.st, .int .u64 x.aw, .int .u32 x.al, .int .u32 x.an, .slice x.pa x.pn x.pc, .string x.tk] 72) := ⟨_, rfl⟩
      have hkx : wx.heap[wr.heap.size]? = some (.cells #[.int .i64 x.asked, .int .i64 x.answered, .int .u32 x.client, .int .u32 x.id.1, .int .u32 x.id.2, .int .i64 x.kind, .bool x.ro, .bool x.asof, .bool x.back, .string x.tok, .string x.key, .string x.hi, .string x.val, .int .i64 x.lim, .int .i64 x.st, .int .u64 x.aw, .int .u32 x.al, .int .u32 x.an, .slice x.pa x.pn x.pc, .string x.tk] 72) := by rw [hwx]; exact (MapKept.heap_alloc _ _).1
      have y3 : wx.cell? ⟨wr.heap.size, 3, none⟩ = some (.int .u32 x.id.1) := cell_of_obj hkx rfl
      have y4 : wx.cell? ⟨wr.heap.size, 4, none⟩ = some (.int .u32 x.id.2) := cell_of_obj hkx rfl
      have hy20 : ∀ j v, ([.int .i64 x.asked, .int .i64 x.answered, .int .u32 x.client, .int .u32 x.id.1, .int .u32 x.id.2, .int .i64 x.kind, .bool x.ro, .bool x.asof, .bool x.back, .string x.tok, .string x.key, .string x.hi, .string x.val, .int .i64 x.lim, .int .i64 x.st, .int .u64 x.aw, .int .u32 x.al, .int .u32 x.an, .slice x.pa x.pn x.pc, .string x.tk] : List Value)[j]? = some v → wx.cell? ((⟨wr.heap.size, 0, none⟩ : Addr).add j) = some v := fun j v hj => by
        rw [Addr.add_lit, Nat.zero_add]
        exact cell_of_obj hkx (by simpa using hj)
      have HBX : Hid (Below wr.heap.size wr wx) := hid (by rw [hwx]; exact Below.al (Below.refl _ _) _)
      clear hkx
      go_upto_region 5 with (first | (refine wpList_load_at (by rfl) 72 _ (by rfl) ⟨b, off + i * 20, none⟩ (by rfl) [.int .i64 x.asked, .int .i64 x.answered, .int .u32 x.client, .int .u32 x.id.1, .int .u32 x.id.2, .int .i64 x.kind, .bool x.ro, .bool x.asof, .bool x.back, .string x.tok, .string x.key, .string x.hi, .string x.val, .int .i64 x.lim, .int .i64 x.st, .int .u64 x.aw, .int .u32 x.al, .int .u32 x.an, .slice x.pa x.pn x.pc, .string x.tk] _ hx20 Try.underlying72 rfl szEv ?_) | (refine wpList_store_new (by rfl) 72 _ _ (by rfl) #[.int .i64 x.asked, .int .i64 x.answered, .int .u32 x.client, .int .u32 x.id.1, .int .u32 x.id.2, .int .i64 x.kind, .bool x.ro, .bool x.asof, .bool x.back, .string x.tok, .string x.key, .string x.hi, .string x.val, .int .i64 x.lim, .int .i64 x.st, .int .u64 x.aw, .int .u32 x.al, .int .u32 x.an, .slice x.pa x.pn x.pc, .string x.tk] _ 72 (by rfl) (by rfl) szEv (by rfl) (ev_all x) ?_))
      rw [← hwx]
      clear hwx hx20
      obtain ⟨wy, hwy⟩ : ∃ wy, wy = wx.alloc (.cells #[.int .i64 x.asked, .int .i64 x.answered, .int .u32 x.client, .int .u32 x.id.1, .int .u32 x.id.2, .int .i64 x.kind, .bool x.ro, .bool x.asof, .bool x.back, .string x.tok, .string x.key, .string x.hi, .string x.val, .int .i64 x.lim, .int .i64 x.st, .int .u64 x.aw, .int .u32 x.al, .int .u32 x.an, .slice x.pa x.pn x.pc, .string x.tk] 72) := ⟨_, rfl⟩
      have hky : wy.heap[wx.heap.size]? = some (.cells #[.int .i64 x.asked, .int .i64 x.answered, .int .u32 x.client, .int .u32 x.id.1, .int .u32 x.id.2, .int .i64 x.kind, .bool x.ro, .bool x.asof, .bool x.back, .string x.tok, .string x.key, .string x.hi, .string x.val, .int .i64 x.lim, .int .i64 x.st, .int .u64 x.aw, .int .u32 x.al, .int .u32 x.an, .slice x.pa x.pn x.pc, .string x.tk] 72) := by rw [hwy]; exact (MapKept.heap_alloc _ _).1
      have HBY : Hid (Below wr.heap.size wr wy) := hid (by rw [hwy]; exact Below.al HBX.out _)
      have hMy : MapO ixv slv wy (some mb) ps := HV.out.later HBY.out
      have hmlt : mb < wr.heap.size := HV.out.lt mb rfl
      have hxlt : wr.heap.size ≤ wx.heap.size := HBX.out.size
      obtain ⟨v0, st, es1, clock1, hent, hv0, hsto⟩ := hMy.entry (P := Try.prog) ids Try.underlying51 (z := ⟨none, 0, 0⟩) zero_sl x.id
      obtain ⟨es, clock, hmap, _⟩ := hMy.at
      obtain ⟨w1, hw1⟩ : ∃ w1, w1 = setBlock wy mb (.map es1 clock1) := ⟨_, rfl⟩
      have hm1 : w1.heap[mb]? = some (.map es1 clock1) := by rw [hw1]; exact heap_setBlock_same hmap _
      have ho1 : ∀ j, j ≠ mb → w1.heap[j]? = wy.heap[j]? := fun j hj => by rw [hw1]; exact heap_setBlock_other hmap _ hj
      have hs1 : w1.heap.size = wy.heap.size := by rw [hw1]; simp [setBlock]
      have HON1 : Hid (Onl (fun b => b = mb) wy w1) := hid ⟨by rw [hw1]; rfl, by rw [hw1]; rfl, by rw [hw1]; rfl, by omega, fun j _ hj => ho1 j hj⟩
      rw [← hw1] at hent
      have hnev : (slv v0).ownBlock ≠ some mb := by
        rcases hv0 with hv | ⟨_, e⟩
        · obtain ⟨g, cs, hg, _, _, hc⟩ := owns_block (HP.out.row _ _ hv) (HP.out.len _ _ hv).2
          rw [hg]
          intro k
          injection k with k
          have := HBY.out.block mb hmlt
          rw [hmap, ← k, hc] at this
          cases this
        · rw [e]; simp [Value.ownBlock]
      have hlen0 : (ofT x.id (evs.take i)).length = v0.n := by
        rcases hv0 with hv | ⟨hv, e⟩
        · exact (HP.out.len _ _ hv).1
        · rw [HP.out.void _ hv, e]; rfl
      have hn0 : v0.n ≤ i := by
        rw [← hlen0]
        refine Nat.le_trans (List.length_filter_le _ _) ?_
        rw [List.length_take]; omega
      have hrow1 : w1.ownsRow w.heap.size 72 20 (slv v0) v0.n ((ofT x.id (evs.take i)).flatMap Ev.cs) := by
        rcases hv0 with hv | ⟨hv, e⟩
        · refine owns_same (HP.out.row _ _ hv) fun g cs hg hc => ?_
          have hgl := (Array.getElem?_eq_some_iff.1 hc).1
          rw [ho1 g (fun k => hnev (by rw [hg, k]))]
          exact HBY.out.block g hgl
        · rw [HP.out.void _ hv, e]
          exact World.ownsRow_nil _ _ _ _
      obtain ⟨r0, hr0⟩ : ∃ r0, r0 = (ofT x.id (evs.take i)).flatMap Ev.cs := ⟨_, rfl⟩
      rw [← hr0] at hrow1
      have hnews : ∀ j u, ([.int .i64 x.asked, .int .i64 x.answered, .int .u32 x.client, .int .u32 x.id.1, .int .u32 x.id.2, .int .i64 x.kind, .bool x.ro, .bool x.asof, .bool x.back, .string x.tok, .string x.key, .string x.hi, .string x.val, .int .i64 x.lim, .int .i64 x.st, .int .u64 x.aw, .int .u32 x.al, .int .u32 x.an, .slice x.pa x.pn x.pc, .string x.tk] : List Value)[j]? = some u → w1.cell? ((⟨wx.heap.size, 0, none⟩ : Addr).add j) = some u := fun j u hj => by
        rw [Addr.add_lit, Nat.zero_add]
        exact cell_of_obj ((ho1 _ (by omega)).trans hky) (by simpa using hj)
      have hb1 : w.heap.size ≤ w1.heap.size := Nat.le_trans HBr.out.size (by have := HBY.out.size; omega)
      have HSZ : Hid (wr.heap.size ≤ w1.heap.size) := hid (by have := HBY.out.size; omega)
      have HST := hid hsto
      have HM1 := hid hm1
      have HO1 := hid ho1
      have HV0' := hid hv0
      have HNEV := hid hnev
      have HR0 := hid hr0
      rw [hwy] at hent
      obtain ⟨va, vn, vc⟩ := v0
      simp only [slv, ixv, goInt] at hent hrow1 hn0
      clear hsto hm1 ho1 hv0 hnev hlen0 hr0 hky hMy hmap hwy hw1 hs1
      go_wp2_with (first | (refine wpList_load_at (by rfl) 72 _ (by rfl) ⟨wr.heap.size, 0, none⟩ (by rfl) [.int .i64 x.asked, .int .i64 x.answered, .int .u32 x.client, .int .u32 x.id.1, .int .u32 x.id.2, .int .i64 x.kind, .bool x.ro, .bool x.asof, .bool x.back, .string x.tok, .string x.key, .string x.hi, .string x.val, .int .i64 x.lim, .int .i64 x.st, .int .u64 x.aw, .int .u32 x.al, .int .u32 x.an, .slice x.pa x.pn x.pc, .string x.tk] _ hy20 Try.underlying72 rfl szEv ?_) | (at_builtin; refine wpList_append_keep _ rfl _ _ 37 rfl w.heap.size 72 i0 (.agg Ev.zero.cs.toArray) 20 184 Try.underlying37 hi0 hz0 hz1 hz2 rfl (by decide) (.slice va vn vc) vn r0 rfl hrow1 ⟨wx.heap.size, 0, none⟩ 1 1 [.int .i64 x.asked, .int .i64 x.answered, .int .u32 x.client, .int .u32 x.id.1, .int .u32 x.id.2, .int .i64 x.kind, .bool x.ro, .bool x.asof, .bool x.back, .string x.tok, .string x.key, .string x.hi, .string x.val, .int .i64 x.lim, .int .i64 x.st, .int .u64 x.aw, .int .u32 x.al, .int .u32 x.an, .slice x.pa x.pn x.pc, .string x.tk] rfl rfl hnews (Ev.cs_one x) (by unfold maxLen; omega) (by omega) hb1 (by decide) ?_))
      · intro v' w2 hown hgrow _ hnear
        obtain ⟨a', c', rfl⟩ := owns_slice hown
        have hm2 : w2.heap[mb]? = some (.map es1 clock1) := by
          rw [← HM1.out]
          exact hgrow.block mb (Nat.lt_of_lt_of_le hmlt HSZ.out) (fun e => HNEV.out e.symm)
        obtain ⟨o2, hst, hM3⟩ := HST.out w2 ⟨a', vn + 1, c'⟩ hm2
        simp only [slv, goInt] at hst
        obtain ⟨w3, hw3⟩ : ∃ w3, w3 = setBlock w2 mb o2 := ⟨_, rfl⟩
        obtain ⟨es2, clock2, hk2, _⟩ := HV.out.at
        have ho3 : ∀ j, j ≠ mb → w3.heap[j]? = w2.heap[j]? := fun j hj => by
          rw [hw3]
          simp only [setBlock]
          rw [Array.getElem?_setIfInBounds_ne (Ne.symm hj)]
        rw [← hw3] at hst hM3
        have hs3 : w3.heap.size = w2.heap.size := by rw [hw3]; simp [setBlock]
        have hgs : w1.heap.size ≤ w2.heap.size := hgrow.size
        have hgb : ∀ j, j < w1.heap.size → (Value.slice va vn vc).ownBlock ≠ some j → w2.heap[j]? = w1.heap[j]? := fun j hj hne => hgrow.block j hj (fun e => hne e.symm)
        have hkeep : ∀ j, j < wr.heap.size → j ≠ mb → (Value.slice va vn vc).ownBlock ≠ some j → w3.heap[j]? = wr.heap[j]? := fun j hj hne hb => by
          rw [ho3 j hne, hgb j (Nat.lt_of_lt_of_le hj HSZ.out) hb, HO1.out j hne]
          exact HBY.out.block j hj
        have hcm : ∀ (j : Nat) (cs : Array Value) (T : TypeId), wr.heap[j]? = some (Obj.cells cs T (0, 0)) → j ≠ mb := fun j cs T hj k => by
          subst k
          rw [hk2] at hj
          cases hj
        have HP3 : Hid (Parts w3 w.heap.size (putA ps x.id ⟨a', vn + 1, c'⟩) (evs.take (i + 1))) := by
          rw [HT.out]
          refine hid (Parts.step (v0 := ⟨va, vn, vc⟩) HP.out HV0'.out rfl ?_ (fun g cs hg hb => hkeep g (Array.getElem?_eq_some_iff.1 hg).1 (hcm g cs _ hg) hb) ?_)
          · rw [← HR0.out]
            refine owns_same hown fun g cs hg hc => ho3 g (fun k => ?_)
            subst k
            rw [hm2] at hc
            cases hc
          · rcases hnear with k | ⟨k, h1, h2⟩
            · exact .inl k
            · exact .inr ⟨k, h1, Nat.le_trans HSZ.out h2⟩
        have HB3 : Hid (Below w.heap.size w w3) := by
          have h1 : Below w.heap.size w w1 := (Below.on HBr.out HBY.out).trans (HON1.out.below (B := w.heap.size) (fun b hb => by have := HMB.out; omega) (Nat.le_trans HBr.out.size HBY.out.size))
          have h2 : Below w.heap.size w w2 := Below.grown h1 hgrow hb1 (fun k e => (hrow1.lt k e).1)
          have h3 : Onl (fun b => b = mb) w2 w3 := ⟨by rw [hw3]; rfl, by rw [hw3]; rfl, by rw [hw3]; rfl, by omega, fun j _ hj => ho3 j hj⟩
          exact hid (h2.trans (h3.below (B := w.heap.size) (fun b hb => by have := HMB.out; omega) (Nat.le_trans hb1 hgs)))
        have HM3 := hid hM3
        clear hown hgrow hnear hm2 hM3 hw3 ho3 hs3 hgs hgb hkeep hcm hk2 hrow1 hnews hent hy20 y3 y4
        go_wp2_with fail
        go_roundg (n - (i + 1))
        case measure => omega
        case rel => exact ⟨i + 1, _, by omega, rfl, by go_num, HM3, HP3, HB3⟩
    · obtain rfl : i = n := by omega
      have HE : Hid (evs.take i = evs) := hid (List.take_of_length_le (by have := HN.out; omega))
      have HPE : Hid (Parts wr w.heap.size ps evs) := hid (by have := HP.out; rwa [HE.out] at this)
      go_wp2_with fail
      go_ret
      exact ⟨mb, ps, rfl, HV, HPE, HBr⟩
end Go.Proofs.Ytiheilkjlapoiaa.Lg
