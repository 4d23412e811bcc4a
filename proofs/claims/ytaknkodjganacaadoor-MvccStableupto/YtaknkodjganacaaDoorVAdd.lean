import Derived.Test.YtaknkodjganacaaDoorVAddP
namespace Go.Proofs.YtaknkodjganacaaDoor.Vs
open Go.RowKit Go.Sort
set_option linter.unusedVariables false

abbrev vv (k : ByteArray) (v : Ver) : Value := .agg #[.string k, .int .u64 v.s.a, .int .u32 v.s.b, .int .u32 v.s.c, .bool v.del, .string v.val]
abbrev vcs (k : ByteArray) (v : Ver) : Array Value := #[.string k, .int .u64 v.s.a, .int .u32 v.s.b, .int .u32 v.s.c, .bool v.del, .string v.val]
theorem infoVr : (Tryd.prog.info? 46).map (fun i => (i.zero, i.size, i.bytes)) = some (some (vv ⟨#[]⟩ ⟨⟨0, 0, 0⟩, false, ⟨#[]⟩⟩), 6, 56) := by kernel_rfl
theorem info_ofV {P : Program} {t : TypeId} {z : Value} {n m : Nat} (h : (P.info? t).map (fun i => (i.zero, i.size, i.bytes)) = some (some z, n, m)) : ∃ i, P.info? t = some i ∧ i.zero = some z ∧ i.size = n ∧ i.bytes = m := by
  obtain ⟨i, hi, he⟩ := Option.map_eq_some_iff.1 h
  simp only [Prod.mk.injEq] at he
  exact ⟨i, hi, he.1, he.2.1, he.2.2⟩
theorem count_mem {M : Mst} {e : ByteArray × Chain} (h : e ∈ M) : e.2.length ≤ countM M := by
  induction M with
  | nil => cases h
  | cons x M ih =>
    simp only [countM, List.map_cons, List.sum_cons]
    rcases List.mem_cons.1 h with rfl | h
    · omega
    · have := ih h; unfold countM at this; omega
theorem count_keys {M : Mst} (h : Good M) : M.length ≤ countM M := by
  have hc := h.chain
  clear h
  induction M with
  | nil => simp [countM]
  | cons x M ih =>
    have h1 := ih fun e he => hc e (by simp [he])
    have h2 : 0 < x.2.length := List.length_pos_iff.2 (hc x (by simp)).1
    simp only [countM, List.map_cons, List.sum_cons, List.length_cons] at h1 ⊢
    omega
theorem ver_cells (w : World) (k : ByteArray) (v : Ver) : VerAt (w.alloc (.cells (vcs k v) 46)) w.heap.size 0 k v := by
  have h := World.alloc_heap_new w (.cells (vcs k v) 46)
  exact ⟨cell_of_obj h rfl, cell_of_obj h rfl, cell_of_obj h rfl, cell_of_obj h rfl, cell_of_obj h rfl, cell_of_obj h rfl⟩
theorem lit_cells (w : World) (k : ByteArray) (v : Ver) : ∀ j u, (vcs k v).toList[j]? = some u → (w.alloc (.cells (vcs k v) 46)).cell? ((⟨w.heap.size, 0, none⟩ : Addr).add j) = some u :=
  World.news_of_block (World.alloc_heap_new w (.cells (vcs k v) 46))
theorem lit_one (k : ByteArray) (v : Ver) : ∀ u ∈ (vcs k v).toList, u.oneCell' = true := fun u hu => by
  simp at hu
  rcases hu with rfl | rfl | rfl | rfl | rfl | rfl <;> rfl

set_option maxHeartbeats 1000000 in
set_option maxRecDepth 16000 in
theorem addG_is {F : Nat → Prop} {w : World} {p o : Nat} {t : TypeId} {M : Mst} {mk : Sp} {k : ByteArray} {v : Ver} (h : StoG F w p o t M mk) (hov : Over M k v.s) (hn : (countM M + 1) * 64 ≤ 140737488355328) :
    Calls Tryd.prog 34 #[.pointer (some ⟨p, o, none⟩), vv k v] w fun e w' => (∃ v0, e = .returned v0) ∧ ∃ F', StoG F' w' p o t (addM M k v) mk ∧ (∀ b, F' b → F b ∨ w.heap.size ≤ b) ∧ Onl F w w' ∧ Part p o 1 w w' := by
  obtain ⟨m, h, rfl⟩ := h
  have hb0 : Below w.heap.size w (w.alloc (.cells (vcs k v) 46)) := Below.al (Below.refl _ _) _
  have hv0 := ver_cells w k v
  obtain ⟨w0, hw0⟩ : ∃ w0, w0 = w.alloc (.cells (vcs k v) 46) := ⟨_, rfl⟩
  rw [← hw0] at hb0 hv0
  have h0 := h.later hb0
  obtain ⟨ga, n, cap, vs, hgot, hrow, hlen, hvs, hn0, hob, hoo⟩ := got_row h k
  have hnb : n ≤ countM (abs m) := by
    rw [← hlen, ← hvs]
    cases hg : getX (abs m) k with
    | none => simp
    | some cs => exact count_mem ((getX_some h.good.rising).1 hg)
  have HG : Hid (∀ W, Below w0.heap.size w0 W → Calls Tryd.prog 31 #[.pointer (some ⟨p, o, none⟩), .string k] W fun e w' => e = .returned (.tuple #[.slice ga n cap, .bool (getX m k).isSome]) ∧ Below W.heap.size W w') := fun W hb =>
    (get_is (h0.xi.later hb) k).mono fun e w' ⟨he, hw⟩ => ⟨by rw [he, gotX, hgot], by rw [hw]; exact Below.refl _ _⟩
  have kv0 := cell_regrown hv0.c0
  have H := hid h
  have HV := hid hv0
  have HR := hid hrow
  have HB0 := hid hb0
  clear hgot hrow hb0
  go_enter Tryd.func34, Tryd.ntmps34
  go_wp2_with fail
  rw [← hw0]
  clear hw0
  refine wp_region_quiet_below (by kernel_rfl) (by kernel_rfl) ?_
  repeat (go_big_quiet_step ((go_at_call 31; exact Calls.regrown_of (HG.out _ (below_regrown _ _ _)))))
  refine wpQuiet_nil ?_
  intro w1 hw
  replace hw := below_of_regrown hw
  have hb1 : Below w.heap.size w w1 := Below.on HB0.out hw
  have h1 := H.out.later hb1
  have hv1 := HV.out.later hw
  have d0 : w1.cell? ⟨w.heap.size, 0, none⟩ = some (.string k) := hv1.c0
  have d1 : w1.cell? ⟨w.heap.size, 1, none⟩ = some (.int .u64 v.s.a) := hv1.c1
  have d2 : w1.cell? ⟨w.heap.size, 2, none⟩ = some (.int .u32 v.s.b) := hv1.c2
  have d3 : w1.cell? ⟨w.heap.size, 3, none⟩ = some (.int .u32 v.s.c) := hv1.c3
  have d4 : w1.cell? ⟨w.heap.size, 4, none⟩ = some (.bool v.del) := hv1.c4
  have d5 : w1.cell? ⟨w.heap.size, 5, none⟩ = some (.string v.val) := hv1.c5
  obtain ⟨G, hG⟩ : ∃ G : Nat → Prop, G = fun b => (Value.slice ga n cap).ownBlock = some b := ⟨_, rfl⟩
  have hGF : ∀ b, G b → F b := fun b hb => by rw [hG] at hb; exact (hob b hb).1
  obtain ⟨pcs, hpb⟩ := h.blk
  have hnp : ¬ G p := fun hb => by
    rw [hG] at hb
    obtain ⟨_, cs, z, hc⟩ := hob p hb
    exact type_ne hpb hc h.ty.2 rfl
  have hns : ¬ G w.heap.size := fun hb => Nat.lt_irrefl _ (h.lt (hGF _ hb))
  have HO : Hid (∀ W, Below w1.heap.size w1 W → W.ownsRow 0 46 6 (.slice ga n cap) n (flatV k vs)) := fun W hb => owns_keep HR.out fun g hg => (Below.on hb1 hb).block g (HR.out.lt g hg).2
  have HX : Hid (∀ W, Onl G w1 W → Xi W p o m) := fun W ho => h1.xi.keep (h1.kp (ho.mono hGF)) (ho.block p h1.xi.lt hnp)
  have HS : Hid (∀ W (hd : Hd), Onl G w1 W → _) := fun W hd ho => set_is (h1.xi.keep (h1.kp (ho.mono hGF)) (ho.block p h1.xi.lt hnp)) k hd (by have := count_keys h.good; rw [abs_len] at this; omega)
  have HL : Hid (∀ W w3 w4 (hd : Hd), Below w1.heap.size w1 W → Row w3 k hd → W.grownBy w3 (Value.slice ga n cap).ownBlock → ((Value.slice ga n cap).ownBlock = some hd.g ∨ W.heap.size ≤ hd.g) → Xi w4 p o (setX m k hd) → Onl (fun b => b = p) w3 w4 → Part p o 1 w3 w4 → hd.vs = vs ++ [v] →
      ∃ F', StoG F' w4 p o t (addM (abs m) k v) mk ∧ (∀ b, F' b → F b ∨ w.heap.size ≤ b) ∧ Onl F w w4 ∧ Part p o 1 w w4) := fun W w3 w4 hd hb row hg hat hx ho hpt hvs' => by
    have hbW := Below.on hb1 hb
    have hW := H.out.later hbW
    have good : Good (setX (abs m) k hd.vs) := by rw [hvs', ← hvs]; exact h.good.add hov
    obtain ⟨F', f1, f2, f3, f4⟩ := hW.laid hd (fun b hb' => ⟨(hob b hb').1, by obtain ⟨_, cs, z, hc⟩ := hob b hb'; exact ⟨cs, z, (hbW.block b (h.lt (hob b hb').1)).trans hc⟩⟩) hoo row hg hat hx ho hpt good
    refine ⟨F', ⟨_, f1, by rw [abs_set, hvs', addM, hvs]⟩, fun b hb' => (f2 b hb').imp id (fun h => Nat.le_trans hbW.size h), (Onl.of_below hbW).trans f3, (Part.below hbW).trans f4⟩
  obtain ⟨G2, hG2⟩ : ∃ G2 : Nat → Prop, G2 = fun b => G b ∨ b = p := ⟨_, rfl⟩
  have HNX : Hid (¬ G2 w.heap.size) := by
    rw [hG2]
    exact fun hb => hb.elim hns (fun e => Nat.lt_irrefl _ (e ▸ h.xi.lt))
  have HM : Hid ((∀ A B, Onl G A B → Onl G2 A B) ∧ ∀ A B, Onl (fun b => b = p) A B → Onl G2 A B) := by
    rw [hG2]
    exact ⟨fun A B h => h.mono fun b => .inl, fun A B h => h.mono fun b => .inr⟩
  have HGG := hid hG
  have HN3 : Hid (n + 1 ≤ maxLen) := by show _ ≤ _; unfold maxLen; omega
  have HN4 : Hid ((n + 1) * 56 ≤ 140737488355328) := by show _ ≤ _; omega
  have HLEN := hid hlen
  obtain ⟨i0, hi, hz0, hz1, hz2⟩ := info_ofV infoVr
  clear hv1 hv0 h0 h1 hob hoo hn0 hvs hlen hnb hn hov h kv0 HG hG hGF hnp hns hw HV HR HB0 hG2 hpb
  go_wp2_with fail
  go_region_held3 (fun w' => w'.cell? ⟨w.heap.size, 0, none⟩ = some (.string k) ∧ w'.cell? ⟨w.heap.size, 1, none⟩ = some (.int .u64 v.s.a) ∧ w'.cell? ⟨w.heap.size, 2, none⟩ = some (.int .u32 v.s.b) ∧ w'.cell? ⟨w.heap.size, 3, none⟩ = some (.int .u32 v.s.c) ∧ w'.cell? ⟨w.heap.size, 4, none⟩ = some (.bool v.del) ∧ w'.cell? ⟨w.heap.size, 5, none⟩ = some (.string v.val) ∧ Onl G2 w1 w')
    ((refine (fun (hO : Onl G2 w1 _) => ⟨hO.cell HNX.out d0, hO.cell HNX.out d1, hO.cell HNX.out d2, hO.cell HNX.out d3, hO.cell HNX.out d4, hO.cell HNX.out d5, hO⟩) ?_; (repeat (first | exact Onl.refl _ _ | assumption | refine Onl.drew ?_ | refine Onl.al ?_ _))))
    (first
      | (go_at_call 47; refine (HS.out w3 ⟨g, n + 1, cap', vs ++ [v]⟩ hO3).mono ?_; rintro e w4 ⟨rfl, hx, ho4, hp4⟩; have hO4 : Onl G2 w1 w4 := hO3'.trans (HM.out.2 _ _ ho4))
      | (refine step_append_lies _ (by rfl) _ _ 81 (by rfl) 0 46 i0 (vv ⟨#[]⟩ ⟨⟨0, 0, 0⟩, false, ⟨#[]⟩⟩) 6 56 Tryd.underlying81 hi hz0 hz1 hz2 rfl (by decide) (.slice ga n cap) n (flatV k vs) (by simp [Act.eval]) (HO.out _ (by (repeat (first | exact Below.refl _ _ | assumption | refine Below.drew ?_ | refine Below.al ?_ _ | refine Below.setCell ?_ (by first | exact Nat.le_refl _ | (simp; omega) | (simp; done)) _ | refine Below.on ?_ (by assumption))))) ⟨w1.heap.size, 0, none⟩ 1 1 (vcs k v).toList (by simp [Act.eval]) rfl (lit_cells _ k v) (lit_one k v) (by decide) HN3.out HN4.out (Nat.zero_le _) _ rfl ?_; intro g cap' w3 hown hgrow hat hlt3; have hO3 : Onl G w1 w3 := (by rw [HGG.out]; exact (Onl.of_below (by (repeat (first | exact Below.refl _ _ | assumption | refine Below.drew ?_ | refine Below.al ?_ _ | refine Below.setCell ?_ (by first | exact Nat.le_refl _ | (simp; omega) | (simp; done)) _ | refine Below.on ?_ (by assumption))))).trans (grown_onl hgrow)); have hO3' : Onl G2 w1 w3 := HM.out.1 _ _ hO3))
  go_end0
  refine ⟨⟨_, rfl⟩, HL.out _ w3 w4 ⟨g, n + 1, cap', vs ++ [v]⟩ (by (repeat (first | exact Below.refl _ _ | assumption | refine Below.drew ?_ | refine Below.al ?_ _ | refine Below.setCell ?_ (by first | exact Nat.le_refl _ | (simp; omega) | (simp; done)) _ | refine Below.on ?_ (by assumption)))) ⟨?_, ?_⟩ hgrow (hat.imp id fun e => by rw [e]; exact Nat.le_refl _) hx ho4 hp4 rfl⟩
  · show w3.ownsRow 0 _ 6 _ (n + 1) (flatV k (vs ++ [v])); rw [flatV_snoc]; exact hown
  · show (vs ++ [v]).length = n + 1; rw [List.length_append, HLEN.out]; rfl
theorem add_is {F : Nat → Prop} {w : World} {p : Nat} {M : Mst} {mk : Sp} {k : ByteArray} {v : Ver} (h : Sto F w p M mk) (hov : Over M k v.s) (hn : (countM M + 1) * 64 ≤ 140737488355328) :
    Calls Tryd.prog 34 #[pt p, vv k v] w fun e w' => (∃ v0, e = .returned v0) ∧ ∃ F', Sto F' w' p (addM M k v) mk ∧ (∀ b, F' b → F b ∨ w.heap.size ≤ b) ∧ Onl F w w' :=
  (addG_is h hov hn).mono fun e w' ⟨h1, F', h2, h3, h4, _⟩ => ⟨h1, F', h2, h3, h4⟩
end Go.Proofs.YtaknkodjganacaaDoor.Vs
