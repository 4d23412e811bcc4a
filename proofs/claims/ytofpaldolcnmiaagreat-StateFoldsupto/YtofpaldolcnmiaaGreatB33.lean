import Derived.Test.YtofpaldolcnmiaaGreatB32
import Derived.Test.YtofpaldolcnmiaaGreatB22
import Derived.Test.YtofpaldolcnmiaaGreatB23
import Derived.Test.YtofpaldolcnmiaaGreatB20
import Derived.Test.YtofpaldolcnmiaaGreatB14
set_option linter.unusedVariables false
namespace Go.Proofs.YtofpaldolcnmiaaGreat.Ig
open Go.RowKit Go.Sort Ys
def rgE (e : Lg.En) : Rg := ⟨3, 0, e.id.1, e.id.2, e.home, e.oc, e.w, e.l, e.n, none, [], 0, none, [], 0, ⟨#[]⟩⟩
def feB (s : Ps) (e : Lg.En) : Bool := decide ((rgE e).err = 0) && (!(Lg.outM s.E e.id).isSome && !(e.oc == 1 && !decide (e.w < s.ceil)))
def feS : Ps → List Lg.En → Option Ps
  | s, [] => some s
  | s, e :: l => if feB s e then feS (layS s e) l else none
structure EnR (e : Lg.En) : Prop where
  s : 0 ≤ e.id.2
  w : 0 ≤ e.w ∧ e.w ≤ 18446744073709551615
theorem rgE_ok {e : Lg.En} (h : EnR e) (W : World) : (rgE e).ok W := ⟨fun i hi => (by cases hi), fun i hi => (by cases hi), Nat.zero_le _, Nat.zero_le _, h.s, h.w.1, h.w.2⟩
set_option maxHeartbeats 4000000 in
theorem fillEntries_is {F : Nat → Prop} {w : World} {p : Nat} {m1 m2 m : Option Nat} {V : List Lk.Hv} {I : Lk.It} {s : Ps} {a : Option Addr} {c : Nat} {l : List Lg.En} (T : Ys.St F w p m1 m2 m V I s) (h : RowG Lg.ecs 7 w a l) (ha : ∀ b off, a = some ⟨b, off, none⟩ → ¬ Lg.ItsL p m b) (hl : l.length ≤ 1099511627776) (hr : ∀ e ∈ l, EnR e) :
    Calls Tryz.prog 83 #[cp p, .slice a l.length c] w fun e w' => e = .returned (.bool (feS s l).isSome) ∧ Hid (∀ s', feS s l = some s' → ∃ m', Ys.St F w' p m1 m2 m' V I s' ∧ ∀ b, m' = some b → m = some b ∨ w.heap.size ≤ b) ∧ Hid (Onl (Lg.ItsL p m) w w') := by
  obtain ⟨n, hn⟩ : ∃ n, n = l.length := ⟨_, rfl⟩
  rw [← hn] at hl ⊢
  have HN := hid hn
  have HT := hid T
  have HR := hid h
  have HA := hid ha
  have HRE := hid hr
  clear T h ha hr hn
  go_enter Tryz.func83, Tryz.ntmps83
  go_wp2_with fail
  go_loopg [10] n (fun g s10 wr => ∃ i : Nat, i ≤ n ∧ g = n - i ∧ s10 = .int .i64 (i : Int) ∧ ∃ (sk : Ps) (mk : Option Nat), Hid (Ys.St F wr p m1 m2 mk V I sk) ∧ Hid (feS s l = feS sk (l.drop i)) ∧ Hid (Onl (Lg.ItsL p m) w wr) ∧ Hid (∀ b, mk = some b → m = some b ∨ w.heap.size ≤ b))
  case atStart => exact ⟨0, by omega, by omega, rfl, s, m, HT, hid (by simp), Onl.refl _ _, fun b e => .inl e⟩
  case round =>
    obtain ⟨i, hin, rfl, rfl, sk, mk, HS, HF, HO, HM⟩ := hrel
    by_cases hlt : i < n
    · obtain ⟨e, hx⟩ : ∃ x, l[i]? = some x := ⟨_, List.getElem?_eq_getElem (by rw [← HN.out]; exact hlt)⟩
      obtain ⟨q, off, hq, hc⟩ := (HR.out.onl HO.out HA.out) i e hx
      subst hq
      have c0 := hc 0 _ rfl
      have c1 := hc 1 _ rfl
      have c2 := hc 2 _ rfl
      have c3 := hc 3 _ rfl
      have c4 := hc 4 _ rfl
      have c5 := hc 5 _ rfl
      have c6 := hc 6 _ rfl
      simp only [Nat.add_zero] at c0
      have hem : e ∈ l := List.mem_of_getElem? hx
      have hdr : l.drop i = e :: l.drop (i + 1) := by
        obtain ⟨h1, h2⟩ := List.getElem?_eq_some_iff.1 hx
        rw [List.drop_eq_getElem_cons h1, h2]
      have HF2 : Hid (feS s l = if feB sk e then feS (layS sk e) (l.drop (i + 1)) else none) := by
        have := HF.out
        rw [hdr] at this
        exact this
      obtain ⟨er, her⟩ : ∃ er, (rgE e).err = er := ⟨_, rfl⟩
      obtain ⟨u1, hu1⟩ : ∃ u, (Lg.outM sk.E e.id).isSome = u := ⟨_, rfl⟩
      obtain ⟨u2, hu2⟩ : ∃ u, decide (e.w < sk.ceil) = u := ⟨_, rfl⟩
      have VD : Hid (∀ W, Calls Tryz.prog 30 #[.agg #[.int .i64 3, .int .u64 0, .int .u32 e.id.1, .int .u32 e.id.2, .int .u32 e.home, .int .i64 e.oc, .int .u64 e.w, .int .u32 e.l, .int .u32 e.n, .slice none 0 0, .slice none 0 0, .string ⟨#[]⟩]] W fun r w' => r = .returned (.int .i64 er) ∧ Below W.heap.size W w') := fun W => by rw [← her]; exact walvalid_is W (rgE e) (rgE_ok (HRE.out e hem) W)
      have DC : Hid (∀ W, Below wr.heap.size wr W → Calls Tryz.prog 67 #[cp p, .agg #[.int .u32 e.id.1, .int .u32 e.id.2]] W fun r w' => r = .returned (.bool u1) ∧ Below W.heap.size W w') := fun W hb => by rw [← hu1]; exact decided_is (HS.out.later hb) e.id
      have RS : Hid (∀ W, Below wr.heap.size wr W → Calls Tryz.prog 133 #[cp p, .agg #[.int .u64 e.w, .int .u32 e.l, .int .u32 e.n]] W fun r w' => r = .returned (.bool u2) ∧ Below W.heap.size W w') := fun W hb => reserved_is (HS.out.later hb) ⟨e.w, e.l, e.n⟩ hu2
      have HFB : Hid (feB sk e = (decide (er = 0) && (!u1 && !(e.oc == 1 && !u2)))) := by show feB _ _ = _; unfold feB; rw [her, hu1, hu2]
      have LY : Hid (∀ W, Below wr.heap.size wr W → Calls Tryz.prog 138 #[cp p, .agg #[.int .u32 e.id.1, .int .u32 e.id.2, .int .u32 e.home, .int .i64 e.oc, .int .u64 e.w, .int .u32 e.l, .int .u32 e.n]] W fun r w' => r = .returned (.tuple #[]) ∧ ∃ m', Ys.St F w' p m1 m2 m' V I (layS sk e) ∧ (m' = mk ∨ ∃ b, m' = some b ∧ W.heap.size ≤ b) ∧ Onl (Lg.ItsL p mk) W w') := fun W hb => lay_is (HS.out.later hb) e
      have hzb : ∀ W, Below wr.heap.size wr W → Hid (Onl (Lg.ItsL p m) w W) := fun W hb => hid (HO.out.on hb)
      have HZB := hid hzb
      clear hc hx hdr her hu1 hu2 hem hzb
      obtain ⟨wa, hwa⟩ : ∃ wa, wa = (wr.alloc (.cells #[.int .u32 e.id.1, .int .u32 e.id.2, .int .u32 e.home, .int .i64 e.oc, .int .u64 e.w, .int .u32 e.l, .int .u32 e.n] 104)).alloc (.cells #[.int .i64 3, .int .u64 0, .int .u32 e.id.1, .int .u32 e.id.2, .int .u32 e.home, .int .i64 e.oc, .int .u64 e.w, .int .u32 e.l, .int .u32 e.n, .slice none 0 0, .slice none 0 0, .string ⟨#[]⟩] 40) := ⟨_, rfl⟩
      have hba : Below wr.heap.size wr wa := by rw [hwa]; exact Below.al (Below.al (Below.refl _ _) _) _
      have hsa : wr.heap.size < wa.heap.size := by rw [hwa]; simp; omega
      have HKA : Hid (wa.heap[wr.heap.size]? = some (.cells #[.int .u32 e.id.1, .int .u32 e.id.2, .int .u32 e.home, .int .i64 e.oc, .int .u64 e.w, .int .u32 e.l, .int .u32 e.n] 104 (0, 0))) := by
        show _ = _
        rw [hwa, (Below.al (Below.refl _ _) _).block _ (by simp)]
        exact World.alloc_heap_new _ _
      have HBA := hid hba
      clear hba
      go_wp2_with fail
      rw [← hwa]
      clear hwa c0 c1 c2 c3 c4 c5 c6
      refine (VD.out _).mono ?_
      rintro r w2 ⟨rfl, hb2⟩
      have HB2 : Hid (Below wr.heap.size wr w2) := Below.on HBA.out hb2
      have K2 := hid ((hb2.block _ hsa).trans HKA.out)
      have hs2 : wr.heap.size < w2.heap.size := Nat.lt_of_lt_of_le hsa hb2.size
      clear hb2 HKA HBA VD hsa
      have y0 := Vs.cell_of_obj (o := 0) K2.out rfl
      have y1 := Vs.cell_of_obj (o := 1) K2.out rfl
      have y3 := Vs.cell_of_obj (o := 3) K2.out rfl
      by_cases he0 : er = 0
      · subst he0
        cases u1 with
        | true =>
          go_wp2_with (go_at_call 67; refine (DC.out _ HB2.out).mono ?_; rintro r w3 ⟨rfl, hb3⟩)
          go_ret
          have hf : feS s l = none := by rw [HF2.out, HFB.out]; rfl
          refine ⟨by rw [hf]; rfl, fun s' h9 => (by rw [hf] at h9; cases h9), ?_⟩
          exact HZB.out _ (Below.on HB2.out hb3)
        | false =>
          by_cases ho : e.oc = 1
          · have ho1 : (e.oc == 1) = true := by simpa using ho
            clear ho
            cases u2 with
            | false =>
              go_wp2_with (first
                | (go_at_call 67; refine (DC.out _ HB2.out).mono ?_; rintro r w3 ⟨rfl, hb3⟩; have HB3 := hid (Below.on HB2.out hb3); have k3 := (hb3.block _ hs2).trans K2.out; have K3 := hid k3; have hs3 := Nat.lt_of_lt_of_le hs2 hb3.size; have y0 := Vs.cell_of_obj (o := 0) k3 rfl; have y1 := Vs.cell_of_obj (o := 1) k3 rfl; have y2 := Vs.cell_of_obj (o := 2) k3 rfl; have y3 := Vs.cell_of_obj (o := 3) k3 rfl; have y4 := Vs.cell_of_obj (o := 4) k3 rfl; have y5 := Vs.cell_of_obj (o := 5) k3 rfl; have y6 := Vs.cell_of_obj (o := 6) k3 rfl; clear k3 hb3)
                | (go_at_call 133; refine (RS.out _ HB3.out).mono ?_; rintro r w4 ⟨rfl, hb4⟩; have HB4 := hid (Below.on HB3.out hb4); have k4 := (hb4.block _ hs3).trans K3.out; have y0 := Vs.cell_of_obj (o := 0) k4 rfl; have y1 := Vs.cell_of_obj (o := 1) k4 rfl; have y2 := Vs.cell_of_obj (o := 2) k4 rfl; have y3 := Vs.cell_of_obj (o := 3) k4 rfl; have y4 := Vs.cell_of_obj (o := 4) k4 rfl; have y5 := Vs.cell_of_obj (o := 5) k4 rfl; have y6 := Vs.cell_of_obj (o := 6) k4 rfl; clear k4 hb4))
              go_ret
              have hf : feS s l = none := by rw [HF2.out, HFB.out, ho1]; rfl
              refine ⟨by rw [hf]; rfl, fun s' h9 => (by rw [hf] at h9; cases h9), ?_⟩
              exact HZB.out _ HB4.out
            | true =>
              have hfb : (decide ((0 : Int) = 0) && (!false && !(e.oc == 1 && !true))) = true := by simp
              go_wp2_with (first
                | (go_at_call 67; refine (DC.out _ HB2.out).mono ?_; rintro r w3 ⟨rfl, hb3⟩; have HB3 := hid (Below.on HB2.out hb3); have k3 := (hb3.block _ hs2).trans K2.out; have K3 := hid k3; have hs3 := Nat.lt_of_lt_of_le hs2 hb3.size; have y0 := Vs.cell_of_obj (o := 0) k3 rfl; have y1 := Vs.cell_of_obj (o := 1) k3 rfl; have y2 := Vs.cell_of_obj (o := 2) k3 rfl; have y3 := Vs.cell_of_obj (o := 3) k3 rfl; have y4 := Vs.cell_of_obj (o := 4) k3 rfl; have y5 := Vs.cell_of_obj (o := 5) k3 rfl; have y6 := Vs.cell_of_obj (o := 6) k3 rfl; clear k3 hb3)
                | (go_at_call 133; refine (RS.out _ HB3.out).mono ?_; rintro r w4 ⟨rfl, hb4⟩; have HB4 := hid (Below.on HB3.out hb4); have k4 := (hb4.block _ hs3).trans K3.out; have y0 := Vs.cell_of_obj (o := 0) k4 rfl; have y1 := Vs.cell_of_obj (o := 1) k4 rfl; have y2 := Vs.cell_of_obj (o := 2) k4 rfl; have y3 := Vs.cell_of_obj (o := 3) k4 rfl; have y4 := Vs.cell_of_obj (o := 4) k4 rfl; have y5 := Vs.cell_of_obj (o := 5) k4 rfl; have y6 := Vs.cell_of_obj (o := 6) k4 rfl; clear k4 hb4))
              refine (LY.out _ HB4.out).mono ?_
              rintro r w5 ⟨rfl, m', hT5, hm5, ho5⟩
              have HS5 := hid hT5
              have HO5 : Hid (Onl (Lg.ItsL p m) w w5) := (HZB.out _ HB4.out).out.fresh ho5 (fun b hb => by
                rcases hb with rfl | hb
                · exact .inl (.inl rfl)
                · rcases HM.out b hb with h9 | h9
                  · exact .inl (.inr h9)
                  · exact .inr h9)
              have HM5 : Hid (∀ b, m' = some b → m = some b ∨ w.heap.size ≤ b) := fun b hb => by
                rcases hm5 with rfl | ⟨b', rfl, hb'⟩
                · exact HM.out b hb
                · injection hb with hb
                  subst hb
                  exact .inr (Nat.le_trans (HZB.out _ HB4.out).out.size hb')
              have HF5 : Hid (feS s l = feS (layS sk e) (l.drop (i + 1))) := by
                have h9 := HF2.out
                rw [HFB.out, hfb, if_pos rfl] at h9
                exact h9
              clear hT5 hm5 ho5
              go_wp2_with fail
              go_roundg (n - (i + 1))
              case measure => omega
              case rel => exact ⟨i + 1, by omega, rfl, by go_num, layS sk e, m', HS5, HF5, HO5, HM5⟩
          · have ho1 : (e.oc == 1) = false := by simpa using ho
            clear ho
            have hfb : (decide ((0 : Int) = 0) && (!false && !(e.oc == 1 && !u2))) = true := by rw [ho1]; simp
            go_wp2_with (first
              | (go_at_call 67; refine (DC.out _ HB2.out).mono ?_; rintro r w3 ⟨rfl, hb3⟩; have HB3 := hid (Below.on HB2.out hb3); have k3 := (hb3.block _ hs2).trans K2.out; have K3 := hid k3; have hs3 := Nat.lt_of_lt_of_le hs2 hb3.size; have y0 := Vs.cell_of_obj (o := 0) k3 rfl; have y1 := Vs.cell_of_obj (o := 1) k3 rfl; have y2 := Vs.cell_of_obj (o := 2) k3 rfl; have y3 := Vs.cell_of_obj (o := 3) k3 rfl; have y4 := Vs.cell_of_obj (o := 4) k3 rfl; have y5 := Vs.cell_of_obj (o := 5) k3 rfl; have y6 := Vs.cell_of_obj (o := 6) k3 rfl; clear k3 hb3)
              | (go_at_call 133; refine (RS.out _ HB3.out).mono ?_; rintro r w4 ⟨rfl, hb4⟩; have HB4 := hid (Below.on HB3.out hb4); have k4 := (hb4.block _ hs3).trans K3.out; have y0 := Vs.cell_of_obj (o := 0) k4 rfl; have y1 := Vs.cell_of_obj (o := 1) k4 rfl; have y2 := Vs.cell_of_obj (o := 2) k4 rfl; have y3 := Vs.cell_of_obj (o := 3) k4 rfl; have y4 := Vs.cell_of_obj (o := 4) k4 rfl; have y5 := Vs.cell_of_obj (o := 5) k4 rfl; have y6 := Vs.cell_of_obj (o := 6) k4 rfl; clear k4 hb4))
            refine (LY.out _ HB3.out).mono ?_
            rintro r w5 ⟨rfl, m', hT5, hm5, ho5⟩
            have HS5 := hid hT5
            have HO5 : Hid (Onl (Lg.ItsL p m) w w5) := (HZB.out _ HB3.out).out.fresh ho5 (fun b hb => by
              rcases hb with rfl | hb
              · exact .inl (.inl rfl)
              · rcases HM.out b hb with h9 | h9
                · exact .inl (.inr h9)
                · exact .inr h9)
            have HM5 : Hid (∀ b, m' = some b → m = some b ∨ w.heap.size ≤ b) := fun b hb => by
              rcases hm5 with rfl | ⟨b', rfl, hb'⟩
              · exact HM.out b hb
              · injection hb with hb
                subst hb
                exact .inr (Nat.le_trans (HZB.out _ HB3.out).out.size hb')
            have HF5 : Hid (feS s l = feS (layS sk e) (l.drop (i + 1))) := by
              have h9 := HF2.out
              rw [HFB.out, hfb, if_pos rfl] at h9
              exact h9
            clear hT5 hm5 ho5
            go_wp2_with fail
            go_roundg (n - (i + 1))
            case measure => omega
            case rel => exact ⟨i + 1, by omega, rfl, by go_num, layS sk e, m', HS5, HF5, HO5, HM5⟩
      · have hne : (er != 0) = true := by simpa using he0
        have hf : feS s l = none := by rw [HF2.out, HFB.out, decide_eq_false he0]; rfl
        have HFN := hid hf
        clear hf he0
        go_wp2_with fail
        go_ret
        refine ⟨by rw [HFN.out]; rfl, fun s' h9 => (by rw [HFN.out] at h9; cases h9), ?_⟩
        exact HZB.out _ HB2.out
    · obtain rfl : i = n := by omega
      have HE : Hid (feS s l = some sk) := by
        have := HF.out
        rw [HN.out, List.drop_of_length_le (Nat.le_refl _)] at this
        exact this
      clear hin hlt
      go_wp2_with fail
      go_ret
      refine ⟨by rw [HE.out]; rfl, fun s' h9 => ?_, HO⟩
      rw [HE.out] at h9
      injection h9 with h9
      subst h9
      exact ⟨mk, HS.out, HM.out⟩
end Go.Proofs.YtofpaldolcnmiaaGreat.Ig
namespace Go.Proofs.YtofpaldolcnmiaaGreat.Ig
open Go.RowKit Go.Sort Ys
def rgH (v : Lk.Hv) : Rg := ⟨2, 0, v.h.id.1, v.h.id.2, v.h.home, 0, v.h.w, v.h.l, v.h.n, v.ra, v.h.rs, v.rc, v.wa, v.h.ws, v.wc, ⟨#[]⟩⟩
def rgP (h : Lk.Hd) : Rg := ⟨2, 0, h.id.1, h.id.2, h.home, 0, h.w, h.l, h.n, none, h.rs, 0, none, h.ws, 0, ⟨#[]⟩⟩
theorem rgH_err (v : Lk.Hv) : (rgH v).err = (rgP v.h).err := rfl
def fhB (s : Ps) (h : Lk.Hd) : Bool := decide ((rgP h).err = 0) && hldB s h
def fhS : Ps → List Lk.Hd → Option Ps
  | s, [] => some s
  | s, h :: l => if fhB s h then fhS (hldS s h) l else none
theorem row2_off {F : Nat → Prop} {w w' : World} {a : Option Addr} {xs : List T2} (h : Row2 w a xs) (ho : Onl F w w') (ha : ∀ b off, a = some ⟨b, off, none⟩ → ¬ F b) : Row2 w' a xs := fun i hi => by
  obtain ⟨b, off, e, h0, h1⟩ := h i hi
  exact ⟨b, off, e, ho.cell (ha b off e) h0, ho.cell (ha b off e) h1⟩
theorem rowW_off {F : Nat → Prop} {w w' : World} {a : Option Addr} {xs : List Wr} (h : RowW w a xs) (ho : Onl F w w') (ha : ∀ b off, a = some ⟨b, off, none⟩ → ¬ F b) : RowW w' a xs := fun i hi => by
  obtain ⟨b, off, e, h0, h1, h2⟩ := h i hi
  exact ⟨b, off, e, ho.cell (ha b off e) h0, ho.cell (ha b off e) h1, ho.cell (ha b off e) h2⟩
structure HvIn (F : Nat → Prop) (w : World) (v : Lk.Hv) : Prop where
  ok : v.ok w
  rn : ∀ b off, v.ra = some ⟨b, off, none⟩ → ¬ F b
  wn : ∀ b off, v.wa = some ⟨b, off, none⟩ → ¬ F b
  s : 0 ≤ v.h.id.2
  w : 0 ≤ v.h.w ∧ v.h.w ≤ 18446744073709551615
theorem HvIn.onl {F : Nat → Prop} {w w' : World} {v : Lk.Hv} (h : HvIn F w v) (ho : Onl F w w') : v.ok w' := ⟨row2_off h.ok.r ho h.rn, rowW_off h.ok.w ho h.wn, h.ok.rl, h.ok.wl⟩
theorem rgH_ok {F : Nat → Prop} {w W : World} {v : Lk.Hv} (h : HvIn F w v) (k : v.ok W) : (rgH v).ok W := ⟨k.r, k.w, by have := k.rl; show v.h.rs.length ≤ _; omega, by have := k.wl; show v.h.ws.length ≤ _; omega, h.s, h.w.1, h.w.2⟩
set_option maxHeartbeats 4000000 in
theorem fillHeld_is {F : Nat → Prop} {w : World} {p : Nat} {m1 m2 m : Option Nat} {V : List Lk.Hv} {I : Lk.It} {s : Ps} {a : Option Addr} {c : Nat} {U : List Lk.Hv} (T : Ys.St F w p m1 m2 m V I s) (h : RowG Lk.hcs 8 w a U) (ha : ∀ b off, a = some ⟨b, off, none⟩ → ¬ Lk.Its p m1 m2 b) (hl : U.length ≤ 1099511627776) (hr : ∀ v ∈ U, HvIn (Lk.Its p m1 m2) w v) :
    Calls Tryz.prog 84 #[cp p, .slice a U.length c] w fun e w' => e = .returned (.bool (fhS s (U.map Lk.Hv.h)).isSome) ∧ Hid (∀ s', fhS s (U.map Lk.Hv.h) = some s' → ∃ m1' m2' V' I', Ys.St F w' p m1' m2' m V' I' s' ∧ ∀ b, Lk.Its p m1' m2' b → Lk.Its p m1 m2 b ∨ w.heap.size ≤ b) ∧ Hid (Onl (Lk.Its p m1 m2) w w') := by
  obtain ⟨n, hn⟩ : ∃ n, n = U.length := ⟨_, rfl⟩
  rw [← hn] at hl ⊢
  have HN := hid hn
  have HT := hid T
  have HR := hid h
  have HA := hid ha
  have HRE := hid hr
  clear T h ha hr hn
  go_enter Tryz.func84, Tryz.ntmps84
  go_wp2_with fail
  go_loopg [10] n (fun g s10 wr => ∃ i : Nat, i ≤ n ∧ g = n - i ∧ s10 = .int .i64 (i : Int) ∧ ∃ (sk : Ps) (k1 k2 : Option Nat) (Vk : List Lk.Hv) (Ik : Lk.It), Hid (Ys.St F wr p k1 k2 m Vk Ik sk) ∧ Hid (fhS s (U.map Lk.Hv.h) = fhS sk ((U.drop i).map Lk.Hv.h)) ∧ Hid (Onl (Lk.Its p m1 m2) w wr) ∧ Hid (∀ b, Lk.Its p k1 k2 b → Lk.Its p m1 m2 b ∨ w.heap.size ≤ b))
  case atStart => exact ⟨0, by omega, by omega, rfl, s, m1, m2, V, I, HT, hid (by simp), Onl.refl _ _, fun b e => .inl e⟩
  case round =>
    obtain ⟨i, hin, rfl, rfl, sk, q1, q2, Vk, Ik, HS, HF, HO, HM⟩ := hrel
    by_cases hlt : i < n
    · obtain ⟨v, hx⟩ : ∃ x, U[i]? = some x := ⟨_, List.getElem?_eq_getElem (by rw [← HN.out]; exact hlt)⟩
      obtain ⟨q, off, hq, hc⟩ := (HR.out.onl HO.out HA.out) i v hx
      subst hq
      have c0 := hc 0 _ rfl
      have c1 := hc 1 _ rfl
      have c2 := hc 2 _ rfl
      have c3 := hc 3 _ rfl
      have c4 := hc 4 _ rfl
      have c5 := hc 5 _ rfl
      have c6 := hc 6 _ rfl
      have c7 := hc 7 _ rfl
      simp only [Nat.add_zero] at c0
      have hem : v ∈ U := List.mem_of_getElem? hx
      have hdr : U.drop i = v :: U.drop (i + 1) := by
        obtain ⟨h1, h2⟩ := List.getElem?_eq_some_iff.1 hx
        rw [List.drop_eq_getElem_cons h1, h2]
      have HF2 : Hid (fhS s (U.map Lk.Hv.h) = if fhB sk v.h then fhS (hldS sk v.h) ((U.drop (i + 1)).map Lk.Hv.h) else none) := by
        have := HF.out
        rw [hdr, List.map_cons] at this
        exact this
      have HVO : Hid (v.ok wr) := (HRE.out v hem).onl HO.out
      obtain ⟨er, her⟩ : ∃ er, (rgH v).err = er := ⟨_, rfl⟩
      obtain ⟨u1, hu1⟩ : ∃ u, hldB sk v.h = u := ⟨_, rfl⟩
      have VD : Hid (∀ W, Below wr.heap.size wr W → Calls Tryz.prog 30 #[.agg #[.int .i64 2, .int .u64 0, .int .u32 v.h.id.1, .int .u32 v.h.id.2, .int .u32 v.h.home, .int .i64 0, .int .u64 v.h.w, .int .u32 v.h.l, .int .u32 v.h.n, .slice v.ra v.h.rs.length v.rc, .slice v.wa v.h.ws.length v.wc, .string ⟨#[]⟩]] W fun r w' => r = .returned (.int .i64 er) ∧ Below W.heap.size W w') := fun W hb => by rw [← her]; exact walvalid_is W (rgH v) (rgH_ok (HRE.out v hem) (HVO.out.later hb))
      have HD : Hid (∀ W, Below wr.heap.size wr W → Calls Tryz.prog 66 #[cp p, .agg #[.int .u32 v.h.id.1, .int .u32 v.h.id.2, .int .u32 v.h.home, .int .u64 v.h.w, .int .u32 v.h.l, .int .u32 v.h.n, .slice v.ra v.h.rs.length v.rc, .slice v.wa v.h.ws.length v.wc]] W fun e w' => e = .returned (.bool u1) ∧ ∃ m1' m2' V' I', Ys.St F w' p m1' m2' m V' I' (hldS sk v.h) ∧ (∀ b, Lk.Its p m1' m2' b → Lk.Its p q1 q2 b ∨ W.heap.size ≤ b) ∧ Onl (Lk.Its p q1 q2) W w') := fun W hb => by rw [← hu1]; exact hold_is (HS.out.later hb) (HVO.out.later hb)
      have HFB : Hid (fhB sk v.h = (decide (er = 0) && u1)) := by show fhB _ _ = _; unfold fhB; rw [← rgH_err, her, hu1]
      have hzb : ∀ W, Below wr.heap.size wr W → Hid (Onl (Lk.Its p m1 m2) w W) := fun W hb => hid (HO.out.on hb)
      have HZB := hid hzb
      clear hc hx hdr her hu1 hem hzb
      obtain ⟨wa, hwa⟩ : ∃ wa, wa = (wr.alloc (.cells #[.int .u32 v.h.id.1, .int .u32 v.h.id.2, .int .u32 v.h.home, .int .u64 v.h.w, .int .u32 v.h.l, .int .u32 v.h.n, .slice v.ra v.h.rs.length v.rc, .slice v.wa v.h.ws.length v.wc] 100)).alloc (.cells #[.int .i64 2, .int .u64 0, .int .u32 v.h.id.1, .int .u32 v.h.id.2, .int .u32 v.h.home, .int .i64 0, .int .u64 v.h.w, .int .u32 v.h.l, .int .u32 v.h.n, .slice v.ra v.h.rs.length v.rc, .slice v.wa v.h.ws.length v.wc, .string ⟨#[]⟩] 40) := ⟨_, rfl⟩
      have hba : Below wr.heap.size wr wa := by rw [hwa]; exact Below.al (Below.al (Below.refl _ _) _) _
      have hsa : wr.heap.size < wa.heap.size := by rw [hwa]; simp; omega
      have HKA : Hid (wa.heap[wr.heap.size]? = some (.cells #[.int .u32 v.h.id.1, .int .u32 v.h.id.2, .int .u32 v.h.home, .int .u64 v.h.w, .int .u32 v.h.l, .int .u32 v.h.n, .slice v.ra v.h.rs.length v.rc, .slice v.wa v.h.ws.length v.wc] 100 (0, 0))) := by
        show _ = _
        rw [hwa, (Below.al (Below.refl _ _) _).block _ (by simp)]
        exact World.alloc_heap_new _ _
      have HBA := hid hba
      clear hba
      go_wp2_with fail
      rw [← hwa]
      clear hwa c0 c1 c2 c3 c4 c5 c6 c7
      refine (VD.out _ HBA.out).mono ?_
      rintro r w2 ⟨rfl, hb2⟩
      have HB2 : Hid (Below wr.heap.size wr w2) := Below.on HBA.out hb2
      have k2 := (hb2.block _ hsa).trans HKA.out
      clear hb2 HKA HBA VD hsa
      have y0 := Vs.cell_of_obj (o := 0) k2 rfl
      have y1 := Vs.cell_of_obj (o := 1) k2 rfl
      have y2 := Vs.cell_of_obj (o := 2) k2 rfl
      have y3 := Vs.cell_of_obj (o := 3) k2 rfl
      have y4 := Vs.cell_of_obj (o := 4) k2 rfl
      have y5 := Vs.cell_of_obj (o := 5) k2 rfl
      have y6 := Vs.cell_of_obj (o := 6) k2 rfl
      have y7 := Vs.cell_of_obj (o := 7) k2 rfl
      clear k2
      by_cases he0 : er = 0
      · subst he0
        cases u1 with
        | false =>
          go_wp2_with (go_at_call 66; refine (HD.out _ HB2.out).mono ?_; rintro r w3 ⟨rfl, m1', m2', V', I', hT3, hm3, ho3⟩)
          go_ret
          have hf : fhS s (U.map Lk.Hv.h) = none := by rw [HF2.out, HFB.out]; rfl
          refine ⟨by rw [hf]; rfl, fun s' h9 => (by rw [hf] at h9; cases h9), ?_⟩
          exact (HZB.out _ HB2.out).out.fresh ho3 HM.out
        | true =>
          go_wp2_with (go_at_call 66; refine (HD.out _ HB2.out).mono ?_; rintro r w3 ⟨rfl, m1', m2', V', I', hT3, hm3, ho3⟩; have HS3 := hid hT3; have HO3 : Hid (Onl (Lk.Its p m1 m2) w w3) := (HZB.out _ HB2.out).out.fresh ho3 HM.out; have HM3 : Hid (∀ b, Lk.Its p m1' m2' b → Lk.Its p m1 m2 b ∨ w.heap.size ≤ b) := (fun b hb => (hm3 b hb).elim (HM.out b) (fun h9 => .inr (Nat.le_trans (HZB.out _ HB2.out).out.size h9))); clear hT3 hm3 ho3)
          have HF5 : Hid (fhS s (U.map Lk.Hv.h) = fhS (hldS sk v.h) ((U.drop (i + 1)).map Lk.Hv.h)) := by
            have h9 := HF2.out
            rw [HFB.out] at h9
            exact h9
          go_roundg (n - (i + 1))
          case measure => omega
          case rel => exact ⟨i + 1, by omega, rfl, by go_num, hldS sk v.h, m1', m2', V', I', HS3, HF5, HO3, HM3⟩
      · have hne : (er != 0) = true := by simpa using he0
        have hf : fhS s (U.map Lk.Hv.h) = none := by rw [HF2.out, HFB.out, decide_eq_false he0]; rfl
        have HFN := hid hf
        clear hf he0
        go_wp2_with fail
        go_ret
        refine ⟨by rw [HFN.out]; rfl, fun s' h9 => (by rw [HFN.out] at h9; cases h9), ?_⟩
        exact HZB.out _ HB2.out
    · obtain rfl : i = n := by omega
      have HE : Hid (fhS s (U.map Lk.Hv.h) = some sk) := by
        have := HF.out
        rw [HN.out, List.drop_of_length_le (Nat.le_refl _)] at this
        exact this
      clear hin hlt
      go_wp2_with fail
      go_ret
      refine ⟨by rw [HE.out]; rfl, fun s' h9 => ?_, HO⟩
      rw [HE.out] at h9
      injection h9 with h9
      subst h9
      exact ⟨q1, q2, Vk, Ik, HS.out, HM.out⟩
end Go.Proofs.YtofpaldolcnmiaaGreat.Ig
