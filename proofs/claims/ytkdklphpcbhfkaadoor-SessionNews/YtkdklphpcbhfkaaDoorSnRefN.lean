import Derived.Test.YtkdklphpcbhfkaaDoorSnRefT
import Derived.Test.YtkdklphpcbhfkaaDoorSnNew
import Derived.Test.YtkdklphpcbhfkaaDoorRTxt
import Derived.Deep.AppendLies
/- The document's session, made. -/
namespace Go.Proofs.YtkdklphpcbhfkaaDoor.Rt
open Go.RowKit Go.Sort Go.Shelf
set_option linter.unusedVariables false

theorem infoU64 : (Tryd.prog.info? 24).map (fun i => (i.zero, i.size, i.bytes)) = some (some (.int .u64 0), 1, 8) := by kernel_rfl
theorem infoSt : (Tryd.prog.info? 43).map (fun i => (i.zero, i.size, i.bytes)) = some (some (.agg #[.int .u64 0, .int .u32 0, .int .u32 0]), 3, 16) := by kernel_rfl
theorem set_block (w : World) {d o g : Nat} (v : Value) (h : g ≠ d) : (w.setCell ⟨d, o, none⟩ v).heap[g]? = w.heap[g]? := Below.heap_setCell _ _ _ _ h
theorem grown_none {w w' : World} (h : w.grownBy w' none) : Below w.heap.size w w' := ⟨h.os, h.tape, h.output, h.size, fun k hk => h.block k hk (by simp)⟩
/-- the three lists of a clock of the document's -/
structure RawC (w : World) (d : Nat) (v2 v3 v4 : Value) : Prop where
  c2 : w.cell? ⟨d, 2, none⟩ = some v2
  c3 : w.cell? ⟨d, 3, none⟩ = some v3
  c4 : w.cell? ⟨d, 4, none⟩ = some v4
  fz : ∀ o, w.frozen? ⟨d, o, none⟩ = false
theorem RawC.lt {w : World} {d : Nat} {v2 v3 v4 : Value} (h : RawC w d v2 v3 v4) : d < w.heap.size := World.block_lt_of_cell? _ _ h.c2
theorem RawC.later {w w' : World} {d : Nat} {v2 v3 v4 : Value} (h : RawC w d v2 v3 v4) (hb : Below w.heap.size w w') : RawC w' d v2 v3 v4 :=
  ⟨cell_later hb h.c2, cell_later hb h.c3, cell_later hb h.c4, fun o => (hb.frozen (p := ⟨d, o, none⟩) h.lt).trans (h.fz o)⟩
theorem RawC.set2 {w : World} {d : Nat} {v2 v3 v4 : Value} (h : RawC w d v2 v3 v4) (v : Value) : RawC (w.setCell ⟨d, 2, none⟩ v) d v v3 v4 :=
  ⟨World.cell?_setCell_same _ _ _ h.c2, cell_setc (by simp) h.c3, cell_setc (by simp) h.c4, fun o => by simpa using h.fz o⟩
theorem RawC.set3 {w : World} {d : Nat} {v2 v3 v4 : Value} (h : RawC w d v2 v3 v4) (v : Value) : RawC (w.setCell ⟨d, 3, none⟩ v) d v2 v v4 :=
  ⟨cell_setc (by simp) h.c2, World.cell?_setCell_same _ _ _ h.c3, cell_setc (by simp) h.c4, fun o => by simpa using h.fz o⟩

set_option maxHeartbeats 4000000 in
theorem rreopen_is (n g c : Int) (w : World) :
    Calls Tryd.prog 26 #[.int .u32 n, .int .u64 g, .int .u64 c] w fun e w' => ∃ d, e = .returned (.pointer (some ⟨d, 0, none⟩)) ∧ Below w.heap.size w w' := by
  obtain ⟨i0, hi, hz0, hz1, hz2⟩ := info_parts infoU64
  obtain ⟨i1, hj, hy0, hy1, hy2⟩ := info_parts infoSt
  obtain ⟨wa, hwa⟩ : ∃ wa, wa = w.alloc (.cells #[.int .u32 n, .int .u64 g, .slice none 0 0, .slice none 0 0, .slice none 0 0] 118) := ⟨_, rfl⟩
  have ba : Below w.heap.size w wa := by rw [hwa]; exact Below.al (Below.refl _ _) _
  have D0 : RawC wa w.heap.size (.slice none 0 0) (.slice none 0 0) (.slice none 0 0) := by
    rw [hwa]; refine ⟨?_, ?_, ?_, fun o => ?_⟩ <;> (simp [go_sem]; done)
  have Hwa := hid hwa
  have HD0 := hid D0
  clear hwa D0
  go_enter Tryd.func26, Tryd.ntmps26
  go_wp2_with (first
    | (at_builtin; refine wpList_append_lies _ rfl _ _ 115 rfl 0 24 i0 (.int .u64 0) 1 8 Tryd.underlying115 hi hz0 hz1 hz2 rfl (by decide) (.slice none 0 0) 0 [] rfl (World.ownsRow_nil _ _ _ _) ⟨w.heap.size + 1, 0, none⟩ 1 1 [.int .u64 0] rfl rfl ?c1 ?c2 (by decide) ?c3 ?c4 ?c5 _ rfl ?_)
    | go_in)
  case c1 =>
    intro j u hj
    match j, hj with
    | 0, hj => simp at hj; subst hj; simp [go_sem, Addr.add]
  case c2 => intro u hu; simp at hu; subst hu; rfl
  case c3 => unfold maxLen; omega
  case c4 => omega
  case c5 => omega
  intro g2 k2 w1 hown1 hgrow1 hat1 hlt1
  rw [← Hwa.out] at hgrow1
  have b1 : Below wa.heap.size wa w1 := Below.on (Below.al (Below.refl _ _) _) (grown_none hgrow1)
  have D1 := HD0.out.later b1
  have d2 := D1.c2; have d3 := D1.c3
  have kf : ∀ o, w1.frozen? ⟨w.heap.size, o, none⟩ = false := D1.fz
  have HD1 := hid D1
  have Hb1 := hid (Below.on ba b1)
  clear hown1 hgrow1 hat1 D1 b1 HD0 hlt1
  go_wp2_with (first
    | (at_builtin; refine wpList_append_lies _ rfl _ _ 116 rfl 0 43 i1 (.agg #[.int .u64 0, .int .u32 0, .int .u32 0]) 3 16 Tryd.underlying116 hj hy0 hy1 hy2 rfl (by decide) (.slice none 0 0) 0 [] rfl (World.ownsRow_nil _ _ _ _) ⟨w1.heap.size, 0, none⟩ 1 1 [.int .u64 c, .int .u32 0, .int .u32 0] rfl rfl ?c1 ?c2 (by decide) ?c3 ?c4 ?c5 _ rfl ?_)
    | go_in)
  case c1 =>
    intro j u hj
    match j, hj with
    | 0, hj => simp at hj; subst hj; simp [go_sem, Addr.add]
    | 1, hj => simp at hj; subst hj; simp [go_sem, Addr.add]
    | 2, hj => simp at hj; subst hj; simp [go_sem, Addr.add]
  case c2 => intro u hu; simp at hu; rcases hu with rfl | rfl <;> rfl
  case c3 => unfold maxLen; omega
  case c4 => omega
  case c5 => omega
  intro g3 k3 w2 hown2 hgrow2 hat2 hlt2
  obtain ⟨W1, hW1⟩ : ∃ W1, W1 = w1.setCell ⟨w.heap.size, 2, none⟩ (.slice (some ⟨g2, 0, none⟩) 1 k2) := ⟨_, rfl⟩
  have b2 : Below W1.heap.size W1 w2 := by rw [hW1]; exact Below.on (Below.al (Below.refl _ _) _) (grown_none hgrow2)
  have D2 := (HD1.out.set2 (.slice (some ⟨g2, 0, none⟩) 1 k2))
  have Hb2 : Hid (Below w.heap.size w w2) := hid (Below.on (by rw [hW1]; exact Below.setCell Hb1.out (Nat.le_refl _) _) b2)
  rw [← hW1] at D2
  have D2 := D2.later b2
  have d3 := D2.c3; have d4 := D2.c4
  have kf : ∀ o, w2.frozen? ⟨w.heap.size, o, none⟩ = false := D2.fz
  have HD2 := hid D2
  clear hown2 hgrow2 hat2 D2 b2 HD1 hW1 hlt2 d2
  go_wp2_with (first
    | (at_builtin; refine wpList_append_lies _ rfl _ _ 115 rfl 0 24 i0 (.int .u64 0) 1 8 Tryd.underlying115 hi hz0 hz1 hz2 rfl (by decide) (.slice none 0 0) 0 [] rfl (World.ownsRow_nil _ _ _ _) ⟨w2.heap.size, 0, none⟩ 1 1 [.int .u64 c] rfl rfl ?c1 ?c2 (by decide) ?c3 ?c4 ?c5 _ rfl ?_)
    | go_in)
  case c1 =>
    intro j u hj
    match j, hj with
    | 0, hj => simp at hj; subst hj; simp [go_sem, Addr.add]
  case c2 => intro u hu; simp at hu; subst hu; rfl
  case c3 => unfold maxLen; omega
  case c4 => omega
  case c5 => omega
  intro g4 k4 w3 hown3 hgrow3 hat3 hlt3
  obtain ⟨W2, hW2⟩ : ∃ W2, W2 = w2.setCell ⟨w.heap.size, 3, none⟩ (.slice (some ⟨g3, 0, none⟩) 1 k3) := ⟨_, rfl⟩
  have b3 : Below W2.heap.size W2 w3 := by rw [hW2]; exact Below.on (Below.al (Below.refl _ _) _) (grown_none hgrow3)
  have D3 := (HD2.out.set3 (.slice (some ⟨g3, 0, none⟩) 1 k3))
  have Hb3 : Hid (Below w.heap.size w w3) := hid (Below.on (by rw [hW2]; exact Below.setCell Hb2.out (Nat.le_refl _) _) b3)
  rw [← hW2] at D3
  have D3 := D3.later b3
  have d4 := D3.c4
  have kf : ∀ o, w3.frozen? ⟨w.heap.size, o, none⟩ = false := D3.fz
  clear hown3 hgrow3 hat3 D3 b3 HD2 hW2 hlt3 d3
  go_wp2_with fail
  go_ret
  exact ⟨_, rfl, Below.setCell Hb3.out (Nat.le_refl _) _⟩
theorem rclock_is (n g : Int) (w : World) : Calls Tryd.prog 16 #[.int .u32 n, .int .u64 g] w fun e w' => ∃ d, e = .returned (.pointer (some ⟨d, 0, none⟩)) ∧ Below w.heap.size w w' := by
  go_enter Tryd.func16, Tryd.ntmps16
  go_wp2_with fail
  refine (rreopen_is _ _ _ _).mono ?_
  rintro e w1 ⟨d, rfl, hb⟩
  go_wp2_with fail
  go_ret
  exact ⟨_, rfl, hb⟩

/-- what the document's New answers -/
def RNewP (u : Bool) (e : Ending) : Prop := (u = false ∧ e = .returned (.pointer none)) ∨ (u = true ∧ ∃ p, e = .returned (.pointer (some ⟨p, 0, none⟩)))
def txC (ss : List ByteArray) : List Value := ss.map .string
/-- the box of a configuration, its splits told -/
structure BoxS (w : World) (q : Nat) (c : Cf) (v : Value) : Prop where
  c0 : w.cell? ⟨q, 0, none⟩ = some (.int .i64 c.sh)
  c1 : w.cell? ⟨q, 1, none⟩ = some (.int .i64 c.cl)
  c2 : w.cell? ⟨q, 2, none⟩ = some v
  c3 : w.cell? ⟨q, 3, none⟩ = some (.int .i64 c.ca)
  c4 : w.cell? ⟨q, 4, none⟩ = some (.int .i64 c.pk)
  c5 : w.cell? ⟨q, 5, none⟩ = some (.int .u64 c.wi)
  fz : ∀ o, w.frozen? ⟨q, o, none⟩ = false
theorem BoxS.lt {w : World} {q : Nat} {c : Cf} {v : Value} (h : BoxS w q c v) : q < w.heap.size := World.block_lt_of_cell? _ _ h.c0
theorem BoxS.later {w w' : World} {q : Nat} {c : Cf} {v : Value} (h : BoxS w q c v) (hb : Below w.heap.size w w') : BoxS w' q c v := ⟨cell_later hb h.c0, cell_later hb h.c1, cell_later hb h.c2, cell_later hb h.c3, cell_later hb h.c4, cell_later hb h.c5, fun o => (hb.frozen (p := ⟨q, o, none⟩) h.lt).trans (h.fz o)⟩
theorem BoxS.grown {w w' : World} {q : Nat} {c : Cf} {v : Value} {r : Option Nat} (h : BoxS w q c v) (hg : w.grownBy w' r) (hr : r ≠ some q) : BoxS w' q c v := by
  have hO : Onl (fun b => r = some b) w w' := grown_onl hg
  exact ⟨hO.cell hr h.c0, hO.cell hr h.c1, hO.cell hr h.c2, hO.cell hr h.c3, hO.cell hr h.c4, hO.cell hr h.c5, hO.loose hr h.lt h.fz⟩
theorem BoxS.put {w : World} {q : Nat} {c : Cf} {v : Value} (h : BoxS w q c v) (u : Value) : BoxS (w.setCell ⟨q, 2, none⟩ u) q c u :=
  ⟨cell_setc (by simp) h.c0, cell_setc (by simp) h.c1, World.cell?_setCell_same _ _ _ h.c2, cell_setc (by simp) h.c3, cell_setc (by simp) h.c4, cell_setc (by simp) h.c5, fun o => by simpa using h.fz o⟩

set_option maxRecDepth 100000 in
set_option maxHeartbeats 8000000 in
theorem rNew_is {c : Cf} {w : World} {nd : Int} (h : c.Ok w) (hw : 0 ≤ c.wi ∧ c.wi ≤ 18446744073709551615) (hnd : 0 ≤ nd ∧ nd ≤ 4294967295) (ht : PowTab w) :
    Calls Tryd.prog 6 #[.int .u32 nd, c.val] w fun e w' => RNewP (c.cli nd) e ∧ Below w.heap.size w w' := by
  obtain ⟨i0, hi, hz0, hz1, hz2⟩ := info_parts infoTx
  have H := hid h
  have HT := hid ht
  have HB : Hid (BoxC (w.alloc (.cells #[.int .i64 c.sh, .int .i64 c.cl, .slice c.a c.ss.length c.cp, .int .i64 c.ca, .int .i64 c.pk, .int .u64 c.wi] 26)) w.heap.size c) := hid (BoxC.new w c _)
  have hb0 : Below w.heap.size w (w.alloc (.cells #[.int .i64 c.sh, .int .i64 c.cl, .slice c.a c.ss.length c.cp, .int .i64 c.ca, .int .i64 c.pk, .int .u64 c.wi] 26)) := Below.al (Below.refl _ _) _
  have TX := hid (rText_is (H.out.later hb0) hw (HT.out.later hb0))
  have HB0 := hid hb0
  clear h ht hb0 hw
  go_enter Tryd.func6, Tryd.ntmps6
  go_wp2_with fail
  refine TX.out.mono ?_
  rintro e w1 ⟨⟨tx, rfl⟩, hb1⟩
  have HC := hid (HB.out.later hb1)
  have HB1 := hid (Below.on HB0.out hb1)
  clear hb1 HB HB0 TX
  cases ho : c.okB
  · have HU : Hid (c.cli nd = false) := hid (by simp [Cf.cli, ho])
    simp only [cond_false]
    go_wp2_with fail
    go_ret
    exact ⟨.inl ⟨HU.out, rfl⟩, HB1.out⟩
  · obtain ⟨n0, n1, n2, n3⟩ := ok_nums ho
    obtain ⟨l5, ls, lr⟩ := ok_len ho
    have HRW := hid H.out.row
    have HU : Hid (c.cli nd = (decide (c.sh ≤ nd) && decide (nd < c.sh + c.cl))) := hid (by simp [Cf.cli, ho])
    obtain ⟨c0, c1, c2, c3, c4, c5⟩ := HC.out
    have HL5 := hid l5
    clear ho ls lr l5 HT HC
    simp only [cond_true]
    have e0 : IntKind.u64.wrap nd = nd := by rw [IntKind.wrap_u64]; omega
    have e1 : IntKind.u64.wrap c.sh = c.sh := by rw [IntKind.wrap_u64]; omega
    have e3 : IntKind.u64.wrap (c.sh + c.cl) = c.sh + c.cl := by rw [IntKind.wrap_u64]; omega
    by_cases hs : nd < c.sh
    · have HV : Hid (c.cli nd = false) := hid (by rw [HU.out]; simp; omega)
      have hs' : decide (nd < c.sh) = true := by simpa using hs
      go_wp2_with fail
      go_ret
      exact ⟨.inl ⟨HV.out, rfl⟩, HB1.out⟩
    · have hs' : decide (nd < c.sh) = false := by simpa using hs
      by_cases hc : c.sh + c.cl ≤ nd
      · have HV : Hid (c.cli nd = false) := hid (by rw [HU.out]; simp; omega)
        have hc' : decide (c.sh + c.cl ≤ nd) = true := by simpa using hc
        go_wp2_with fail
        go_ret
        exact ⟨.inl ⟨HV.out, rfl⟩, HB1.out⟩
      · have HV : Hid (c.cli nd = true) := hid (by rw [HU.out]; simp; omega)
        have hc' : decide (c.sh + c.cl ≤ nd) = false := by simpa using hc
        go_wp2_with fail
        obtain ⟨wB, hwB⟩ : ∃ wB, wB = w1.alloc (.cells #[.int .i64 c.sh, .int .i64 c.cl, .slice none 0 0, .int .i64 c.ca, .int .i64 c.pk, .int .u64 c.wi] 26) := ⟨_, rfl⟩
        obtain ⟨q, hq⟩ : ∃ q, q = w1.heap.size := ⟨_, rfl⟩
        have hbB : Below w1.heap.size w1 wB := by rw [hwB]; exact Below.al (Below.refl _ _) _
        have hS : BoxS wB q c (.slice none 0 0) := by
          rw [hwB, hq]
          refine ⟨?_, ?_, ?_, ?_, ?_, ?_, fun o => ?_⟩ <;> (simp [go_sem]; done)
        have hqB : q + 1 = wB.heap.size := by rw [hwB, hq]; simp
        have hwq : w.heap.size < q := by rw [hq]; exact World.block_lt_of_cell? _ _ c2
        rw [← hwB, ← hq]
        have HBB := hid (Below.on HB1.out hbB)
        have HS := hid hS
        have HQB := hid hqB
        have HWQ := hid hwq
        have d2 := cell_later hbB c2
        obtain ⟨a, ha⟩ : ∃ a, a = c.a := ⟨_, rfl⟩
        rw [← ha] at HRW d2
        have HD2 := hid d2
        clear ha d2 c0 c1 c2 c3 c4 c5 hwB hq hbB hS hqB hwq
        go_loopg [8] c.ss.length (fun gg s8 wr => ∃ (k : Nat) (v : Option Addr) (cc : Nat), k ≤ c.ss.length ∧ gg = c.ss.length - k ∧ s8 = .int .i64 k ∧ Hid (wr.ownsRow (q + 1) 9 1 (.slice v k cc) k (txC (c.ss.take k))) ∧ Hid (BoxS wr q c (.slice v k cc)) ∧ Hid (Below q wB wr))
        case atStart => exact ⟨0, none, 0, by omega, by omega, rfl, hid (by simpa [txC] using World.ownsRow_nil _ _ _ _), HS, Below.refl _ _⟩
        case round =>
          obtain ⟨k, v, cc, hk, rfl, rfl, HO, HX, HR⟩ := hrel
          have hD : wr.cell? ⟨w.heap.size, 2, none⟩ = some (.slice a c.ss.length c.cp) := by
            rw [HR.out.cell HWQ.out]; exact HD2.out
          by_cases hlt : k < c.ss.length
          · obtain ⟨b, off, rfl, cell⟩ := (HRW.out.later (HBB.out.trans (HR.out.mono (Nat.le_of_lt HWQ.out)))) k hlt
            obtain ⟨y, hy⟩ : ∃ y, y = nthS c.ss k := ⟨_, rfl⟩
            rw [← hy] at cell
            have hv2 := HX.out.c2
            have hl5 := HL5.out
            have HTK : Hid (txC (c.ss.take (k + 1)) = txC (c.ss.take k) ++ [.string y]) := hid (by
              rw [List.take_succ_eq_append_getElem hlt, hy, txC, List.map_append]
              simp only [nthS, txC, List.getElem?_eq_getElem hlt, List.map_cons, List.map_nil]
              rfl)
            have HN3 : Hid (k + 1 ≤ maxLen) := by have := HL5.out; show _ ≤ _; unfold maxLen; omega
            have HN4 : Hid ((k + 1) * 16 ≤ 140737488355328) := by have := HL5.out; show _ ≤ _; omega
            have HNE : Hid (∀ j u, [Value.string y][j]? = some u → (wr.drew.alloc (.cells #[.string y] 9)).cell? ((⟨wr.heap.size, 0, none⟩ : Addr).add j) = some u) := hid fun j u hj => by
              rw [Addr.add_lit, Nat.zero_add]
              match j, hj with
              | 0, hj => simp at hj; subst hj; simp [go_sem]
            have HOC : Hid (∀ u ∈ [Value.string y], u.oneCell' = true) := hid fun u hu => by
              simp only [List.mem_cons, List.not_mem_nil, or_false] at hu
              subst hu; rfl
            have HOW : Hid ((wr.drew.alloc (.cells #[.string y] 9)).ownsRow (q + 1) 9 1 (.slice v k cc) k (txC (c.ss.take k))) := hid (by
              have h1 : (wr.alloc (.cells #[.string y] 9)).ownsRow (q + 1) 9 1 (.slice v k cc) k (txC (c.ss.take k)) := HO.out.alloc _
              exact h1)
            have HBD : Hid (Below wr.heap.size wr (wr.drew.alloc (.cells #[.string y] 9))) := hid (Below.al (Below.drew (Below.refl _ _)) _)
            have HXB := hid (HX.out.later HBD.out)
            have hv3 : (wr.alloc (.cells #[.string y] 9)).cell? ⟨q, 2, none⟩ = some (.slice v k cc) := (HX.out.later (Below.al (Below.refl _ _) _)).c2
            have hQS : Hid (q + 1 ≤ (wr.drew.alloc (.cells #[.string y] 9)).heap.size) := hid (Nat.le_trans HX.out.lt HBD.out.size)
            have hne : (Value.slice v k cc).ownBlock ≠ some q := fun e => by have := (HO.out.lt q e).1; omega
            have HNQ := hid hne
            clear hy hne
            go_wp2_with fail
            go_region_law ((refine step_append_lies _ (by rfl) _ _ 23 (by rfl) (q + 1) 9 i0 (.string ⟨#[]⟩) 1 16 Tryd.underlying23 hi hz0 hz1 hz2 rfl (by decide) (.slice v k cc) k (txC (c.ss.take k)) (by simp [Act.eval]) HOW.out ⟨wr.heap.size, 0, none⟩ 1 1 [.string y] (by simp [Act.eval]) rfl HNE.out HOC.out (by decide) HN3.out HN4.out hQS.out _ rfl ?_; intro g cap w4 hown hgrow hat hlt4; have HX4 := hid (HXB.out.grown hgrow HNQ.out); have f2 := HX4.out.fz 2; have k2 := HX4.out.c2; have HOWN := hid hown; have HGR := hid hgrow; clear hown hgrow hat))
            all_goals (try go_wp2_with fail)
            all_goals
              have HB4 : Hid (Below q wB (w4.setCell ⟨q, 2, none⟩ (.slice (some ⟨g, 0, none⟩) (k + 1) cap))) := hid (Below.setCell ((HR.out.trans (HBD.out.mono (Nat.le_of_lt HX.out.lt))).grown HGR.out (Nat.le_trans (Nat.le_of_lt HX.out.lt) HBD.out.size) (fun b hb => by have := (HO.out.lt b hb).1; omega)) (Nat.le_refl _) _)
              have HO4 : Hid ((w4.setCell ⟨q, 2, none⟩ (.slice (some ⟨g, 0, none⟩) (k + 1) cap)).ownsRow (q + 1) 9 1 (.slice (some ⟨g, 0, none⟩) (k + 1) cap) (k + 1) (txC (c.ss.take (k + 1)))) := hid (by
                rw [HTK.out]
                exact owns_keep HOWN.out (fun b hb => set_block (d := q) (o := 2) _ _ (Nat.ne_of_gt (Nat.lt_of_lt_of_le (Nat.lt_succ_self q) (HOWN.out.lt b hb).1))))
              go_roundg (c.ss.length - (k + 1))
            all_goals first | omega | exact ⟨k + 1, some ⟨g, 0, none⟩, cap, hlt, rfl, by go_num, HO4, HX4.out.put _, HB4⟩
          · obtain rfl : k = c.ss.length := by omega
            have e2 := HX.out.c2
            obtain ⟨g0, g1, -, g3, g4, g5, -⟩ := HX.out
            have HBR := hid (HBB.out.trans (HR.out.mono (Nat.le_of_lt HWQ.out)))
            clear HO HX HR HS HBB
            go_wp2_with fail
            go_region_with ((go_at_call 16; refine (rclock_is _ _ _).mono ?_; rintro e w4 ⟨d, rfl, hb4⟩; have hB4 : Below wr.heap.size wr w4 := (by refine Below.on ?_ hb4; (repeat (first | with_reducible exact Below.refl _ _ | with_reducible assumption | with_reducible refine Below.drew ?_ | with_reducible refine Below.al ?_ _ | with_reducible refine Below.setCell ?_ (by first | exact Nat.le_refl _ | (simp; omega) | (simp; done)) _ | with_reducible refine Below.on ?_ (by assumption)))); have j0 := cell_later hB4 g0; have j1 := cell_later hB4 g1; have j2 := cell_later hB4 e2; have j3 := cell_later hB4 g3; have j4 := cell_later hB4 g4; have j5 := cell_later hB4 g5))
            all_goals (try go_wp2_with fail)
            all_goals go_ret
            all_goals refine ⟨.inr ⟨HV.out, _, rfl⟩, ?_⟩
            all_goals exact Below.al (Below.on HBR.out hB4) _
end Go.Proofs.YtkdklphpcbhfkaaDoor.Rt
