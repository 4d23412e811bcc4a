import Derived.Test.YthenfioddnkjbaaGreatDoorRMay
import Derived.Lib.QuietBelow
import Derived.BigQuiet
import Derived.Test.YthenfioddnkjbaaGreatDoorRRoom
/- sameTexts and sameConfig, where they are the same. -/
namespace Go.Proofs.YthenfioddnkjbaaGreatDoor.Rt
open Go.RowKit Go.Sort
set_option linter.unusedVariables false

set_option maxHeartbeats 2000000 in
theorem sameT_is {w : World} {a b : Option Addr} {ca cb : Nat} {ss : List ByteArray} (ha : RowS w a ss) (hb : RowS w b ss) (hl : ss.length ≤ 1073741824) :
    Calls Tryz.prog 63 #[.slice a ss.length ca, .slice b ss.length cb] w fun e w' => e = .returned (.bool true) ∧ Below w.heap.size w w' := by
  have H1 := hid ha; have H2 := hid hb
  clear ha hb
  go_enter Tryz.func63, Tryz.ntmps63
  go_wp2_with fail
  go_loopg [5] ss.length (fun g s5 wr => ∃ k : Nat, k ≤ ss.length ∧ g = ss.length - k ∧ s5 = .int .i64 k ∧ Hid (Below w.heap.size w wr))
  case atStart => exact ⟨0, by omega, by omega, rfl, hid (Below.refl _ _)⟩
  case round =>
    obtain ⟨k, hk, rfl, rfl, HK⟩ := hrel
    by_cases hlt : k < ss.length
    · obtain ⟨b1, o1, rfl, e0⟩ := (H1.out.later HK.out) k hlt
      obtain ⟨b2, o2, rfl, f0⟩ := (H2.out.later HK.out) k hlt
      obtain ⟨x, hx⟩ : ∃ x, x = nthS ss k := ⟨_, rfl⟩
      rw [← hx] at e0 f0
      clear hx
      have k0 := cell_regrown e0
      have l0 := cell_regrown f0
      go_wp2_with fail
      refine wp_region_quiet_below (by kernel_rfl) (by kernel_rfl) ?_
      repeat (go_big_quiet_step (fail))
      refine wpQuiet_nil ?_
      intro wq hq
      replace hq := below_of_regrown hq
      have HQ := hid (Below.on HK.out hq)
      clear hq k0 l0
      go_wp2_with fail
      go_roundg (ss.length - (k + 1))
      case measure => omega
      case rel => exact ⟨k + 1, by omega, rfl, by go_num, HQ⟩
    · obtain rfl : k = ss.length := by omega
      go_wp2_with fail
      go_ret
      exact ⟨rfl, HK.out⟩
set_option maxRecDepth 16000 in
set_option maxHeartbeats 4000000 in
theorem sameC_is {w : World} {c : Cf} {a : Option Addr} {cp : Nat} (h : RowS w c.a c.ss) (ha : RowS w a c.ss) (hl : c.ss.length ≤ 1073741824) :
    Calls Tryz.prog 15 #[.agg #[.int .i64 c.sh, .int .i64 c.cl, .slice a c.ss.length cp, .int .i64 c.ca, .int .i64 c.pk, .int .u64 c.wi], c.val] w fun e w' => e = .returned (.bool true) ∧ Below w.heap.size w w' := by
  obtain ⟨wb, hwb⟩ : ∃ wb, wb = (w.alloc (.cells #[.int .i64 c.sh, .int .i64 c.cl, .slice a c.ss.length cp, .int .i64 c.ca, .int .i64 c.pk, .int .u64 c.wi] 26)).alloc (.cells #[.int .i64 c.sh, .int .i64 c.cl, .slice c.a c.ss.length c.cp, .int .i64 c.ca, .int .i64 c.pk, .int .u64 c.wi] 26) := ⟨_, rfl⟩
  have hb : Below w.heap.size w wb := by rw [hwb]; (repeat (first | with_reducible exact Below.refl _ _ | with_reducible assumption | with_reducible refine Below.drew ?_ | with_reducible refine Below.al ?_ _ | with_reducible refine Below.setCell ?_ (by first | exact Nat.le_refl _ | (simp; omega) | (simp; done)) _ | with_reducible refine Below.on ?_ (by assumption)))
  have HS := hid (sameT_is (ca := cp) (cb := c.cp) (ha.later hb) (h.later hb) hl)
  have HB := hid hb
  clear hb h ha
  obtain ⟨sh, cl, ca, cp', ss, cca, cpk, cwi⟩ := c
  simp only at hwb HS
  go_enter Tryz.func15, Tryz.ntmps15
  go_wp2_with fail
  rw [← hwb]
  refine HS.out.mono ?_
  rintro e w1 ⟨rfl, hb1⟩
  go_wp2_with fail
  go_ret
  exact ⟨rfl, Below.on HB.out hb1⟩
end Go.Proofs.YthenfioddnkjbaaGreatDoor.Rt
/- What is asked: a configuration, reads, writes and keys. -/
namespace Go.Proofs.YthenfioddnkjbaaGreatDoor.Rt
open Go.RowKit Go.Sort
set_option linter.unusedVariables false

structure Ak where
  c : Cf
  ra : Option Addr
  rc : Nat
  rs : List T2
  wa : Option Addr
  wc : Nat
  ws : List Wr
  ka : Option Addr
  kc : Nat
  ks : List ByteArray
abbrev Ak.val (x : Ak) : Value := .agg #[.int .i64 x.c.sh, .int .i64 x.c.cl, .slice x.c.a x.c.ss.length x.c.cp, .int .i64 x.c.ca, .int .i64 x.c.pk, .int .u64 x.c.wi, .slice x.ra x.rs.length x.rc, .slice x.wa x.ws.length x.wc, .slice x.ka x.ks.length x.kc]
structure Ak.Ok (x : Ak) (w : World) : Prop where
  c : x.c.Ok w
  cl : x.c.ss.length ≤ 8796093022208
  r : Row2 w x.ra x.rs
  rl : x.rs.length ≤ 8796093022208
  wr : RowW w x.wa x.ws
  wl : x.ws.length ≤ 8796093022208
  k : RowS w x.ka x.ks
  kl : x.ks.length ≤ 8796093022208
theorem Ak.Ok.later {x : Ak} {w w' : World} (h : x.Ok w) (hb : Below w.heap.size w w') : x.Ok w' := ⟨h.c.later hb, h.cl, h.r.later hb, h.rl, h.wr.later hb, h.wl, h.k.later hb, h.kl⟩
structure BoxA (w : World) (p : Nat) (x : Ak) : Prop where
  c0 : w.cell? ⟨p, 0, none⟩ = some (.int .i64 x.c.sh)
  c1 : w.cell? ⟨p, 1, none⟩ = some (.int .i64 x.c.cl)
  c2 : w.cell? ⟨p, 2, none⟩ = some (.slice x.c.a x.c.ss.length x.c.cp)
  c3 : w.cell? ⟨p, 3, none⟩ = some (.int .i64 x.c.ca)
  c4 : w.cell? ⟨p, 4, none⟩ = some (.int .i64 x.c.pk)
  c5 : w.cell? ⟨p, 5, none⟩ = some (.int .u64 x.c.wi)
  c6 : w.cell? ⟨p, 6, none⟩ = some (.slice x.ra x.rs.length x.rc)
  c7 : w.cell? ⟨p, 7, none⟩ = some (.slice x.wa x.ws.length x.wc)
  c8 : w.cell? ⟨p, 8, none⟩ = some (.slice x.ka x.ks.length x.kc)
theorem BoxA.later {w w' : World} {p : Nat} {x : Ak} (h : BoxA w p x) (hb : Below w.heap.size w w') : BoxA w' p x := ⟨cell_later hb h.c0, cell_later hb h.c1, cell_later hb h.c2, cell_later hb h.c3, cell_later hb h.c4, cell_later hb h.c5, cell_later hb h.c6, cell_later hb h.c7, cell_later hb h.c8⟩
abbrev Ak.cells (x : Ak) : Array Value := #[.int .i64 x.c.sh, .int .i64 x.c.cl, .slice x.c.a x.c.ss.length x.c.cp, .int .i64 x.c.ca, .int .i64 x.c.pk, .int .u64 x.c.wi, .slice x.ra x.rs.length x.rc, .slice x.wa x.ws.length x.wc, .slice x.ka x.ks.length x.kc]
theorem BoxA.new (w : World) (x : Ak) (t : TypeId) : BoxA (w.alloc (.cells x.cells t)) w.heap.size x := by
  constructor <;> simp [go_sem]

/-- a world behind the box, and all that stands in it -/
structure At (W w : World) (p : Nat) (x : Ak) : Prop where
  box : BoxA W p x
  ok : x.Ok W
  tab : PowTab W
  bl : Below W.heap.size W w
theorem At.twin {W w : World} {p : Nat} {x : Ak} (h : At W w p x) : Calls Tryz.prog 17 #[x.c.val] w fun e w' => ∃ a cp, e = .returned (x.c.at a cp).val ∧ (x.c.at a cp).Ok w' ∧ Below w.heap.size w w' :=
  twin_is (h.ok.c.later h.bl) h.ok.cl (h.tab.later h.bl)
theorem At.on {W w w' : World} {p : Nat} {x : Ak} (h : At W w p x) (hb : Below w.heap.size w w') : At W w' p x := ⟨h.box, h.ok, h.tab, Below.on h.bl hb⟩

end Go.Proofs.YthenfioddnkjbaaGreatDoor.Rt
/- The program's small functions: is a configuration valid, whose is a key. -/
namespace Go.Proofs.YthenfioddnkjbaaGreatDoor.Rt
open Go.RowKit Go.Sort
set_option linter.unusedVariables false

set_option maxHeartbeats 4000000 in
theorem owner_is {c : Cf} {w : World} (h : c.Ok w) (hl : c.ss.length ≤ 5) (k : ByteArray) :
    Calls Tryz.prog 13 #[c.val, .string k] w fun e w' => e = .returned (.int .u32 (ownN c.ss k : Int)) ∧ Below w.heap.size w w' := by
  have H := hid h.row
  clear h
  obtain ⟨sh, cl, a, cp, ss, ca, pk, wi⟩ := c
  simp only at hl
  go_enter Tryz.func13, Tryz.ntmps13
  go_wp2_with fail
  go_loopg [5, 11] ss.length (fun g s5 s11 wr => ∃ n : Nat, n ≤ ss.length ∧ g = ss.length - n ∧ s11 = .int .i64 n ∧ s5 = .int .u32 (cntS ss k n : Int) ∧ Hid (Below w.heap.size w wr))
  case atStart => exact ⟨0, by omega, by omega, rfl, rfl, hid (by (repeat (first | exact Below.refl _ _ | assumption | refine Below.drew ?_ | refine Below.al ?_ _ | refine Below.setCell ?_ (by first | exact Nat.le_refl _ | (simp; omega) | (simp; done)) _ | refine Below.on ?_ (by assumption))))⟩
  case round =>
    obtain ⟨n, hn, rfl, rfl, rfl, HK⟩ := hrel
    have hcl := cnt_le ss k n
    by_cases hlt : n < ss.length
    · obtain ⟨b, off, rfl, c0⟩ := (H.out.later HK.out) n hlt
      obtain ⟨m, hm⟩ : ∃ m, m = cntS ss k n := ⟨_, rfl⟩
      rw [← hm] at hcl
      rw [← hm]
      obtain ⟨y, hy⟩ : ∃ y, y = nthS ss n := ⟨_, rfl⟩
      rw [← hy] at c0
      have HC : Hid (cntS ss k (n + 1) = m + if ltS k y then 0 else 1) := hid (by rw [cntS, hm, hy])
      have hle : (Op.bytesLess y.toList k.toList || y.toList == k.toList) = !ltS k y := leq_less _ _
      clear hm hy
      cases hlp : ltS k y
      · rw [hlp, Bool.not_false] at hle
        rw [hlp] at HC
        go_wp2_with fail
        go_roundg (ss.length - (n + 1))
        case measure => omega
        case rel => exact ⟨n + 1, by omega, rfl, by go_num, by rw [HC.out]; go_num, HK⟩
      · rw [hlp, Bool.not_true] at hle
        rw [hlp] at HC
        go_wp2_with fail
        go_roundg (ss.length - (n + 1))
        case measure => omega
        case rel => exact ⟨n + 1, by omega, rfl, by go_num, by rw [HC.out]; go_num, HK⟩
    · obtain rfl : n = ss.length := by omega
      go_wp2_with fail
      go_ret
      exact ⟨rfl, HK.out⟩

/-- what Owner answers -/
def Cf.own (c : Cf) (k : ByteArray) : Nat := if c.okB then ownN c.ss k else 0
theorem Owner_is {c : Cf} {w : World} (h : c.Ok w) (k : ByteArray) :
    Calls Tryz.prog 5 #[c.val, .string k] w fun e w' => e = .returned (.int .u32 (c.own k : Int)) ∧ Below w.heap.size w w' := by
  have H := hid h
  clear h
  have HU : Hid (c.own k = if c.okB then ownN c.ss k else 0) := hid rfl
  have HB := hid (BoxC.new w c 26)
  go_enter Tryz.func5, Tryz.ntmps5
  go_wp2_with fail
  refine (mayBe_is (H.out.later (by (repeat (first | exact Below.refl _ _ | assumption | refine Below.drew ?_ | refine Below.al ?_ _ | refine Below.setCell ?_ (by first | exact Nat.le_refl _ | (simp; omega) | (simp; done)) _ | refine Below.on ?_ (by assumption))))) rfl).mono ?_
  rintro e w1 ⟨rfl, hw1⟩
  obtain ⟨c0, c1, c2, c3, c4, c5⟩ := HB.out.later hw1
  have HW : Hid (Below w.heap.size w w1) := hid (by (repeat (first | exact Below.refl _ _ | assumption | refine Below.drew ?_ | refine Below.al ?_ _ | refine Below.setCell ?_ (by first | exact Nat.le_refl _ | (simp; omega) | (simp; done)) _ | refine Below.on ?_ (by assumption))))
  clear hw1 HB
  cases ho : c.okB
  · go_wp2_with fail
    go_ret
    exact ⟨by rw [HU.out, ho]; rfl, HW.out⟩
  · go_wp2_with fail
    refine (owner_is (H.out.later HW.out) (ok_len ho).1 k).mono ?_
    rintro e w2 ⟨rfl, hw2⟩
    go_wp2_with fail
    go_ret
    exact ⟨by rw [HU.out, ho]; rfl, Below.on HW.out hw2⟩

theorem lesser_is (x y : ByteArray) (w : World) :
    Calls Tryz.prog 120 #[.string x, .string y] w fun e w' => e = .returned (.string (lesH x y)) ∧ Below w.heap.size w w' := by
  have HL : Hid (lesH x y = if emS x || (!emS y && ltS y x) then y else x) := hid rfl
  go_enter Tryz.func120, Tryz.ntmps120
  cases h1 : emS x
  · have h1' : x.toList.isEmpty = false := h1
    cases h2 : emS y
    · have h2' : y.toList.isEmpty = false := h2
      cases h3 : ltS y x
      · have h3' : Op.bytesLess y.toList x.toList = false := h3
        go_wp2_with fail
        go_ret
        exact ⟨by rw [HL.out, h1, h2, h3]; rfl, Below.refl _ _⟩
      · have h3' : Op.bytesLess y.toList x.toList = true := h3
        go_wp2_with fail
        go_ret
        exact ⟨by rw [HL.out, h1, h2, h3]; rfl, Below.refl _ _⟩
    · have h2' : y.toList.isEmpty = true := h2
      go_wp2_with fail
      go_ret
      exact ⟨by rw [HL.out, h1, h2]; rfl, Below.refl _ _⟩
  · have h1' : x.toList.isEmpty = true := h1
    go_wp2_with fail
    go_ret
    exact ⟨by rw [HL.out, h1]; rfl, Below.refl _ _⟩

end Go.Proofs.YthenfioddnkjbaaGreatDoor.Rt
/- A shard's range; the common part of two spans. -/
namespace Go.Proofs.YthenfioddnkjbaaGreatDoor.Rt
open Go.RowKit Go.Sort
set_option linter.unusedVariables false

abbrev spv (s : T2) : Value := .agg #[.string s.1, .string s.2]

set_option maxHeartbeats 4000000 in
theorem reach_is {c : Cf} {w : World} (h : c.Ok w) (hl : c.ss.length ≤ 5) {n : Nat} (hn : n ≤ c.ss.length) :
    Calls Tryz.prog 104 #[c.val, .int .i64 (n : Int)] w fun e w' => e = .returned (spv (reachN c.ss n)) ∧ Below w.heap.size w w' := by
  have H := hid h.row
  clear h
  obtain ⟨sh, cl, a, cp, ss, ca, pk, wi⟩ := c
  simp only at hl hn
  obtain ⟨lo, hlo⟩ : ∃ lo, lo = prevS ss n := ⟨_, rfl⟩
  obtain ⟨hi, hhi⟩ : ∃ hi, hi = nthS ss n := ⟨_, rfl⟩
  have HE : Hid (reachN ss n = (lo, hi)) := hid (by rw [reachN, hlo, hhi])
  have HR := hid (fun i (hi : i < ss.length) => (H.out.later (w' := ((w.alloc (.cells #[.int .i64 sh, .int .i64 cl, .slice a ss.length cp, .int .i64 ca, .int .i64 pk, .int .u64 wi] 26)).alloc (.cells #[.string ⟨#[]⟩, .string ⟨#[]⟩] 49)).alloc (.cells #[.string ⟨#[]⟩, .string ⟨#[]⟩] 49)) (by (repeat (first | exact Below.refl _ _ | assumption | refine Below.drew ?_ | refine Below.al ?_ _ | refine Below.setCell ?_ (by first | exact Nat.le_refl _ | (simp; omega) | (simp; done)) _ | refine Below.on ?_ (by assumption))))) i hi)
  by_cases h0 : n ≤ 0
  · have hl0 : lo = ⟨#[]⟩ := by rw [hlo, show n = 0 by omega]; rfl
    by_cases h1 : n < ss.length
    · obtain ⟨b, off, rfl, c1⟩ := HR.out n h1
      rw [← hhi] at c1
      clear hlo hhi
      subst hl0
      go_enter Tryz.func104, Tryz.ntmps104
      go_wp2_with fail
      refine bodyPost_ret (v := spv (⟨#[]⟩, hi)) (by simp [results, Tryz.results104, go_sem]) rfl ⟨by rw [HE.out], by (repeat (first | exact Below.refl _ _ | assumption | refine Below.drew ?_ | refine Below.al ?_ _ | refine Below.setCell ?_ (by first | exact Nat.le_refl _ | (simp; omega) | (simp; done)) _ | refine Below.on ?_ (by assumption)))⟩
    · have hh0 : hi = ⟨#[]⟩ := by rw [hhi, show n = ss.length by omega]; exact reach_last _
      clear hlo hhi
      subst hl0 hh0
      go_enter Tryz.func104, Tryz.ntmps104
      go_wp2_with fail
      refine bodyPost_ret (v := spv (⟨#[]⟩, ⟨#[]⟩)) (by simp [results, Tryz.results104, go_sem]) rfl ⟨by rw [HE.out], by (repeat (first | exact Below.refl _ _ | assumption | refine Below.drew ?_ | refine Below.al ?_ _ | refine Below.setCell ?_ (by first | exact Nat.le_refl _ | (simp; omega) | (simp; done)) _ | refine Below.on ?_ (by assumption)))⟩
  · obtain ⟨k, rfl⟩ : ∃ k, n = k + 1 := ⟨n - 1, by omega⟩
    have hlo' : lo = nthS ss k := by rw [hlo]; simp [prevS]
    obtain ⟨b, off, rfl, c0⟩ := HR.out k (by omega)
    rw [← hlo'] at c0
    clear hlo' hlo
    by_cases h1 : k + 1 < ss.length
    · obtain ⟨b', off', e', c1⟩ := (H.out.later (w' := ((w.alloc (.cells #[.int .i64 sh, .int .i64 cl, .slice (some ⟨b, off, none⟩) ss.length cp, .int .i64 ca, .int .i64 pk, .int .u64 wi] 26)).alloc (.cells #[.string ⟨#[]⟩, .string ⟨#[]⟩] 49)).alloc (.cells #[.string lo, .string ⟨#[]⟩] 49)) (by (repeat (first | exact Below.refl _ _ | assumption | refine Below.drew ?_ | refine Below.al ?_ _ | refine Below.setCell ?_ (by first | exact Nat.le_refl _ | (simp; omega) | (simp; done)) _ | refine Below.on ?_ (by assumption))))) (k + 1) h1
      injection e' with e'; injection e' with e1 e2
      subst e1 e2
      rw [← hhi] at c1
      clear hhi
      go_enter Tryz.func104, Tryz.ntmps104
      go_wp2_with fail
      refine bodyPost_ret (v := spv (lo, hi)) (by simp [results, Tryz.results104, go_sem]) rfl ⟨by rw [HE.out], by (repeat (first | exact Below.refl _ _ | assumption | refine Below.drew ?_ | refine Below.al ?_ _ | refine Below.setCell ?_ (by first | exact Nat.le_refl _ | (simp; omega) | (simp; done)) _ | refine Below.on ?_ (by assumption)))⟩
    · have hh0 : hi = ⟨#[]⟩ := by rw [hhi, show k + 1 = ss.length by omega]; exact reach_last _
      clear hhi
      subst hh0
      go_enter Tryz.func104, Tryz.ntmps104
      go_wp2_with fail
      refine bodyPost_ret (v := spv (lo, ⟨#[]⟩)) (by simp [results, Tryz.results104, go_sem]) rfl ⟨by rw [HE.out], by (repeat (first | exact Below.refl _ _ | assumption | refine Below.drew ?_ | refine Below.al ?_ _ | refine Below.setCell ?_ (by first | exact Nat.le_refl _ | (simp; omega) | (simp; done)) _ | refine Below.on ?_ (by assumption)))⟩

end Go.Proofs.YthenfioddnkjbaaGreatDoor.Rt
