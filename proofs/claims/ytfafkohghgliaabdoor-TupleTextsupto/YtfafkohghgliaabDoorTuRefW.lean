import Derived.Test.YtfafkohghgliaabDoorTuRefEn
import Derived.Test.YtfafkohghgliaabDoorTuT
import Derived.Test.YtfafkohghgliaabDoorStepCall
import Derived.Laws.AppendOwn
/- The document's words. -/
namespace Go.Proofs.YtfafkohghgliaabDoor.Tu
open Go.RowKit Go.Sort Go.Shelf Go.Proofs.YtfafkohghgliaabDoor Go.Proofs.YtfafkohghgliaabDoor.Rt
set_option linter.unusedVariables false
set_option linter.unusedSectionVars false
variable [DecidableEq Vl]

theorem infoU8 : (Tryd.prog.info? 5).map (fun i => (i.zero, i.size, i.bytes)) = some (some (.int .u8 0), 1, 1) := by kernel_rfl
set_option maxHeartbeats 1000000 in
theorem rplain_is {b : Nat} (hb : b < 256) {u : Bool} (hu : plB b = u) (w : World) :
    Calls Tryd.prog 78 #[.int .u8 (b : Int)] w fun e w' => e = .returned (.bool u) ∧ w' = w := by
  subst hu
  have e1 : decide ((33 : Int) ≤ (b : Int)) = decide (33 ≤ b) := by rw [decide_eq_decide]; omega
  have e2 : decide ((b : Int) ≤ 126) = decide (b ≤ 126) := by rw [decide_eq_decide]; omega
  have e3 : ((b : Int) == 37) = decide (b = 37) := by rw [Bool.eq_iff_iff]; simp; omega
  go_enter Tryd.func78, Tryd.ntmps78
  cases h1 : decide (33 ≤ b)
  · go_wp2
    go_ret
    exact ⟨ret_bool (by simp [plB, h1]), rfl⟩
  · cases h2 : decide (b ≤ 126)
    · go_wp2
      go_ret
      exact ⟨ret_bool (by simp [plB, h1, h2]), rfl⟩
    · go_wp2
      go_ret
      exact ⟨ret_bool (by simp [plB, h1, h2, bne, e3]), rfl⟩
theorem rhex_is {n : Nat} (h : n < 16) (w : World) :
    Calls Tryd.prog 79 #[.int .u8 (n : Int)] w fun e w' => e = .returned (.int .u8 (hx n : Int)) ∧ w' = w := by
  go_enter Tryd.func79, Tryd.ntmps79
  by_cases h1 : n < 10
  · have d1 : decide ((n : Int) < 10) = true := by simp; omega
    have e2 : IntKind.u8.wrap (48 + (n : Int)) = 48 + (n : Int) := by rw [IntKind.wrap_u8]; omega
    have HX : Hid ((hx n : Int) = 48 + (n : Int)) := hid (by rw [hx, if_pos h1]; omega)
    clear h1
    go_wp2_with fail
    go_ret
    exact ⟨by rw [HX.out]; rfl, rfl⟩
  · have d1 : decide ((n : Int) < 10) = false := by simp; omega
    have e2 : IntKind.u8.wrap (97 + (n : Int)) = 97 + (n : Int) := by rw [IntKind.wrap_u8]; omega
    have e3 : IntKind.u8.wrap (97 + (n : Int) - 10) = 97 + (n : Int) - 10 := by rw [IntKind.wrap_u8]; omega
    have HX : Hid ((hx n : Int) = 97 + (n : Int) - 10) := hid (by rw [hx, if_neg h1]; omega)
    clear h1
    go_wp2_with fail
    go_ret
    exact ⟨by rw [HX.out]; rfl, rfl⟩

/-- bytes in cells -/
def bcs (L : List Nat) : List Value := L.map fun b : Nat => .int .u8 (b : Int)
theorem bcs_one (L : List Nat) : ∀ u ∈ bcs L, u.oneCell' = true := by
  intro u hu
  obtain ⟨b, _, rfl⟩ := List.mem_map.1 hu
  rfl
theorem owns_sl {w : World} {B n : Nat} {e : TypeId} {v : Value} {xs : List Value} (h : w.ownsRow B e 1 v n xs) : ∃ a c, v = .slice a n c := by
  rcases h.2 with ⟨rfl, h0⟩ | ⟨g, cap, cur, hv, _⟩
  · exact ⟨none, 0, by rw [h0]⟩
  · exact ⟨_, _, hv⟩
theorem conv_own {w : World} {B n : Nat} {v : Value} {L : List Nat} (h : w.ownsRow B 5 1 v n (bcs L)) (h8 : B8 L) (hn : L.length = n) :
    (convert 50 9 v).run Tryd.prog w = .ok (.string (ofNats L)) w := by
  obtain ⟨hlen, ⟨rfl, h0⟩ | ⟨g, cap, cur, rfl, hB, hh, h1, h2, h3, h4⟩⟩ := h
  · subst h0
    have : L = [] := List.eq_nil_of_length_eq_zero hn
    subst this
    exact run_convert_bytes_nil w 50 5 Tryd.underlying50 Tryd.underlying5 0 0 9 Tryd.underlying9
  · have hcell : ∀ j v, (bcs L)[j]? = some v → w.cell? ⟨g, j, none⟩ = some v := fun j v hj => by
      simp only [World.cell?, hh]
      rw [← h4] at hj
      rw [List.getElem?_take] at hj
      split at hj
      · simpa using hj
      · cases hj
    have hm : (L.map UInt8.ofNat).length = n := by simpa using hn
    have := run_convert_bytes_back (P := Tryd.prog) w 50 9 5 ⟨g, 0, none⟩ cap (L.map UInt8.ofNat) Tryd.underlying50 Tryd.underlying5 Tryd.underlying9 (fun j hj => by
      have hj' : j < L.length := by simpa using hj
      rw [Addr.add_lit, Nat.zero_add]
      refine hcell j _ ?_
      have h256 : L[j] < 256 := h8 _ (List.getElem_mem hj')
      simp [bcs, hj', UInt8.toNat_ofNat']
      omega)
    rw [hm] at this
    exact this

set_option maxRecDepth 100000 in
set_option maxHeartbeats 4000000 in
theorem rword_is {l : List Nat} (h8 : B8 l) (hl : 3 * l.length + 1 ≤ 140737488355328) (w : World) :
    Calls Tryd.prog 57 #[.string (ofNats l)] w fun e w' => e = .returned (.string (ofNats (wordL l))) ∧ Below w.heap.size w w' := by
  obtain ⟨i0, hi, hz0, hz1, hz2⟩ := info_parts infoU8
  have H8 := hid h8
  have hsz : (ofNats l).size = l.length := ofNats_size l
  clear h8
  by_cases h0 : l = []
  · subst h0
    have hne : (ofNats []).toList.isEmpty = true := by simp [ofNats, ByteArray.toList_eq]
    go_enter Tryd.func57, Tryd.ntmps57
    go_wp2
    go_ret
    exact ⟨rfl, Below.refl _ _⟩
  · have hne : (ofNats l).toList.isEmpty = false := by
      cases l with
      | nil => exact absurd rfl h0
      | cons a l => simp [ofNats, ByteArray.toList_eq]
    have H0 := hid h0
    clear h0
    go_enter Tryd.func57, Tryd.ntmps57
    go_wp2_with fail
    go_loopg [3, 4] l.length (fun g s3 s4 wr => ∃ (k : Nat) (a : Option Addr) (n c : Nat), k ≤ l.length ∧ g = l.length - k ∧ s4 = .int .i64 k ∧ s3 = .slice a n c ∧ Hid ((wbs (l.take k)).length = n) ∧ Hid (wr.ownsRow w.heap.size 5 1 (.slice a n c) n (bcs (wbs (l.take k)))) ∧ Hid (Below w.heap.size w wr))
    case atStart => exact ⟨0, none, 0, 0, by omega, by omega, rfl, rfl, hid rfl, hid (by simpa [wbs, bcs] using World.ownsRow_nil _ _ _ _), hid (Below.refl _ _)⟩
    case round =>
      obtain ⟨k, a, n, c, hk, rfl, rfl, rfl, HN, HO, HB⟩ := hrel
      by_cases hlt : k < l.length
      · have hc : l[k]? = some l[k] := List.getElem?_eq_getElem hlt
        obtain ⟨ch, hc'⟩ : ∃ ch, ch = l[k] := ⟨_, rfl⟩
        rw [← hc'] at hc
        have hc8 : ch < 256 := H8.out ch (by rw [hc']; exact List.getElem_mem hlt)
        have hix : ∀ w, (Instr.index 9 (.string (ofNats l)) (.int .i64 (k : Int))).run Tryd.prog w = .ok (.int .u8 (ch : Int)) w := fun w => index_at H8.out hc w
        have HT : Hid (wbs (l.take (k + 1)) = wbs (l.take k) ++ wb ch) := hid (by rw [List.take_succ_eq_append_getElem hlt, ← hc']; simp [wbs])
        have HL : Hid (n + 3 ≤ 140737488355328) := hid (by have := (wbs_len (l.take k)).2; rw [List.length_take, HN.out] at this; omega)
        clear hc hc'
        go_wp2_with fail
        refine (rplain_is hc8 rfl _).mono ?_
        rintro e w1 ⟨rfl, rfl⟩
        cases hp : plB ch
        · obtain ⟨q, hq⟩ : ∃ q, q = ch / 16 := ⟨_, rfl⟩
          obtain ⟨r, hr⟩ : ∃ r, r = ch % 16 := ⟨_, rfl⟩
          have HX1 := hid (fun w => rhex_is (n := q) (by omega) w)
          have HX2 := hid (fun w => rhex_is (n := r) (by omega) w)
          have e1 : (ch : Int) / 16 = (q : Int) := by omega
          have e2 : (ch : Int).tmod 16 = (r : Int) := by rw [Int.tmod_eq_emod_of_nonneg (by omega)]; omega
          have e3 : IntKind.u8.wrap (q : Int) = (q : Int) := by rw [IntKind.wrap_u8]; omega
          have e4 : IntKind.u8.wrap (r : Int) = (r : Int) := by rw [IntKind.wrap_u8]; omega
          have HW : Hid (wb ch = [37, hx q, hx r]) := hid (by rw [wb, hp, hq, hr]; rfl)
          have ENT : Enters Tryd.prog 79 := enters_of Tryd.func79 (by kernel_rfl) rfl
          have HN3 : Hid (n + 3 ≤ maxLen) := by have := HL.out; show _ ≤ _; unfold maxLen; omega
          have HN4 : Hid ((n + 3) * 1 ≤ 140737488355328) := by have := HL.out; show _ ≤ _; omega
          have HNE : Hid (∀ j u, [Value.int .u8 37, .int .u8 (hx q : Int), .int .u8 (hx r : Int)][j]? = some u → (w1.drew.alloc (.cells #[.int .u8 37, .int .u8 (hx q : Int), .int .u8 (hx r : Int)] 5)).cell? ((⟨w1.heap.size, 0, none⟩ : Addr).add j) = some u) := hid fun j u hj => by
            rw [Addr.add_lit, Nat.zero_add]
            match j, hj with
            | 0, hj => simp at hj; subst hj; simp [go_sem]
            | 1, hj => simp at hj; subst hj; simp [go_sem]
            | 2, hj => simp at hj; subst hj; simp [go_sem]
          have HOC : Hid (∀ u ∈ [Value.int .u8 37, .int .u8 (hx q : Int), .int .u8 (hx r : Int)], u.oneCell' = true) := hid fun u hu => by
            simp only [List.mem_cons, List.not_mem_nil, or_false] at hu
            rcases hu with rfl | rfl | rfl <;> rfl
          have HOW : Hid ((w1.drew.alloc (.cells #[.int .u8 37, .int .u8 (hx q : Int), .int .u8 (hx r : Int)] 5)).ownsRow w.heap.size 5 1 (.slice a n c) n (bcs (wbs (l.take k)))) := hid (by
            have h1 : (w1.alloc (.cells #[.int .u8 37, .int .u8 (hx q : Int), .int .u8 (hx r : Int)] 5)).ownsRow w.heap.size 5 1 (.slice a n c) n (bcs (wbs (l.take k))) := HO.out.alloc _
            exact h1)
          have HBD : Hid (Below w.heap.size w (w1.drew.alloc (.cells #[.int .u8 37, .int .u8 (hx q : Int), .int .u8 (hx r : Int)] 5))) := hid (Below.al (Below.drew HB.out) _)
          clear hq hr
          go_wp2_with fail
          go_region_law (first
            | (refine step_call rfl 79 #[.tmp 27] #[5] rfl ENT #[.int .u8 (q : Int)] ?hv (fun v w' => v = .int .u8 (hx q : Int) ∧ w' = w1.drew) ((HX1.out _).mono (fun e w' h => ⟨_, h.1, rfl, h.2⟩)) ?_; (case hv => (simp [Act.eval, Act.put]; done)); rintro xv w3 ⟨rfl, rfl⟩)
            | (refine step_call rfl 79 #[.tmp 32] #[5] rfl ENT #[.int .u8 (r : Int)] ?hv (fun v w' => v = .int .u8 (hx r : Int) ∧ w' = w1.drew) ((HX2.out _).mono (fun e w' h => ⟨_, h.1, rfl, h.2⟩)) ?_; (case hv => (simp [Act.eval, Act.put]; done)); rintro xv w3 ⟨rfl, rfl⟩)
            | (refine step_append_lies _ (by rfl) _ _ 50 (by rfl) w.heap.size 5 i0 (.int .u8 0) 1 1 Tryd.underlying50 hi hz0 hz1 hz2 rfl (by decide) (.slice a n c) n (bcs (wbs (l.take k))) (by simp [Act.eval]) HOW.out ⟨w1.heap.size, 0, none⟩ 3 3 [.int .u8 37, .int .u8 (hx q : Int), .int .u8 (hx r : Int)] (by simp [Act.eval]) rfl HNE.out HOC.out (by decide) HN3.out HN4.out HBD.out.size _ rfl ?_; intro g cap w4 hown hgrow hat hlt4; have HOWN := hid hown; have HGR := hid hgrow; clear hown hgrow hat))
          all_goals (try go_wp2_with fail)
          all_goals go_roundg (l.length - (k + 1))
          all_goals first | omega | exact ⟨k + 1, some ⟨g, 0, none⟩, n + 3, cap, by omega, rfl, by go_num, rfl, hid (by rw [HT.out, HW.out]; simp [HN.out]), hid (by rw [HT.out, HW.out]; simpa [bcs] using HOWN.out), hid (HBD.out.grown HGR.out HBD.out.size (fun k hk => (HO.out.lt k hk).1))⟩
        · have HW : Hid (wb ch = [ch]) := hid (by rw [wb, hp]; rfl)
          go_wp2_with (at_builtin; refine wpList_append_own _ rfl _ _ 50 rfl w.heap.size 5 i0 (.int .u8 0) 1 1 Tryd.underlying50 hi hz0 hz1 hz2 rfl (by decide) _ _ _ rfl (HO.out.alloc _) ⟨w1.heap.size, 0, none⟩ 1 1 [.int .u8 (ch : Int)] rfl rfl ?c1 ?c2 ?c3 ?c4 ?c5 ?_)
          case c1 =>
            intro j u hj
            match j, hj with
            | 0, hj => simp at hj; subst hj; simp [Addr.add]
          case c2 => intro u hu; simp at hu; subst hu; rfl
          case c3 => have := HL.out; unfold maxLen; omega
          case c4 => have := HL.out; omega
          case c5 => have := HB.out.size; simp; omega
          intro v' w2 hown' hgrow _
          obtain ⟨a', c', rfl⟩ := owns_sl hown'
          have HB2 : Hid (Below w.heap.size w w2) := hid ((Below.al HB.out _).grown hgrow (by have := HB.out.size; simp; omega) (fun k hk => (HO.out.lt k hk).1))
          have HO2 := hid hown'
          clear hown' hgrow
          go_wp2_with fail
          go_roundg (l.length - (k + 1))
          case measure => omega
          case rel => exact ⟨k + 1, a', n + 1, c', by omega, rfl, by go_num, rfl, hid (by rw [HT.out, HW.out]; simp [HN.out]), hid (by rw [HT.out, HW.out]; simpa [bcs] using HO2.out), HB2⟩
      · obtain rfl : k = l.length := by omega
        have HCV := conv_own HO.out (by rw [List.take_length]; intro b hb; have := wbs_range H8.out b hb; omega) HN.out
        rw [List.take_length] at HCV
        go_wp2_with fail
        go_ret
        have e : wbs l = wordL l := by rw [wordL, if_neg H0.out]
        exact ⟨by rw [← e]; rfl, HB.out⟩
end Go.Proofs.YtfafkohghgliaabDoor.Tu
