import Derived.Test.YtaknkodjganacaaDoorVRead
/- What a prune does to one key. -/
namespace Go.Proofs.YtaknkodjganacaaDoor.Vs
open Go.RowKit Go.Sort
set_option linter.unusedVariables false

theorem flatV_drop (k : ByteArray) : ∀ (vs : List Ver) (n : Nat), flatV k (vs.drop n) = (flatV k vs).drop (n * 6)
  | vs, 0 => by simp
  | [], n + 1 => by simp [flatV]
  | v :: vs, n + 1 => by
    rw [List.drop_succ_cons, flatV_drop k vs n]
    show _ = ([Value.string k, .int .u64 v.s.a, .int .u32 v.s.b, .int .u32 v.s.c, .bool v.del, .string v.val] ++ flatV k vs).drop ((n + 1) * 6)
    rw [List.drop_append]
    have e : (n + 1) * 6 - [Value.string k, .int .u64 v.s.a, .int .u32 v.s.b, .int .u32 v.s.c, .bool v.del, .string v.val].length = n * 6 := by simp; omega
    have h1 : List.drop ((n + 1) * 6) [Value.string k, .int .u64 v.s.a, .int .u32 v.s.b, .int .u32 v.s.c, .bool v.del, .string v.val] = [] := List.drop_of_length_le (by simp only [List.length_cons, List.length_nil]; omega)
    rw [e, h1, List.nil_append]
theorem flatV_one (k : ByteArray) (vs : List Ver) : ∀ u ∈ flatV k vs, u.oneCell' = true := fun u hu => by
  obtain ⟨v, _, hv⟩ := List.mem_flatMap.1 hu
  simp at hv
  rcases hv with rfl | rfl | rfl | rfl | rfl | rfl <;> rfl
theorem Row.news {w : World} {k : ByteArray} {h : Hd} (r : Row w k h) (n : Nat) : ∀ j u, (flatV k (h.vs.drop n))[j]? = some u → w.cell? ((⟨h.g, n * 6, none⟩ : Addr).add j) = some u := fun j u hj => by
  have hadd : (⟨h.g, n * 6, none⟩ : Addr).add j = ⟨h.g, n * 6 + j, none⟩ := by
    unfold Addr.add
    split
    · rename_i h0; rw [h0, Nat.add_zero]
    · rfl
  rw [flatV_drop, List.getElem?_drop] at hj
  have hl := flatV_len k h.vs
  have := (List.getElem?_eq_some_iff.1 hj).1
  rw [hadd, r.own.cellAt _ (by rw [← r.len]; omega)]
  exact hj

theorem chain_nil (a : Addr) (q c : Nat) (w : World) : (binOp .eql 81 (.slice (some a) q c) (.slice none 0 0)).run Tryd.prog w = .ok (.bool false) w := by
  kernel_rfl
set_option maxRecDepth 8000 in
theorem clone_is {w : World} {k : ByteArray} {h : Hd} {n : Nat} (r : Row w k h) (hn : n < h.n) (hb : (h.n + 1) * 64 ≤ 140737488355328) :
    Calls Tryd.prog 64 #[.slice (some ⟨h.g, n * 6, none⟩) (h.n - n) (h.cap - n)] w fun e w' => ∃ hd : Hd, e = .returned (.slice (some ⟨hd.g, 0, none⟩) hd.n hd.cap) ∧ Row w' k hd ∧ hd.vs = h.vs.drop n ∧ w.heap.size ≤ hd.g ∧ Below w.heap.size w w' := by
  obtain ⟨i0, hi, hz0, hz1, hz2⟩ := info_ofV infoVr
  have hba : Below w.heap.size w (w.alloc (.cells #[] 46)) := Below.al (Below.refl _ _) _
  have HO : Hid ((w.alloc (.cells #[] 46)).ownsRow 0 46 6 (.slice (some ⟨w.heap.size, 0, none⟩) 0 0) 0 []) := World.ownsRow_made w #[] 0 (Nat.zero_le _) (Nat.zero_le _) rfl
  have HN := hid ((r.later hba).news n)
  have hlen : (flatV k (h.vs.drop n)).length = (h.n - n) * 6 := by rw [flatV_len, List.length_drop, r.len]
  have HL := hid hlen
  have HD : Hid ((h.vs.drop n).length = h.n - n) := by show _ = _; rw [List.length_drop, r.len]
  have hmax : 0 + (h.n - n) ≤ maxLen := by unfold maxLen; omega
  have hbb : (0 + (h.n - n)) * 56 ≤ 140737488355328 := by omega
  obtain ⟨q, hq⟩ : ∃ q, q = h.n - n := ⟨_, rfl⟩
  have hq0 : 0 < q := by omega
  obtain ⟨c, hc⟩ : ∃ c, c = h.cap - n := ⟨_, rfl⟩
  rw [← hq] at HL HD hmax hbb ⊢
  rw [← hc]
  have HBA := hid hba
  have HM := hid (And.intro hmax hbb)
  have hnil := chain_nil ⟨h.g, n * 6, none⟩ q c w
  clear r hn hb hq hc hlen hmax hbb hba
  go_enter Tryd.func64, Tryd.ntmps64
  go_wp2_with (at_builtin; refine wpList_append_lies _ rfl _ _ 81 rfl 0 46 i0 (vv ⟨#[]⟩ ⟨⟨0, 0, 0⟩, false, ⟨#[]⟩⟩) 6 56 Tryd.underlying81 hi hz0 hz1 hz2 rfl (by decide) (.slice (some ⟨w.heap.size, 0, none⟩) 0 0) 0 [] rfl HO.out ⟨h.g, n * 6, none⟩ q c (flatV k (h.vs.drop n)) rfl HL.out HN.out (flatV_one k _) hq0 HM.out.1 HM.out.2 (Nat.zero_le _) _ rfl ?_; intro g cap' w3 hown hgrow hat hlt3)
  go_ret
  refine ⟨⟨g, q, cap', h.vs.drop n⟩, by simp, ⟨by simpa using hown, HD.out⟩, rfl, ?_, HBA.out.trans ((grown_onl hgrow).below (fun b hb => ?_) (by simp))⟩
  · rcases hat with e | e
    · have : w.heap.size = g := by simpa [Value.ownBlock] using e
      show w.heap.size ≤ g
      omega
    · show w.heap.size ≤ g
      rw [e]; simp
  · have : w.heap.size = b := by simpa [Value.ownBlock] using hb
    omega

theorem without_is' {w : World} {k : ByteArray} {h : Hd} {n : Nat} (r : Row w k h) (hn : n < h.n) (hb : (h.n + 1) * 64 ≤ 140737488355328) :
    Calls Tryd.prog 53 #[.slice (some ⟨h.g, 0, none⟩) h.n h.cap, .int .i64 n] w fun e w' => ∃ hd : Hd, e = .returned (.slice (some ⟨hd.g, 0, none⟩) hd.n hd.cap) ∧ Row w' k hd ∧ hd.vs = h.vs.drop n ∧ w.heap.size ≤ hd.g ∧ Below w.heap.size w w' := by
  have CL := hid (clone_is r hn hb)
  have hcap : h.n ≤ h.cap ∧ h.cap ≤ maxLen := by
    obtain ⟨_, ⟨e, _⟩ | ⟨g, cap, cur, e, _, _, h1, h2, _⟩⟩ := r.own
    · cases e
    · injection e with _ _ e3; rw [e3]; exact ⟨h1, h2⟩
  obtain ⟨g, q, cap, vs⟩ := h
  simp only at CL hn hb hcap ⊢
  have hc1 := hcap.1
  have hc2 : cap ≤ 9223372036854775807 := by have := hcap.2; unfold maxLen at this; omega
  have hne : (cap = n) = False := by simp; omega
  have hne2 : (cap - n = 0) = False := by simp; omega
  clear r hcap
  go_enter Tryd.func53, Tryd.ntmps53
  go_wp2_with (go_at_call 64; refine CL.out.mono ?_; rintro e w1 ⟨hd, rfl, h1, h2, h3, h4⟩)
  go_ret
  exact ⟨hd, rfl, h1, h2, h3, h4⟩
end Go.Proofs.YtaknkodjganacaaDoor.Vs
