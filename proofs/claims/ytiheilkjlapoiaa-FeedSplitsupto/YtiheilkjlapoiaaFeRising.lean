import Derived.Test.YtiheilkjlapoiaaFeKeys
import Derived.Deep.RegionLaw
/- audit.rising. -/
namespace Go.Proofs.Ytiheilkjlapoiaa.Lg
open Go.RowKit Go.Sort Go.Shelf Go.Lib Lk
set_option linter.unusedVariables false

def getW (M : List (ByteArray × Wr)) (k : List UInt8) : Wr := ((M.find? fun p => decide (kb p = k)).map (·.2)).getD Wr.zero
/-- the writes, by key -/
def srtW (M : List (ByteArray × Wr)) : List Wr := ((M.map kb).mergeSort leL).map (getW M)
theorem srt_perm {ss ks : List (List UInt8)} (h : ss.Perm ks) : ss.mergeSort leL = ks.mergeSort leL := by
  have tr : ∀ a b c : List UInt8, leL a b = true → leL b c = true → leL a c = true := fun a b c h1 h2 => by
    simp only [decide_eq_true_eq] at *
    exact List.le_trans h1 h2
  have tt : ∀ a b : List UInt8, (leL a b || leL b a) = true := fun a b => by
    simp only [Bool.or_eq_true, decide_eq_true_eq]
    exact List.le_total a b
  refine List.Perm.eq_of_pairwise (le := fun a b => leL a b = true) (fun a b _ _ h1 h2 => ?_) (List.pairwise_mergeSort tr tt ss) (List.pairwise_mergeSort tr tt ks) (((List.mergeSort_perm ss leL).trans h).trans (List.mergeSort_perm ks leL).symm)
  simp only [decide_eq_true_eq] at h1 h2
  exact List.le_antisymm h1 h2
theorem getW_mem {M : List (ByteArray × Wr)} (hn : (M.map (·.1)).Nodup) {k : ByteArray} {x : Wr} (h : (k, x) ∈ M) : getW M k.data.toList = x := by
  have hf : ∃ p, M.find? (fun p => decide (kb p = k.data.toList)) = some p := by
    cases hq : M.find? (fun p => decide (kb p = k.data.toList)) with
    | some p => exact ⟨p, rfl⟩
    | none =>
      rw [List.find?_eq_none] at hq
      exact absurd (hq _ h) (by simp)
  obtain ⟨p, hp⟩ := hf
  have h1 := List.mem_of_find?_eq_some hp
  have h2 := List.find?_some hp
  simp only [decide_eq_true_eq] at h2
  have e : p.1 = k := by
    obtain ⟨⟨⟨pl⟩⟩, q⟩ := p
    obtain ⟨⟨kl⟩⟩ := k
    simp [kb] at h2
    rw [h2]
  have := nodup_inj hn h1 h e
  rw [getW, hp, this]; rfl
theorem infoWr : (Try.prog.info? 64).map (fun i => (i.zero, i.size, i.bytes)) = some (some (wv Wr.zero), 3, 40) := by kernel_rfl
theorem zero_wr (W : World) : (zeroValue 64).run Try.prog W = .ok (wv Wr.zero) W := by kernel_rfl

set_option maxHeartbeats 2000000 in
set_option maxRecDepth 100000 in
theorem rising_is {m : Option Nat} {M : List (ByteArray × Wr)} {w : World} (hM : MapO Value.string wv w m M) (hlen : M.length ≤ 1152921504606) :
    Calls Try.prog 19 #[.map m] w fun e w' => ∃ (a : Option Addr) (n c : Nat), e = .returned (.slice a n c) ∧ Hid ((srtW M).length = n) ∧ Hid (w'.ownsRow w.heap.size 64 3 (.slice a n c) n ((srtW M).flatMap wcs)) ∧ Hid (Below w.heap.size w w') := by
  have KW := hid (fun W => keysW_is m W)
  have HM := hid hM
  have HN := hid (hM.nodup keysS)
  have SO := hid (fun (W : World) (Bm : Nat) (h : W.cell? ⟨Bm, 0, none⟩ = some (.map m)) (hm : MapO Value.string wv W m M) => sortedW_is h hm hlen)
  clear hM
  go_enter Try.func19, Try.ntmps19
  go_wp2_with fail
  refine (KW.out _).mono ?_
  rintro e w1 ⟨rfl, rfl⟩
  have hb0 : Below w.heap.size w (w.alloc (.cells #[.map m] 77)) := Below.al (Below.refl _ _) _
  have SO1 := hid (SO.out _ _ (cell_of_obj (World.alloc_heap_new w (.cells #[.map m] 77)) rfl) (HM.out.later hb0))
  have HS0 : Hid (w.heap.size ≤ (w.alloc (.cells #[.map m] 77)).heap.size) := hid hb0.size
  have HB0 := hid hb0
  obtain ⟨wa, hwa⟩ : ∃ wa, wa = w.alloc (.cells #[.map m] 77) := ⟨_, rfl⟩
  rw [← hwa] at SO1 HS0 HB0 ⊢
  clear hb0 SO KW hwa
  go_wp2_with fail
  refine SO1.out.mono ?_
  rintro e w1 ⟨v, ss, rfl, hp, hrow, hb⟩
  rw [srt_perm hp] at hrow
  obtain ⟨a, c, rfl⟩ := owns_slice hrow
  obtain ⟨ks, hks⟩ : ∃ ks, ks = (M.map kb).mergeSort leL := ⟨_, rfl⟩
  rw [← hks] at hrow
  obtain ⟨n, hn⟩ : ∃ n, n = ss.length := ⟨_, rfl⟩
  rw [← hn] at hrow ⊢
  have hkl : ks.length = n := by rw [hks, List.length_mergeSort, hn]; exact hp.length_eq.symm
  have hnl : n ≤ 1152921504606 := by rw [hn, hp.length_eq]; simpa using hlen
  have HB1 : Hid (Below w.heap.size w w1) := hid (HB0.out.trans (hb.mono HS0.out))
  have HR := hid hrow
  have HK := hid hks
  have HP := hid hp
  clear hp hrow hb hks hn SO1
  obtain ⟨i0, hi0, hz0, hz1, hz2⟩ := info_of infoWr
  go_wp2_with fail
  go_loopg [3, 10] n (fun g s3 s10 wr => ∃ (i : Nat) (la : Option Addr) (lc : Nat), i ≤ n ∧ g = n - i ∧ s10 = .int .i64 i ∧ s3 = .slice la i lc ∧ Hid (wr.ownsRow w1.heap.size 64 3 (.slice la i lc) i (((ks.take i).map (getW M)).flatMap wcs)) ∧ Hid (Below w1.heap.size w1 wr))
  case atStart => exact ⟨0, none, 0, by omega, by omega, rfl, rfl, hid (by simpa using World.ownsRow_nil _ _ _ _), hid (Below.refl _ _)⟩
  case round =>
    obtain ⟨i, la, lc, hi, rfl, rfl, rfl, HO, HB⟩ := hrel
    by_cases hlt : i < n
    · obtain ⟨k, hk⟩ : ∃ k, ks[i]? = some k := ⟨ks[i], List.getElem?_eq_getElem (by omega)⟩
      obtain ⟨g, ea, hg, hcs⟩ := own_cells HR.out (by omega)
      have x0 : wr.cell? ⟨g, i, none⟩ = some (.string ⟨k.toArray⟩) := cell_later HB.out (hcs i _ (by rw [List.getElem?_map, hk]; rfl))
      subst ea
      have hmem : (⟨k.toArray⟩ : ByteArray) ∈ M.map (·.1) := by
        have h1 : k ∈ ks := List.mem_of_getElem? hk
        rw [HK.out, List.mem_mergeSort, List.mem_map] at h1
        obtain ⟨p, hp, e⟩ := h1
        refine List.mem_map.2 ⟨p, hp, ?_⟩
        rw [← e]
      have hMr : MapO Value.string wv wr m M := HM.out.later (Below.on HB1.out HB.out)
      have hlk : ∃ x, getW M k = x ∧ (Instr.lookup 77 (.map m) (.string ⟨k.toArray⟩) false).run Try.prog wr = .ok (wv x) wr := by
        rcases hMr.look keysS Try.underlying77 (zero_wr wr) (⟨k.toArray⟩ : ByteArray) with ⟨h1, _⟩ | ⟨x, h1, h2⟩
        · exact absurd hmem h1
        · exact ⟨x, by simpa using getW_mem HN.out h1, h2 false⟩
      obtain ⟨x, hx, hlook⟩ := hlk
      obtain ⟨cur, hcur⟩ : ∃ cur, cur = ((ks.take i).map (getW M)).flatMap wcs := ⟨_, rfl⟩
      have hown := HO.out
      rw [← hcur] at hown
      have HT : Hid (((ks.take (i + 1)).map (getW M)).flatMap wcs = cur ++ wcs x) := by
        show _ = _
        rw [List.take_add_one, hk, hcur]; simp [hx]
      have hnew : ∀ j u, (wcs x)[j]? = some u → (wr.alloc (.cells #[.string x.key, .bool x.del, .string x.val] 64)).cell? ((⟨wr.heap.size, 0, none⟩ : Addr).add j) = some u := fun j u hj => by
        rw [Addr.add_lit, Nat.zero_add]
        exact cell_of_obj (MapKept.heap_alloc _ _).1 (by simpa using hj)
      clear hcs hk hmem hMr hx HO hcur
      go_wp2_with (at_builtin; refine wpList_append_own _ rfl _ _ 61 rfl w1.heap.size 64 i0 (wv Wr.zero) 3 40 Try.underlying61 hi0 hz0 hz1 hz2 rfl (by decide) _ _ _ rfl (hown.alloc _) ⟨wr.heap.size, 0, none⟩ 1 1 (wcs x) rfl rfl hnew (wcs_one x) (by unfold maxLen; omega) (by omega) (by have := HB.out.size; simp; omega) ?_)
      · intro v' w2 hown' hgrow _
        rw [← HT.out] at hown'
        have hb1 : Below w1.heap.size w1 w2 := Below.grown (Below.al HB.out _) hgrow (by have := HB.out.size; simp; omega) (fun g hg => by
          obtain ⟨_, ⟨e, _⟩ | ⟨g', cap, cur, e, hg', _⟩⟩ := hown
          · rw [e] at hg; simp [Value.ownBlock] at hg
          · rw [e] at hg; simp [Value.ownBlock] at hg; omega)
        obtain ⟨la', lc', rfl⟩ := owns_slice hown'
        have HO' := hid hown'
        have HB' := hid hb1
        clear hgrow hown HT x0 hlook hown' hb1 hnew
        go_wp2_with fail
        go_roundg (n - (i + 1))
        case measure => omega
        case rel => exact ⟨i + 1, la', lc', by omega, rfl, by go_num, rfl, HO', HB'⟩
    · obtain rfl : i = n := by omega
      go_wp2_with fail
      go_ret
      have e : srtW M = (ks.take i).map (getW M) := by rw [List.take_of_length_le (by omega), srtW, HK.out]
      exact ⟨la, i, lc, rfl, hid (by rw [e, List.length_map, List.length_take]; omega), hid (by rw [e]; exact owns_base HO.out HB1.out.size), hid (Below.on HB1.out HB.out)⟩
end Go.Proofs.Ytiheilkjlapoiaa.Lg
