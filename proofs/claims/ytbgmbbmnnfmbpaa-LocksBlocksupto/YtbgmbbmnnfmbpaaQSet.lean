import Derived.Test.YtbgmbbmnnfmbpaaQGet
import Derived.Test.YtbgmbbmnnfmbpaaOpenRows
/- Scene.set: a table on which a list was held. -/
namespace Go.Proofs.Ytbgmbbmnnfmbpaa.Lk
open Go.RowKit Go.Sort
set_option linter.unusedVariables false

abbrev RowL (W : World) (a : Option Addr) (L : List Hv) : Prop := RowC Hv.zero hcs 8 W a L
theorem rowL_at {W w : World} {a : Option Addr} {L : List Hv} (h : RowL W a L) (hb : Below W.heap.size W w) {i : Nat} (hi : i < L.length) : ∃ b off, a = some ⟨b, off, none⟩ ∧ ∀ o u, (hcs (nthH L i))[o]? = some u → w.cell? ⟨b, off + i * 8 + o, none⟩ = some u := by
  obtain ⟨b, off, e, hc⟩ := h i hi
  exact ⟨b, off, e, fun o u ho => cell_later hb (hc o u ho)⟩
/-- one Hold behind the other -/
def setM (L : List Hv) : List Hd := L.foldl (fun M v => holdM M v.h) []
theorem nthH_take {L : List Hv} {k : Nat} (h : k < L.length) : L.take (k + 1) = L.take k ++ [nthH L k] := by
  rw [List.take_succ_eq_append_getElem h]; simp [nthH, h]
theorem setM_snoc (L : List Hv) (v : Hv) : setM (L ++ [v]) = holdM (setM L) v.h := by simp [setM, List.foldl_append]
theorem holdM_ge (M : List Hd) (h : Hd) : M.length ≤ (holdM M h).length := by
  unfold holdM
  split
  · omega
  · split <;> simp
theorem setM_le : ∀ (n : Nat) (L : List Hv), L.length = n → (setM L).length ≤ n
  | 0, L, h => by rw [List.eq_nil_of_length_eq_zero h]; simp [setM]
  | n + 1, L, h => by
    have e : L.take n ++ [nthH L n] = L := by rw [← nthH_take (by omega), ← h, List.take_length]
    have h1 := setM_le n (L.take n) (by simp; omega)
    have h2 := holdM_len (setM (L.take n)) (nthH L n).h
    rw [← setM_snoc, e] at h2
    omega
theorem setM_pos : ∀ (n : Nat) (L : List Hv), L.length = n + 1 → 0 < (setM L).length
  | 0, L, h => by
    match L, h with
    | [v], _ => simp [setM, holdM, confl]
  | n + 1, L, h => by
    have e : L.take (n + 1) ++ [nthH L (n + 1)] = L := by rw [← nthH_take (by omega), ← h, List.take_length]
    have h1 := setM_pos n (L.take (n + 1)) (by simp; omega)
    have h2 := holdM_ge (setM (L.take (n + 1))) (nthH L (n + 1)).h
    rw [← setM_snoc, e] at h2
    omega

/-- a scene's cells -/
abbrev scs (a : Option Addr) (c : Nat) (L : List Hv) (v : Hv) (s : T2) (tw tl tn : Int) : List Value := [.slice a L.length c, .int .u32 v.h.id.1, .int .u32 v.h.id.2, .int .u32 v.h.home, .int .u64 v.h.w, .int .u32 v.h.l, .int .u32 v.h.n, .slice v.ra v.h.rs.length v.rc, .slice v.wa v.h.ws.length v.wc, .string s.1, .string s.2, .int .u64 tw, .int .u32 tl, .int .u32 tn]
set_option maxRecDepth 8000 in
set_option maxHeartbeats 2000000 in
theorem set_is {W : World} {a : Option Addr} {c : Nat} {L : List Hv} {v : Hv} {s : T2} {tw tl tn : Int} (h : RowL W a L) (hok : ∀ x ∈ L, x.ok W) (hl : L.length ≤ 1759218604441) :
    Calls Try.prog 13 #[.agg #[.slice a L.length c, .int .u32 v.h.id.1, .int .u32 v.h.id.2, .int .u32 v.h.home, .int .u64 v.h.w, .int .u32 v.h.l, .int .u32 v.h.n, .slice v.ra v.h.rs.length v.rc, .slice v.wa v.h.ws.length v.wc, .string s.1, .string s.2, .int .u64 tw, .int .u32 tl, .int .u32 tn]] W fun e w' => ∃ p m1 m2 V I, e = .returned (.pointer (some ⟨p, 0, none⟩)) ∧ Hid (Tb w' p m1 m2 V I ∧ V.map Hv.h = setM L ∧ (∀ b, Its p m1 m2 b → W.heap.size ≤ b) ∧ Below W.heap.size W w') := by
  obtain ⟨wx, hwx⟩ : ∃ wx, wx = W.alloc (.cells #[.slice a L.length c, .int .u32 v.h.id.1, .int .u32 v.h.id.2, .int .u32 v.h.home, .int .u64 v.h.w, .int .u32 v.h.l, .int .u32 v.h.n, .slice v.ra v.h.rs.length v.rc, .slice v.wa v.h.ws.length v.wc, .string s.1, .string s.2, .int .u64 tw, .int .u32 tl, .int .u32 tn] 44) := ⟨_, rfl⟩
  have HBX : Hid (Below W.heap.size W wx) := by rw [hwx]; exact Below.al (Below.refl _ _) _
  have hsx : wx.heap.size = W.heap.size + 1 := by rw [hwx]; simp
  have hx0 : wx.cell? ⟨W.heap.size, 0, none⟩ = some (.slice a L.length c) := by rw [hwx]; simp [go_sem]
  have HX0 := hid hx0
  obtain ⟨p, hp⟩ : ∃ p, p = wx.heap.size := ⟨_, rfl⟩
  have NE : Hid (Calls Try.prog 24 #[] wx fun e w' => e = .returned (.pointer (some ⟨p, 0, none⟩)) ∧ Hid (Tb w' p none none [] []) ∧ Hid (Below wx.heap.size wx w')) := by rw [hp]; exact new_is wx
  have HP : Hid (p = W.heap.size + 1) := by show _ = _; omega
  have HSX := hid hsx
  have HR := hid h
  have HOK := hid hok
  clear h hok hp hx0 hsx
  go_enter Try.func13, Try.ntmps13
  go_wp2_with fail
  rw [← hwx]
  clear hwx
  refine NE.out.mono ?_
  rintro e w1 ⟨rfl, HT1, HB1⟩
  clear NE
  go_wp2_with fail
  go_loopg [4] L.length (fun g s4 wr => ∃ i : Nat, i ≤ L.length ∧ g = L.length - i ∧ s4 = .int .i64 i ∧ ∃ m1 m2 V I, Hid (Tb wr p m1 m2 V I ∧ V.map Hv.h = setM (L.take i) ∧ (∀ b, Its p m1 m2 b → W.heap.size + 1 ≤ b) ∧ Below (W.heap.size + 1) wx wr))
  case atStart =>
    refine ⟨0, by omega, by omega, rfl, _, _, _, _, ⟨HT1.out, by simp [setM], fun b hb => ?_, by have := HB1.out; rwa [HSX.out] at this⟩⟩
    rcases hb with rfl | hb | hb
    · have := HP.out; omega
    · cases hb
    · cases hb
  case round =>
    clear HT1 HB1
    obtain ⟨i, hi, rfl, rfl, m1, m2, V, I, HI⟩ := hrel
    have hBx : Below wx.heap.size wx wr := by have := HI.out.2.2.2; rwa [← HSX.out] at this
    have x0 := cell_later hBx HX0.out
    have hBW : Below W.heap.size W wr := Below.on HBX.out hBx
    by_cases hlt : i < L.length
    · obtain ⟨b, off, ea, hc⟩ := rowL_at HR.out hBW hlt
      subst ea
      have hxo := (HOK.out _ (nthH_mem hlt)).later hBW
      have HTK : Hid (setM (L.take (i + 1)) = holdM (setM (L.take i)) (nthH L i).h) := by show _ = _; rw [nthH_take hlt, setM_snoc]
      obtain ⟨x, hx⟩ : ∃ x, x = nthH L i := ⟨_, rfl⟩
      rw [← hx] at hc hxo HTK
      have k0 : wr.cell? ⟨b, off + i * 8, none⟩ = some (.int .u32 x.h.id.1) := hc 0 _ rfl
      have k1 := hc 1 _ rfl
      have k2 := hc 2 _ rfl
      have k3 := hc 3 _ rfl
      have k4 := hc 4 _ rfl
      have k5 := hc 5 _ rfl
      have k6 := hc 6 _ rfl
      have k7 := hc 7 _ rfl
      have hi1 : (i : Int) < (L.length : Int) := by omega
      have CP := hid (copiedT_is hxo)
      have HBX2 := hid hBx
      have HBW := hid hBW
      clear hx hc hxo hBx hBW
      go_wp2_with fail
      refine CP.out.mono ?_
      rintro e w3 ⟨g1, g2, rfl, HVR, HB3⟩
      have T3 := HI.out.1.later HB3.out
      have HO := hid (hold_is T3 HVR.out)
      simp only [Hv.val, Hv.roomy] at HO
      clear CP
      go_wp2_with fail
      refine HO.out.mono ?_
      rintro e w4 ⟨rfl, m1', m2', V', I', T4, hV4, hO4, hnew⟩
      have HE : Hid (Tb w4 p m1' m2' V' I' ∧ V'.map Hv.h = setM (L.take (i + 1)) ∧ (∀ b, Its p m1' m2' b → W.heap.size + 1 ≤ b) ∧ Below (W.heap.size + 1) wx w4) := by
        have h1 : Below wx.heap.size wx w3 := Below.on HBX2.out HB3.out
        refine ⟨T4, by rw [hV4, HTK.out, HI.out.2.1], fun b hb => ?_, ?_⟩
        · rcases hnew b hb with h | h
          · exact HI.out.2.2.1 b h
          · have := h1.size; have := HSX.out; omega
        · rw [← HSX.out]
          exact h1.trans (hO4.below (B := wx.heap.size) (fun k hk => by have := HI.out.2.2.1 k hk; have := HSX.out; omega) h1.size)
      clear HO T4 hV4 hO4 hnew T3
      go_wp2_with fail
      go_roundg (L.length - (i + 1))
      case measure => omega
      case rel => exact ⟨i + 1, by omega, rfl, by go_num, _, _, _, _, HE⟩
    · obtain rfl : i = L.length := by omega
      have HE : Hid (Tb wr p m1 m2 V I ∧ V.map Hv.h = setM L ∧ (∀ b, Its p m1 m2 b → W.heap.size ≤ b) ∧ Below W.heap.size W wr) := by
        refine ⟨HI.out.1, ?_, fun b hb => by have := HI.out.2.2.1 b hb; omega, hBW⟩
        have := HI.out.2.1
        rwa [List.take_length] at this
      clear hBW hBx
      go_wp2_with fail
      go_ret
      exact ⟨p, m1, m2, V, I, rfl, HE⟩
end Go.Proofs.Ytbgmbbmnnfmbpaa.Lk
