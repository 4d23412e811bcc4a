import Derived.Test.YtpnbgdbkiokooaaFkTal
/- add and balanced. -/
namespace Go.Proofs.Ytpnbgdbkiokooaa.Fl
open Go.RowKit Go.Sort Go.Proofs.Ytpnbgdbkiokooaa
set_option linter.unusedVariables false

def nthN (T : Tl) (k : Nat) : Int := (T[k]?.getD (mt, 0)).2
theorem nthN_get {T : Tl} {k : Nat} (h : k < T.length) : (nu T)[k]? = some (.int .i64 (nthN T k)) := by
  rw [nu, List.getElem?_map, nthN, List.getElem?_eq_getElem h]; rfl
theorem nthN_mem {T : Tl} {k : Nat} (h : k < T.length) : ∃ e ∈ T, e.2 = nthN T k := ⟨T[k], List.getElem_mem h, by rw [nthN, List.getElem?_eq_getElem h]; rfl⟩
theorem Ta.num {w : World} {B q g c : Nat} {vt : Value} {T : Tl} (h : Ta w B q vt (.slice (some ⟨g, 0, none⟩) T.length c) T) {k : Nat} (hk : k < T.length) : w.cell? ⟨g, k, none⟩ = some (.int .i64 (nthN T k)) := by
  rw [World.ownsRow.cellAt h.nm k (by omega)]
  exact nthN_get hk
set_option maxHeartbeats 4000000 in
theorem add_is {w : World} {B q : Nat} {vt vn : Value} {T : Tl} (h : Ta w B q vt vn T) (m : ByteArray) (b : Int) (hb : -1 ≤ b ∧ b ≤ 1) (hn : ∀ e ∈ T, -4611686018427387904 ≤ e.2 ∧ e.2 ≤ 4611686018427387904) (hl : (T.length + 1) * 64 ≤ 140737488355328) (hB : B ≤ w.heap.size) :
    Calls Try.prog 6 #[pt q, .string m, .int .i64 b] w fun e w' => e = .returned (.tuple #[]) ∧ Hid (∃ vt' vn', Mt w w' B q vt vn vt' vn' (addT T m b)) := by
  have HT := hid h
  have HL := hid hl
  have HN := hid hn
  have HB := hid hB
  obtain ⟨at', ct, hvt, hct, hcm⟩ := h.tx.slice
  obtain ⟨an, cn, hvn⟩ := owns_slice h.nm
  have hkl : (ky T).length = T.length := by simp [ky]
  rw [hkl] at hvt hct
  have x0 : w.cell? ⟨q, 0, none⟩ = some vt := cell_obj h.blk rfl
  have x1 : w.cell? ⟨q, 1, none⟩ = some vn := cell_obj h.blk rfl
  obtain ⟨n, hnn⟩ : ∃ n, n = T.length := ⟨_, rfl⟩
  have HNN := hid hnn
  rw [← hnn] at hvt hvn hct
  subst hvt
  subst hvn
  unfold maxLen at hcm
  have hn63 : n ≤ 9223372036854775807 := by omega
  clear h hl hn hB hkl hnn
  go_enter Try.func6, Try.ntmps6
  go_wp2_with fail
  go_loopg [6] n (fun g s6 wr => ∃ k : Nat, k ≤ n ∧ g = n - k ∧ s6 = .int .i64 k ∧ Hid (∀ j, j < k → nthT (ky T) j ≠ m) ∧ wr = w)
  case atStart => exact ⟨0, by omega, by omega, rfl, fun j hj => by omega, rfl⟩
  case round =>
    obtain ⟨k, hk, rfl, rfl, HJ, rfl⟩ := hrel
    by_cases hlt : k < n
    · have hlt' : k < T.length := by rw [← HNN.out]; exact hlt
      have hlk : k < (ky T).length := by simpa [ky] using hlt'
      rcases HT.out.tx with ⟨_, e0⟩ | ⟨g, off, c, e, _, hr⟩
      · rw [e0] at hlk; simp at hlk
      injection e with e1 e2 e3
      subst e1
      subst e3
      have y0 := hr.at_ k _ (nthT_get hlk)
      by_cases hm : nthT (ky T) k = m
      · rcases HT.out.nm.2 with ⟨hv, _⟩ | ⟨gn, capn, cur, hv, _, hgn, hle, _, hcs, _⟩
        · injection hv with hv _ _
          omega
        injection hv with hv1 hv2 hv3
        subst hv1
        subst hv3
        have HT' := HT.out
        rw [HNN.out] at HT'
        have z0 := HT'.num hlt'
        have z1 : wr.frozen? ⟨gn, k, none⟩ = false := by simp [World.frozen?, hgn]
        have hx := HN.out
        obtain ⟨e, he, hee⟩ := nthN_mem hlt'
        have hxb := hx e he
        rw [hee] at hxb
        have hput := HT'.put k hlt' m (nthN T k + b) hm
        rw [← HNN.out] at hput
        have ha := add_at T m b k HJ.out hlt' hm
        have ha : addT T m b = T.set k (m, nthN T k + b) := ha
        rw [← ha] at hput
        have HP := hid hput
        generalize nthN T k = x at z0 HP hxb
        have hle2 : n ≤ cn := by rw [HNN.out]; exact hle
        have q1 := beqF (decide_eq_true hm)
        have k3 : IntKind.i64.wrap (x + b) = x + b := by rw [IntKind.wrap_i64]; omega
        clear hput ha hx hee he hm hr HT' hgn hcs hle hlk e2 hv2
        generalize nthT (ky T) k = t at q1 y0
        go_wp2_with fail
        refine bodyPost_ret (v := .tuple #[]) (by simp [results, Try.results6, go_sem]) rfl ?_
        exact ⟨rfl, _, _, HP.out⟩
      · have q1 := beqF (decide_eq_false hm)
        have HJ2 : Hid (∀ j, j < k + 1 → nthT (ky T) j ≠ m) := fun j hj => by
          by_cases e : j = k
          · rw [e]; exact hm
          · exact HJ.out j (by omega)
        clear hm hr hlk e2
        generalize nthT (ky T) k = t at q1 y0
        go_wp2_with fail
        go_roundg (n - (k + 1))
        case measure => omega
        case rel => exact ⟨k + 1, by omega, rfl, by go_num, HJ2.out, rfl⟩
    · obtain rfl : n = k := by omega
      have hnew := add_new T m b (fun j hj => HJ.out j (by rw [HNN.out]; exact hj))
      obtain ⟨a1, n1, c1, w1, a2, n2, c2, w3, r1, y1, y2, y3, r2, y4, y5, HM⟩ := HT.out.grow m b HL.out HB.out
      rw [← hnew] at HM
      have R1 := hid r1
      have R2 := hid r2
      clear hlt hk r1 r2 hnew HJ
      go_wp2_with (at_builtin; first | refine Lib.wpList_append_run _ rfl _ _ _ _ rfl _ _ rfl rfl _ _ R1.out ?_ | refine Lib.wpList_append_run _ rfl _ _ _ _ rfl _ _ rfl rfl _ _ R2.out ?_)
      go_end0
      exact ⟨rfl, _, _, HM.out⟩
end Go.Proofs.Ytpnbgdbkiokooaa.Fl
