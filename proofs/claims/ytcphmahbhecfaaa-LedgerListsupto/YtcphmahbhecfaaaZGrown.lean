import Derived.Test.YtcphmahbhecfaaaZGrow
/- kept, mark, grown (written by mk_zent.py). -/
namespace Go.Proofs.Ytcphmahbhecfaaa.Lg
open Go.RowKit Go.Sort Go.Shelf Go.Lib Lk
set_option linter.unusedVariables false

theorem OwnE.grown {w w' : World} {B : Nat} {v : Value} {T : List En} {a : World} (h : OwnE w B v T) (hg : w.grownBy w' v.ownBlock) (ha : Below B a w) (hB : B ≤ a.heap.size) : Below B a w' :=
  grown_below hg ha hB fun k hk => (World.ownsRow.lt h k hk).1

set_option maxHeartbeats 4000000 in
theorem kept_is {w : World} {ka : Option Addr} {n kc : Nat} {T : List En} (h : RowC En.zero ecs 7 w ka T) (hn : T.length = n) (hl : n ≤ 2000000) :
    Calls Try.prog 16 #[.slice ka n kc] w fun e w' => ∃ v, e = .returned v ∧ OwnE w' w.heap.size v T ∧ Below w.heap.size w w' := by
  have HR := hid h
  have HN := hid hn
  clear h hn
  go_enter Try.func16, Try.ntmps16
  go_wp2_with fail
  go_loopg [3, 7] n (fun g s3 s7 wr => ∃ k : Nat, k ≤ n ∧ g = n - k ∧ s7 = .int .i64 k ∧ Hid (OwnE wr w.heap.size s3 (T.take k)) ∧ Hid (Below w.heap.size w wr))
  case atStart => exact ⟨0, by omega, by omega, rfl, World.ownsRow_nil _ _ _ _, Below.refl _ _⟩
  case round =>
    obtain ⟨k, hk, rfl, rfl, HO, HB⟩ := hrel
    obtain ⟨v5, hv5⟩ : ∃ v5, v5 = u3 := ⟨_, rfl⟩
    rw [← hv5] at HO ⊢
    clear hv5
    by_cases hlt : k < n
    · obtain ⟨b, off, eb, hc⟩ := RowC.later HR.out HB.out k (by rw [HN.out]; exact hlt)
      have hk1 : (k : Int) < (n : Int) := by omega
      obtain ⟨x, hx⟩ : ∃ x, x = nthE T k := ⟨_, rfl⟩
      have hx' : (T[k]?).getD En.zero = x := hx.symm
      rw [hx'] at hc
      subst eb
      have HT : Hid (T.take (k + 1) = T.take k ++ [x]) := by rw [hx]; exact nthE_take (by rw [HN.out]; exact hlt)
      have g0 : wr.cell? ⟨b, off + k * 7, none⟩ = some (.int .u32 x.id.1) := hc 0 _ rfl
      have g1 : wr.cell? ⟨b, off + k * 7 + 1, none⟩ = some (.int .u32 x.id.2) := hc 1 _ rfl
      have g2 : wr.cell? ⟨b, off + k * 7 + 2, none⟩ = some (.int .u32 x.home) := hc 2 _ rfl
      have g3 : wr.cell? ⟨b, off + k * 7 + 3, none⟩ = some (.int .i64 x.oc) := hc 3 _ rfl
      have g4 : wr.cell? ⟨b, off + k * 7 + 4, none⟩ = some (.int .u64 x.w) := hc 4 _ rfl
      have g5 : wr.cell? ⟨b, off + k * 7 + 5, none⟩ = some (.int .u32 x.l) := hc 5 _ rfl
      have g6 : wr.cell? ⟨b, off + k * 7 + 6, none⟩ = some (.int .u32 x.n) := hc 6 _ rfl
      have HL1 : Hid (((T.take k).length + 1) * 64 ≤ 140737488355328) := by show _ ≤ _; rw [List.length_take]; omega
      clear hc hx hx'
      go_wp2_with (at_builtin; refine append_E rfl _ _ rfl x rfl (HO.out.later (Below.al (Below.refl _ _) _)) rfl (newsE _ _) HL1.out (by have := HB.out.size; simp; omega) ?_; intro v6 w6 ho6 hg6 _ _; have ho6 := hid ho6; have hb6 := hid (OwnE.grown (HO.out.later (Below.al (Below.refl _ _) (.cells #[.int .u32 x.id.1, .int .u32 x.id.2, .int .u32 x.home, .int .i64 x.oc, .int .u64 x.w, .int .u32 x.l, .int .u32 x.n] 36))) hg6 (Below.al HB.out _) (Nat.le_refl _)); clear hg6)
      go_roundg (n - (k + 1))
      case measure => omega
      case rel => exact ⟨k + 1, by omega, rfl, by go_num, by rw [HT.out]; exact ho6.out, hb6⟩
    · obtain rfl : k = n := by omega
      have HO2 : Hid (OwnE wr w.heap.size v5 T) := by have := HO.out; rw [List.take_of_length_le (Nat.le_of_eq HN.out)] at this; exact this
      clear hlt HO
      go_wp2_with fail
      go_ret
      exact ⟨_, rfl, HO2.out, HB.out⟩
theorem kept_at {w : World} {B n kc : Nat} {ka : Option Addr} {T : List En} (hn : T.length = n) (h : OwnE w B (.slice ka n kc) T) (hl : n ≤ 2000000) :
    Calls Try.prog 16 #[.slice ka n kc] w fun e w' => ∃ a5 c5, e = .returned (.slice a5 n c5) ∧ Hid (OwnE w' w.heap.size (.slice a5 n c5) T) ∧ Below w.heap.size w w' := by
  subst hn
  refine (kept_is (own_row h rfl) rfl hl).mono ?_
  rintro e w' ⟨v, rfl, ho, hb⟩
  obtain ⟨a5, c5, rfl, _⟩ := ho.slice
  exact ⟨a5, c5, rfl, ho, hb⟩
theorem mark_is (a b : Int) (w : World) : Calls Try.prog 24 #[.int .i64 a, .int .i64 b] w fun e w' => ∃ x : En, e = .returned (.agg #[.int .u32 x.id.1, .int .u32 x.id.2, .int .u32 x.home, .int .i64 x.oc, .int .u64 x.w, .int .u32 x.l, .int .u32 x.n]) ∧ Below w.heap.size w w' := by
  go_enter Try.func24, Try.ntmps24
  go_wp2_with fail
  refine bodyPost_ret (v := .agg #[.int .u32 (a % 4294967296), .int .u32 (b % 4294967296), .int .u32 0, .int .i64 77, .int .u64 0, .int .u32 0, .int .u32 0]) (by simp [results, Try.results24, go_sem]) rfl ?_
  exact ⟨⟨(a % 4294967296, b % 4294967296), 0, 77, 0, 0, 0⟩, rfl, by (repeat (first | exact Below.refl _ _ | assumption | refine Below.drew ?_ | refine Below.al ?_ _ | refine Below.setCell ?_ (by first | exact Nat.le_refl _ | (simp; omega) | (simp; done)) _ | refine Below.on ?_ (by assumption)))⟩
set_option maxHeartbeats 4000000 in
theorem grown_is {w : World} {B : Nat} {v : Value} {T : List En} (h : OwnE w B v T) (x : En) (hl : T.length ≤ 2000000) (hB : B ≤ w.heap.size) :
    Calls Try.prog 25 #[v, .agg #[.int .u32 x.id.1, .int .u32 x.id.2, .int .u32 x.home, .int .i64 x.oc, .int .u64 x.w, .int .u32 x.l, .int .u32 x.n]] w fun e w' => ∃ v', e = .returned v' ∧ Longer w w' B v v' T (List.replicate 70 x) := by
  obtain ⟨w0, hw0⟩ : ∃ w0, w0 = w.alloc (.cells #[.int .u32 x.id.1, .int .u32 x.id.2, .int .u32 x.home, .int .i64 x.oc, .int .u64 x.w, .int .u32 x.l, .int .u32 x.n] 36) := ⟨_, rfl⟩
  have hb0 : Below w.heap.size w w0 := by rw [hw0]; exact Below.al (Below.refl _ _) _
  have hs0 : w.heap.size < w0.heap.size := by rw [hw0]; simp
  have hk0 : w0.heap[w.heap.size]? = some (.cells #[.int .u32 x.id.1, .int .u32 x.id.2, .int .u32 x.home, .int .i64 x.oc, .int .u64 x.w, .int .u32 x.l, .int .u32 x.n] 36) := by rw [hw0]; exact (MapKept.heap_alloc _ _).1
  have HX : Hid (∀ wr : World, w0.grownBy wr v.ownBlock → wr.heap[w.heap.size]? = some (.cells #[.int .u32 x.id.1, .int .u32 x.id.2, .int .u32 x.home, .int .i64 x.oc, .int .u64 x.w, .int .u32 x.l, .int .u32 x.n] 36)) := fun wr hg => (hg.block _ hs0 (fun e => by have := (World.ownsRow.lt h _ e.symm).2; omega)).trans hk0
  have HR : Hid (Longer w0 w0 B v v T []) := Longer.start (h.later hb0)
  have HB0 := hid hb0
  clear h hb0 hk0
  go_enter Try.func25, Try.ntmps25
  go_wp2_with fail
  rw [← hw0]
  clear hw0
  go_loopg [0, 5] 70 (fun g s0 s5 wr => ∃ k : Nat, k ≤ 70 ∧ g = 70 - k ∧ s5 = .int .i64 k ∧ Hid (Longer w0 wr B v s0 T (List.replicate k x)))
  case atStart => exact ⟨0, by omega, by omega, rfl, HR⟩
  case round =>
    obtain ⟨k, hk, rfl, rfl, HO⟩ := hrel
    obtain ⟨v5, hv5⟩ : ∃ v5, v5 = u0 := ⟨_, rfl⟩
    rw [← hv5] at HO ⊢
    clear hv5
    by_cases hlt : k < 70
    · have hc : ∀ o u, (ecs x)[o]? = some u → wr.cell? ⟨w.heap.size, o, none⟩ = some u := box_cells (HX.out wr HO.out.gr)
      have g0 : wr.cell? ⟨w.heap.size, 0, none⟩ = some (.int .u32 x.id.1) := hc 0 _ rfl
      have g1 : wr.cell? ⟨w.heap.size, 1, none⟩ = some (.int .u32 x.id.2) := hc 1 _ rfl
      have g2 : wr.cell? ⟨w.heap.size, 2, none⟩ = some (.int .u32 x.home) := hc 2 _ rfl
      have g3 : wr.cell? ⟨w.heap.size, 3, none⟩ = some (.int .i64 x.oc) := hc 3 _ rfl
      have g4 : wr.cell? ⟨w.heap.size, 4, none⟩ = some (.int .u64 x.w) := hc 4 _ rfl
      have g5 : wr.cell? ⟨w.heap.size, 5, none⟩ = some (.int .u32 x.l) := hc 5 _ rfl
      have g6 : wr.cell? ⟨w.heap.size, 6, none⟩ = some (.int .u32 x.n) := hc 6 _ rfl
      have HO1 : Hid (Longer w0 (wr.alloc (.cells #[.int .u32 x.id.1, .int .u32 x.id.2, .int .u32 x.home, .int .i64 x.oc, .int .u64 x.w, .int .u32 x.l, .int .u32 x.n] 36)) B v v5 T (List.replicate k x)) := HO.out.later (Below.al (Below.refl _ _) _)
      have HBB : Hid (B ≤ (wr.alloc (.cells #[.int .u32 x.id.1, .int .u32 x.id.2, .int .u32 x.home, .int .i64 x.oc, .int .u64 x.w, .int .u32 x.l, .int .u32 x.n] 36)).heap.size) := by show _ ≤ _; have := HO1.out.gr.size; omega
      have HL1 : Hid (((T ++ List.replicate k x).length + 1) * 64 ≤ 140737488355328) := by show _ ≤ _; simp; omega
      have HRE : Hid (List.replicate (k + 1) x = List.replicate k x ++ [x]) := List.replicate_succ'
      clear HO hc
      go_wp2_with (at_builtin; refine append_E rfl _ _ rfl x rfl HO1.out.own rfl (newsE _ _) HL1.out HBB.out ?_; intro v6 w6 ho6 hg6 hk6 hn6; have hs6 := hid (HO1.out.step ho6 hg6 hk6 hn6); clear ho6 hg6 hk6 hn6)
      go_roundg (70 - (k + 1))
      case measure => omega
      case rel => exact ⟨k + 1, by omega, rfl, by go_num, by rw [HRE.out]; exact hs6.out⟩
    · obtain rfl : k = 70 := by omega
      clear hlt
      go_wp2_with fail
      go_ret
      exact ⟨_, rfl, Longer.pre HB0.out HO.out⟩
end Go.Proofs.Ytcphmahbhecfaaa.Lg
