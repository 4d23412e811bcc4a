import Derived.Test.YtchfoipkaookmabDoorWCatch
import Derived.Test.YtchfoipkaookmabDoorWOrders
import Derived.Test.YtchfoipkaookmabDoorWText
import Derived.Test.YtchfoipkaookmabDoorWStamp
namespace Go.Proofs.YtchfoipkaookmabDoor
open Go.RowKit Go.Sort
set_option linter.unusedVariables false

def tStamp : Ds → Sm × Ds
  | .stop e => (zSm, .stop e)
  | .at s => if s.length < 16 then (zSm, .stop 30) else (unS (s.take 16), .at (s.drop 16))
theorem unpack_is {t : List Nat} {S : ByteArray} (hS : S = ofNats t) (ht : t.length = 16) (w : World) :
    Calls Tryd.prog 46 #[.string S] w fun e w' => e = .returned (.tuple #[stv (unS t).w (unS t).l (unS t).n, .int .i64 0]) ∧ Below w.heap.size w w' := by
  subst hS
  exact unpack_yes (ofNats t) w (by rw [ofNats_size, ht])

set_option maxHeartbeats 1000000 in
theorem dstamp_ok {w : World} {b o : Nat} {s : List Nat} {r : Int} (h : DecR w b o s r) (hn : 16 ≤ s.length) (hl : s.length ≤ 9223372036854775807) :
    Calls Tryd.prog 28 #[.pointer (some ⟨b, o, none⟩)] w fun e w' => e = .returned (stv (unS (s.take 16)).w (unS (s.take 16)).l (unS (s.take 16)).n) ∧ Cel b o 2 w w' ∧ DecR w' b o (s.drop 16) r := by
  have hmf : ∀ (fn : Fn) (first cap : Array Value) (w : World), (Instr.makeFunc fn first cap).run Tryd.prog w = .ok (.func fn first cap) w := fun _ _ _ _ => rfl
  obtain ⟨wa, hwa⟩ : ∃ wa, wa = (w.alloc (.cells #[.pointer (some ⟨b, o, none⟩)] 32)).alloc (.cells #[.int .u64 0, .int .u32 0, .int .u32 0] 39) := ⟨_, rfl⟩
  have hba : Below w.heap.size w wa := by rw [hwa]; exact Below.al (Below.al (Below.refl _ _) _) _
  have H := hid (h.later hba)
  have hq : wa.cell? ⟨w.heap.size, 0, none⟩ = some (.pointer (some ⟨b, o, none⟩)) := by rw [hwa]; simp [go_sem]
  have hbl := h.lt
  have HWA := hid hwa
  clear h hwa
  have q0 : wa.cell? ⟨w.heap.size + 1, 0, none⟩ = some (.int .u64 0) := by rw [HWA.out]; simp [go_sem]
  have q1 : wa.cell? ⟨w.heap.size + 1, 1, none⟩ = some (.int .u32 0) := by rw [HWA.out]; simp [go_sem]
  have q2 : wa.cell? ⟨w.heap.size + 1, 2, none⟩ = some (.int .u32 0) := by rw [HWA.out]; simp [go_sem]
  have hlo : Loose wa (w.heap.size + 1) := fun i => by rw [HWA.out]; simp [go_sem]
  have hwl : w.heap.size + 1 < wa.heap.size := by rw [HWA.out]; simp
  have HN := hid hn
  clear hn
  have HTL : Hid ((s.take 16).length = 16) := (by show (s.take 16).length = 16; have := HN.out; simp; omega)
  obtain ⟨x, hx⟩ : ∃ x, x = unS (s.take 16) := ⟨_, rfl⟩
  have HX := hid hx
  rw [← hx]
  clear hx
  go_enter_defers Tryd.func28, Tryd.ntmps28
  go_wp2_with fail
  rw [← HWA.out]
  refine (take_ok (n := 16) H.out HN.out hl).mono ?_
  rintro e w1 ⟨rfl, hc, hd⟩
  have HC := hid hc
  have HD := hid hd
  clear hc hd
  go_wp2_with fail
  refine (unpack_is rfl HTL.out w1).mono ?_
  rintro e w2 ⟨rfl, hb2⟩
  rw [← HX.out]
  have hq2 : w2.cell? ⟨w.heap.size, 0, none⟩ = some (.pointer (some ⟨b, o, none⟩)) := cell_later hb2 (HC.out.cell (.inl (by omega)) hq)
  have r0 : w2.cell? ⟨w.heap.size + 1, 0, none⟩ = some (.int .u64 0) := cell_later hb2 (HC.out.cell (.inl (by omega)) q0)
  have r1 : w2.cell? ⟨w.heap.size + 1, 1, none⟩ = some (.int .u32 0) := cell_later hb2 (HC.out.cell (.inl (by omega)) q1)
  have r2 : w2.cell? ⟨w.heap.size + 1, 2, none⟩ = some (.int .u32 0) := cell_later hb2 (HC.out.cell (.inl (by omega)) q2)
  have hf : ∀ i, w2.frozen? ⟨w.heap.size + 1, i, none⟩ = false := (HC.out.loose hwl hlo).later hb2 (Nat.lt_of_lt_of_le hwl HC.out.size)
  have hl2 : w.heap.size + 1 < w2.heap.size := Nat.lt_of_lt_of_le hwl (Nat.le_trans HC.out.size hb2.size)
  have HC2 : Hid (Cel b o 2 w w2) := ((Cel.of_below hba).trans HC.out).on hb2
  have HD2 : Hid (DecR w2 b o (s.drop 16) r) := HD.out.later hb2
  clear hb2 q0 q1 q2 hlo hwl hq H HD HC
  go_wp2_with fail
  obtain ⟨wy, hwy⟩ : ∃ wy, wy = (((w2.setCell ⟨w.heap.size + 1, 0, none⟩ (.int .u64 x.w)).setCell ⟨w.heap.size + 1, 1, none⟩ (.int .u32 x.l)).setCell ⟨w.heap.size + 1, 2, none⟩ (.int .u32 x.n)).alloc (.cells #[.int .u64 x.w, .int .u32 x.l, .int .u32 x.n] 39) := ⟨_, rfl⟩
  rw [← hwy]
  have C : Cel b o 2 w wy := by rw [hwy]; exact (((HC2.out.setNew (by omega) 0 _).setNew (by omega) 1 _).setNew (by omega) 2 _).al _
  have K : Cel (w.heap.size + 1) 0 3 w2 wy := by rw [hwy]; exact ((((Cel.refl _ _ _ _).set 0 (by omega) _).set 1 (by omega) _).set 2 (by omega) _).al _
  have hd := HD2.out.keep K (.inl (by omega))
  have hq1 := K.cell (.inl (by omega)) hq2
  have hls : (((w2.setCell ⟨w.heap.size + 1, 0, none⟩ (.int .u64 x.w)).setCell ⟨w.heap.size + 1, 1, none⟩ (.int .u32 x.l)).setCell ⟨w.heap.size + 1, 2, none⟩ (.int .u32 x.n)).heap.size = w2.heap.size := by simp [World.setCell]
  have c0 : wy.cell? ⟨w.heap.size + 1, 0, none⟩ = some (.int .u64 x.w) := by
    rw [hwy, World.cell?_alloc_past _ _ _ (by rw [hls]; exact hl2)]
    exact cell_setc (by simp) (cell_setc (by simp) (World.cell?_setCell_same _ _ _ r0))
  have c1 : wy.cell? ⟨w.heap.size + 1, 1, none⟩ = some (.int .u32 x.l) := by
    rw [hwy, World.cell?_alloc_past _ _ _ (by rw [hls]; exact hl2)]
    exact cell_setc (by simp) (World.cell?_setCell_same _ _ _ (cell_setc (by simp) r1))
  have c2 : wy.cell? ⟨w.heap.size + 1, 2, none⟩ = some (.int .u32 x.n) := by
    rw [hwy, World.cell?_alloc_past _ _ _ (by rw [hls]; exact hl2)]
    exact World.cell?_setCell_same _ _ _ (cell_setc (by simp) (cell_setc (by simp) r2))
  refine leaves_cons (f := 45) (args := #[.pointer (some ⟨w.heap.size, 0, none⟩)]) (by simp) (by simp [go_sem]) ?_
  refine (catch_stamp_idle hq1).mono ?_
  rintro e u' w9 ⟨rfl, rfl, rfl⟩
  refine ⟨stv x.w x.l x.n, by simp [results, Tryd.results28, go_sem, c0, c1, c2], rfl, C.drew, hd.drew⟩

set_option maxHeartbeats 1000000 in
theorem dstamp_bad {w : World} {b o : Nat} {s : List Nat} {r : Int} (h : DecR w b o s r) (hn : s.length < 16) :
    Calls Tryd.prog 28 #[.pointer (some ⟨b, o, none⟩)] w fun e w' => e = .returned (stv 0 0 0) ∧ Cel b o 2 w w' ∧ DecR w' b o [] (stopR r 30) := by
  have hmf : ∀ (fn : Fn) (first cap : Array Value) (w : World), (Instr.makeFunc fn first cap).run Tryd.prog w = .ok (.func fn first cap) w := fun _ _ _ _ => rfl
  obtain ⟨wa, hwa⟩ : ∃ wa, wa = (w.alloc (.cells #[.pointer (some ⟨b, o, none⟩)] 32)).alloc (.cells #[.int .u64 0, .int .u32 0, .int .u32 0] 39) := ⟨_, rfl⟩
  have hba : Below w.heap.size w wa := by rw [hwa]; exact Below.al (Below.al (Below.refl _ _) _) _
  have H := hid (h.later hba)
  have hq : wa.cell? ⟨w.heap.size, 0, none⟩ = some (.pointer (some ⟨b, o, none⟩)) := by rw [hwa]; simp [go_sem]
  have hbl := h.lt
  have HWA := hid hwa
  clear h hwa
  have q0 : wa.cell? ⟨w.heap.size + 1, 0, none⟩ = some (.int .u64 0) := by rw [HWA.out]; simp [go_sem]
  have q1 : wa.cell? ⟨w.heap.size + 1, 1, none⟩ = some (.int .u32 0) := by rw [HWA.out]; simp [go_sem]
  have q2 : wa.cell? ⟨w.heap.size + 1, 2, none⟩ = some (.int .u32 0) := by rw [HWA.out]; simp [go_sem]
  have HN := hid hn
  clear hn
  go_enter_defers Tryd.func28, Tryd.ntmps28
  go_wp2_with (rw [← HWA.out]; go_at_call 43; refine (take_bad (n := 16) H.out HN.out (by have := HN.out; omega)).mono ?_; rintro e w1 ⟨rfl, rfl⟩)
  have hq1 := hq
  have hd := H.out
  refine leaves_cons (f := 45) (args := #[.pointer (some ⟨w.heap.size, 0, none⟩)]) (by simp) (by simp [go_sem]) ?_
  refine (catch_stamp_bad hq1 hd).mono ?_
  rintro e u' w9 ⟨rfl, rfl, hc9, hd9⟩
  have r0 := hc9.cell (.inl (by omega)) q0
  have r1 := hc9.cell (.inl (by omega)) q1
  have r2 := hc9.cell (.inl (by omega)) q2
  refine ⟨stv 0 0 0, by simp [results, Tryd.results28, go_sem, r0, r1, r2], rfl, (Cel.of_below hba).trans hc9, hd9⟩

/-- Stamp: P3.3, P3.4 -/
theorem dstamp_is {w : World} {b o : Nat} {x : Sm} {d d' : Ds} (h : DecAt w b o d) (hl : d.left.length ≤ 9223372036854775807) (hv : tStamp d = (x, d')) :
    Calls Tryd.prog 28 #[.pointer (some ⟨b, o, none⟩)] w fun e w' => e = .returned (stv x.w x.l x.n) ∧ Cel b o 2 w w' ∧ DecAt w' b o d' := by
  have hok := h.ok
  cases d with
  | stop c =>
    have hc : c ≠ 0 := hok
    simp only [tStamp] at hv
    injection hv with h1 h2
    subst h1 h2
    refine (dstamp_bad h.raw (show ([] : List Nat).length < 16 by decide)).mono ?_
    rintro e w' ⟨h1, h2, h3⟩
    have e1 : stopR (Ds.stop c).num 30 = c := if_neg hc
    rw [e1] at h3
    exact ⟨h1, h2, h3, hc⟩
  | «at» s =>
    by_cases hn : s.length < 16
    · simp only [tStamp, hn, if_true] at hv
      injection hv with h1 h2
      subst h1 h2
      refine (dstamp_bad h.raw hn).mono ?_
      rintro e w' ⟨h1, h2, h3⟩
      exact ⟨h1, h2, h3, show (30 : Int) ≠ 0 by decide⟩
    · simp only [tStamp, hn, if_false] at hv
      injection hv with h1 h2
      subst h1 h2
      refine (dstamp_ok h.raw (by show 16 ≤ s.length; omega) hl).mono ?_
      rintro e w' ⟨h1, h2, h3⟩
      exact ⟨h1, h2, h3, trivial⟩

end Go.Proofs.YtchfoipkaookmabDoor
