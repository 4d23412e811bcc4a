import Derived.Test.YtneojeidpfjpbaaGreatDoorB29
import Derived.Test.YtneojeidpfjpbaaGreatDoorB21
import Derived.Lib.Strings
import Derived.Laws.Bits64
set_option linter.unusedVariables false
set_option maxHeartbeats 1000000
namespace Go.Proofs.YtneojeidpfjpbaaGreatDoor
def pk (a b c : Int) : List Int := be a 8 ++ (be b 4 ++ be c 4)
theorem pk_length (a b c : Int) : (pk a b c).length = 16 := by simp [pk, be_length]
theorem pk_byte (a b c : Int) : ∀ x ∈ pk a b c, 0 ≤ x ∧ x < 256 := by
 intro x hx; simp only [pk, List.mem_append] at hx; rcases hx with h | h | h <;> exact be_byte _ _ x h
open Go.RowKit Go.Sort
structure Wrote (w w' : World) (b off : Nat) (xs : List Int) : Prop where
 os : w'.os = w.os
 tape : w'.tape = w.tape
 output : w'.output = w.output
 size : w'.heap.size = w.heap.size
 block : ∀ k, k ≠ b → w'.heap[k]? = w.heap[k]?
 ins : ∀ i, i < xs.length → w'.cell? ⟨b, off + i, none⟩ = some (.int .u8 (xs.getD i 0))
 out : ∀ o, (o < off ∨ off + xs.length ≤ o) → w'.cell? ⟨b, o, none⟩ = w.cell? ⟨b, o, none⟩
 frz : ∀ o, w'.frozen? ⟨b, o, none⟩ = w.frozen? ⟨b, o, none⟩
theorem Wrote.refl (w : World) (b off : Nat) : Wrote w w b off [] :=
 ⟨rfl, rfl, rfl, rfl, fun _ _ => rfl, fun i h => by simp at h, fun _ _ => rfl, fun _ => rfl⟩
theorem Wrote.cons {w w' : World} {b off : Nat} {xs : List Int} (h : Wrote w w' b (off + 1) xs) (x : Int) {u : Value} (hc : w.cell? ⟨b, off, none⟩ = some u) :
  Wrote w (w'.setCell ⟨b, off, none⟩ (.int .u8 x)) b off (x :: xs) := by
 have hc' : w'.cell? ⟨b, off, none⟩ = some u := (h.out off (.inl (by omega))).trans hc; refine ⟨h.os, h.tape, h.output, by simpa [World.setCell] using h.size, fun k hk => ?_, fun i hi => ?_, fun o ho => ?_, fun o => ?_⟩
 ·rw [Below.heap_setCell _ _ _ _ hk]; exact h.block k hk
 ·cases i with
  | zero => exact World.cell?_setCell_same _ _ _ hc'
  | succ i =>
   rw [World.cell?_setCell_other _ _ _ _ (fun e => by have := congrArg Addr.off e; dsimp only at this; omega)]; have := h.ins i (by simpa using hi); rw [Nat.add_right_comm, Nat.add_assoc] at this; simpa using this
 ·rw [World.cell?_setCell_other _ _ _ _ (fun e => by have := congrArg Addr.off e; dsimp only at this; simp only [List.length_cons] at ho; omega)]; exact h.out o (by simp only [List.length_cons] at ho; omega)
 ·rw [World.frozen?_setCell]; exact h.frz o
theorem Wrote.below {w w' : World} {b off : Nat} {xs : List Int} (h : Wrote w w' b off xs) {B : Nat} (hB : B ≤ b) : Below B w w' :=
 ⟨h.os, h.tape, h.output, by rw [h.size]; exact Nat.le_refl _, fun k hk => h.block k (by omega)⟩
theorem Wrote.cell {w w' : World} {b off : Nat} {xs : List Int} (h : Wrote w w' b off xs) {p o : Nat} (hp : p ≠ b) : w'.cell? ⟨p, o, none⟩ = w.cell? ⟨p, o, none⟩ :=
 World.cell?_of_block (w := w) (h.block p hp)
open Go.RowKit Go.Sort
theorem put_any (b off n cap : Nat) (v : Int) (w : World) (hn : n ≤ 100) (hv : 0 ≤ v) (hv' : v ≤ 18446744073709551615)
  (hc : ∀ i, i < n → ∃ u, w.cell? ⟨b, off + i, none⟩ = some (.int .u8 u)) (hf : ∀ o, w.frozen? ⟨b, o, none⟩ = false) :
  Calls Tryz.prog 107 #[.slice (some ⟨b, off, none⟩) n cap, .int .u64 v] w fun e w' => e = .returned (.tuple #[]) ∧ Wrote w w' b off (be v n) := by
 go_enter Tryz.func107, Tryz.ntmps107
 go_wp2_with fail
 go_loopg [1, 4] n (fun g s1 s4 wr => ∃ k, k ≤ n ∧ g = n - k ∧ s1 = .int .u64 (v / 256 ^ k) ∧ s4 = .int .i64 ((n : Int) - 1 - k) ∧ Wrote w wr b (off + (n - k)) (be v k))
 case atStart => exact ⟨0, by omega, by omega, by simp, by simp, Wrote.refl _ _ _⟩
 case round =>
  obtain ⟨k, hk, rfl, rfl, rfl, hw⟩ := hrel; obtain ⟨x, hx⟩ : ∃ x, x = v / 256 ^ k := ⟨_, rfl⟩; have hx0 : 0 ≤ x := by rw [hx]; exact Int.ediv_nonneg hv (Int.le_of_lt (Int.pow_pos (by decide)))
  have hx1 : x ≤ 18446744073709551615 := by rw [hx]; exact Int.le_trans (Int.ediv_le_self _ hv) hv'
  have hnext : x / 256 = v / 256 ^ (k + 1) := by rw [hx, div_pow_next]
  have hbe : be v (k + 1) = (x % 256) :: be v k := by rw [hx, be_cons]
  have HN := hid hnext; have HB := hid hbe; rw [← hx]; clear hx hnext hbe; by_cases hlt : k < n
  ·obtain ⟨u, hu⟩ := hc (n - 1 - k) (by omega); have e1 : off + (n - k) = off + (n - 1 - k) + 1 := by omega
   rw [e1] at hw; have hu' : wr.cell? ⟨b, off + (n - 1 - k), none⟩ = some (.int .u8 u) := (hw.out _ (.inl (by omega))).trans hu; have hf' : ∀ o, wr.frozen? ⟨b, o, none⟩ = false := fun o => (hw.frz o).trans (hf o)
   obtain ⟨j, hj⟩ : ∃ j : Nat, j = n - 1 - k := ⟨_, rfl⟩; have e2 : (n : Int) - 1 - k = j := by omega
   rw [e2]; rw [← hj] at hu' hw hu; have hjn : j < n := by omega
   have HJ := hid hj; clear hj e1 e2 hc; go_wp2_with fail
   go_roundg (n - (k + 1))
   case measure => omega
   case rel =>
    have e3 : n - (k + 1) = j := by have := HJ.out; omega
    have e4 : ((n : Int) - 1 - (k + 1 : Nat)) = (j : Int) - 1 := by have := HJ.out; omega
    refine ⟨k + 1, by omega, rfl, by rw [HN.out], by rw [e4], ?_⟩; rw [HB.out, e3]; exact Wrote.cons hw _ hu
  ·have hkn : k = n := by omega
   subst hkn; have e : (k : Int) - 1 - k = -1 := by omega
   rw [e]; clear hc HN HB; rw [Nat.sub_self, Nat.add_zero] at hw; go_wp2_with fail
   go_end0
   exact ⟨rfl, hw⟩
open Go.RowKit Go.Sort
abbrev z8 : Value := .int .u8 0
abbrev zeros : Array Value := #[z8, z8, z8, z8, z8, z8, z8, z8, z8, z8, z8, z8, z8, z8, z8, z8]
theorem zeros_at (i : Nat) (h : i < 16) : zeros[i]? = some z8 := by
 have hi : i = 0 ∨ i = 1 ∨ i = 2 ∨ i = 3 ∨ i = 4 ∨ i = 5 ∨ i = 6 ∨ i = 7 ∨ i = 8 ∨ i = 9 ∨ i = 10 ∨ i = 11 ∨ i = 12 ∨ i = 13 ∨ i = 14 ∨ i = 15 := by omega
 rcases hi with rfl | rfl | rfl | rfl | rfl | rfl | rfl | rfl | rfl | rfl | rfl | rfl | rfl | rfl | rfl | rfl <;> rfl
theorem getD_left {i : Nat} (xs ys : List Int) (h : i < xs.length) : (xs ++ ys).getD i 0 = xs.getD i 0 := by
 simp [List.getD, List.getElem?_append_left h]
theorem getD_right {i : Nat} (xs ys : List Int) (h : xs.length ≤ i) : (xs ++ ys).getD i 0 = ys.getD (i - xs.length) 0 := by
 simp [List.getD, List.getElem?_append_right h]
structure PackAt (w wx : World) (N : Nat) (a b c : Int) : Prop where
 below : Below w.heap.size w wx
 base : w.heap.size ≤ N
 size : N + 2 ≤ wx.heap.size
 st : StampAt wx N a b c
 cells : ∀ i, i < 16 → ∃ u, wx.cell? ⟨N + 1, i, none⟩ = some (.int .u8 u)
 frz : ∀ o, wx.frozen? ⟨N + 1, o, none⟩ = false
theorem PackAt.start (w : World) (a b c : Int) (t : TypeId) : PackAt w ((w.alloc (.cells #[.int .u64 a, .int .u32 b, .int .u32 c] t)).alloc (.cells zeros 173)) w.heap.size a b c := by
 refine ⟨((Below.refl _ _).alloc (Nat.le_refl _) _).alloc (by simp) _, Nat.le_refl _, by simp, ?_, fun i hi => ⟨0, ?_⟩, fun o => by simp [go_sem]⟩
 ·refine ⟨?_, ?_, ?_⟩ <;> (simp [go_sem]; done)
 ·rw [World.cell?_alloc_at _ _ _ _ (by simp)]; exact zeros_at i hi
theorem PackAt.drew {w wx : World} {N : Nat} {a b c : Int} (h : PackAt w wx N a b c) : PackAt w wx.drew N a b c :=
 ⟨h.below.drew, h.base, h.size, h.st, h.cells, h.frz⟩
theorem PackAt.wrote {w wx wy : World} {N : Nat} {a b c : Int} (h : PackAt w wx N a b c) {off : Nat} {xs : List Int} (k : Wrote wx wy (N + 1) off xs) : PackAt w wy N a b c := by
 refine ⟨h.below.trans (k.below (by have := h.base; omega)), h.base, by rw [k.size]; exact h.size, ⟨?_, ?_, ?_⟩, fun i hi => ?_, fun o => (k.frz o).trans (h.frz o)⟩
 ·rw [k.cell (by omega)]; exact h.st.1
 ·rw [k.cell (by omega)]; exact h.st.2.1
 ·rw [k.cell (by omega)]; exact h.st.2.2
 ·by_cases ho : i < off ∨ off + xs.length ≤ i
  ·rw [k.out i ho]; exact h.cells i hi
  ·have := k.ins (i - off) (by omega); rw [show off + (i - off) = i by omega] at this; exact ⟨_, this⟩
theorem pack_any (a b c : Int) (w : World) (ha : 0 ≤ a ∧ a ≤ 18446744073709551615) (hb : 0 ≤ b ∧ b ≤ 4294967295) (hc : 0 ≤ c ∧ c ≤ 4294967295) :
  Calls Tryz.prog 64 #[stv a b c] w fun e w' => e = .returned (.string (strOfNums (be a 8 ++ (be b 4 ++ be c 4)))) ∧ Below w.heap.size w w' := by
 obtain ⟨ha0, ha1⟩ := ha; obtain ⟨hb0, hb1⟩ := hb; obtain ⟨hc0, hc1⟩ := hc; have hwb : IntKind.u64.wrap b = b := by rw [IntKind.wrap_u64]; omega
 have hwc : IntKind.u64.wrap c = c := by rw [IntKind.wrap_u64]; omega
 have P0 := PackAt.start w a b c 28; go_enter Tryz.func64, Tryz.ntmps64
 go_upto_region 2 with fail
 go_cut [] (fun wx => PackAt w wx w.heap.size a b c ∧ ∀ i, i < 8 → wx.cell? ⟨w.heap.size + 1, i, none⟩ = some (.int .u8 ((be a 8).getD i 0)))
 case first =>
  go_region_held3 (fun w' => w'.cell? ⟨w.heap.size, 0, none⟩ = some (.int .u64 a))
   (first | (simp [go_sem]; done) | (rw [Wrote.cell (by assumption) (by simp)]; simp [go_sem]; done))
   (first | (go_at_call 107; refine (put_any _ _ _ _ _ _ (by decide) ha0 ha1 (by exact fun i hi => P0.cells (0 + i) (by omega)) (by exact P0.frz)).mono ?_; rintro e w1 ⟨rfl, hw1⟩))
  all_goals (try go_wp2_with fail)
  all_goals go_meet
  exact ⟨P0.drew.wrote hw1, fun i hi => by have := hw1.ins i (by rw [be_length]; exact hi); rwa [Nat.zero_add] at this⟩
 case rest =>
  obtain ⟨P1, I1⟩ := hcut; have ⟨q0, q1, q2⟩ := P1.st; clear P0; go_upto_region 3 with fail
  go_cut [] (fun wx => PackAt w wx w.heap.size a b c ∧ (∀ i, i < 8 → wx.cell? ⟨w.heap.size + 1, i, none⟩ = some (.int .u8 ((be a 8).getD i 0))) ∧ ∀ i, i < 4 → wx.cell? ⟨w.heap.size + 1, 8 + i, none⟩ = some (.int .u8 ((be b 4).getD i 0)))
  case first =>
   go_region_held3 (fun w' => w'.cell? ⟨w.heap.size, 1, none⟩ = some (.int .u32 b))
    (first | (simp [go_sem, q1]; done) | (rw [Wrote.cell (by assumption) (by simp)]; simp [go_sem, q1]; done))
    (first | (go_at_call 107; (try rw [hwb]); refine (put_any _ _ _ _ _ _ (by decide) hb0 (by omega) (by exact fun i hi => P1.cells (8 + i) (by omega)) (by exact P1.frz)).mono ?_; rintro e w1 ⟨rfl, hw1⟩))
   all_goals (try go_wp2_with fail)
   all_goals go_meet
   exact ⟨P1.drew.wrote hw1, fun i hi => (hw1.out i (.inl (by omega))).trans (I1 i hi), fun i hi => hw1.ins i (by rw [be_length]; exact hi)⟩
  case rest =>
   obtain ⟨P2, I2, I3⟩ := hcut; have ⟨q0, q1, q2⟩ := P2.st; clear P1 I1; go_upto_region 4 with fail
   go_cut [] (fun wx => PackAt w wx w.heap.size a b c ∧ (∀ i, i < 8 → wx.cell? ⟨w.heap.size + 1, i, none⟩ = some (.int .u8 ((be a 8).getD i 0))) ∧ (∀ i, i < 4 → wx.cell? ⟨w.heap.size + 1, 8 + i, none⟩ = some (.int .u8 ((be b 4).getD i 0))) ∧ ∀ i, i < 4 → wx.cell? ⟨w.heap.size + 1, 12 + i, none⟩ = some (.int .u8 ((be c 4).getD i 0)))
   case first =>
    go_region_held3 (fun w' => w'.cell? ⟨w.heap.size, 2, none⟩ = some (.int .u32 c))
     (first | (simp [go_sem, q2]; done) | (rw [Wrote.cell (by assumption) (by simp)]; simp [go_sem, q2]; done))
     (first | (go_at_call 107; (try rw [hwc]); refine (put_any _ _ _ _ _ _ (by decide) hc0 (by omega) (by exact fun i hi => P2.cells (12 + i) (by omega)) (by exact P2.frz)).mono ?_; rintro e w1 ⟨rfl, hw1⟩))
    all_goals (try go_wp2_with fail)
    all_goals go_meet
    exact ⟨P2.drew.wrote hw1, fun i hi => (hw1.out i (.inl (by omega))).trans (I2 i hi), fun i hi => (hw1.out (8 + i) (.inl (by omega))).trans (I3 i hi), fun i hi => hw1.ins i (by rw [be_length]; exact hi)⟩
   case rest =>
    obtain ⟨P3, I4, I5, I6⟩ := hcut; clear P2 I2 I3; have hcv := fun cap => run_convert_bytes_arg (P := Tryz.prog) wc 130 5 Tryz.underlying130 Tryz.underlying5 (w.heap.size + 1) 0 16 cap (be a 8 ++ (be b 4 ++ be c 4)) (by simp [be_length]) (fun i hi => by
     rw [Nat.zero_add]; by_cases h8 : i < 8
     ·rw [I4 i h8, getD_left _ _ (by rw [be_length]; exact h8)]
     ·by_cases h12 : i < 12
      ·have := I5 (i - 8) (by omega); rw [show 8 + (i - 8) = i by omega] at this; rw [this, getD_right _ _ (by rw [be_length]; omega), be_length, getD_left _ _ (by rw [be_length]; omega)]
      ·have := I6 (i - 12) (by omega); rw [show 12 + (i - 12) = i by omega] at this; rw [this, getD_right _ _ (by rw [be_length]; omega), be_length, getD_right _ _ (by rw [be_length]; omega), be_length, show i - 8 - 4 = i - 12 by omega]) 9 Tryz.underlying9
    go_wp2_with fail
    go_ret
    exact ⟨rfl, P3.below⟩
open Go.RowKit Go.Sort
structure Sm where
 w : Int
 l : Int
 n : Int
def Sm.ok (x : Sm) : Prop := StB x.w x.l x.n
def pkN (x : Sm) : List Nat := (pk x.w x.l x.n).map Int.toNat
theorem pkN_length (x : Sm) : (pkN x).length = 16 := by simp [pkN, pk_length]
theorem pkN_b8 (x : Sm) : B8 (pkN x) := by
 intro b hb; simp only [pkN, List.mem_map] at hb; obtain ⟨y, hy, rfl⟩ := hb; have := pk_byte x.w x.l x.n y hy; omega
theorem str_pkN (x : Sm) : strOfNums (pk x.w x.l x.n) = ofNats (pkN x) := by
 rw [← strOfNums_nats, pkN, List.map_map]; congr 1
 conv => lhs; rw [← List.map_id (pk x.w x.l x.n)]
 refine List.map_congr_left fun y hy => ?_
 have := pk_byte x.w x.l x.n y hy; show y = ((y.toNat : Nat) : Int)
 omega
end Go.Proofs.YtneojeidpfjpbaaGreatDoor
