import Derived.Test.YtofpaldolcnmiaaGreatB02
import Derived.Laws.Strings
import Derived.Lib.Strings
import Derived.Laws.Bits64
set_option linter.unusedVariables false
set_option maxHeartbeats 1000000
namespace Go.Proofs.YtofpaldolcnmiaaGreat
def pk (a b c : Int) : List Int := be a 8 ++ (be b 4 ++ be c 4)
theorem pk_length (a b c : Int) : (pk a b c).length = 16 := by simp [pk, bln]
theorem pk_byte (a b c : Int) : ∀ x ∈ pk a b c, 0 ≤ x ∧ x < 256 := by
 intro x hx; simp only [pk, List.mem_append] at hx; rcases hx with h | h | h <;> exact be_byte _ _ x h
def byteOf (n : Int) : UInt8 := UInt8.ofNat n.toNat
theorem byteOf_toNat {n : Int} (h : 0 ≤ n ∧ n < 256) : (byteOf n).toNat = n.toNat := by
 unfold byteOf; rw [UInt8.toNat_ofNat']; omega
def StB (a b c : Int) : Prop := (0 ≤ a ∧ a ≤ 18446744073709551615) ∧ (0 ≤ b ∧ b ≤ 4294967295) ∧ (0 ≤ c ∧ c ≤ 4294967295)
open Go.RowKit Go.Sort
def numL : List UInt8 → Int → Int
 | [], v => v
 | x :: xs, v => numL xs (v * 256 + x.toNat)
theorem numL_snoc (xs : List UInt8) (x : UInt8) (v : Int) : numL (xs ++ [x]) v = numL xs v * 256 + x.toNat := by
 induction xs generalizing v with
 | nil => rfl
 | cons y ys ih => exact ih _
theorem numL_bound (xs : List UInt8) : 0 ≤ numL xs 0 ∧ numL xs 0 < 256 ^ xs.length := by
 have key : ∀ (xs : List UInt8) (v : Int), 0 ≤ v → v * 256 ^ xs.length ≤ numL xs v ∧ numL xs v < (v + 1) * 256 ^ xs.length := by
  intro xs; induction xs with
  | nil => intro v _; simp [numL]; omega
  | cons x xs ih =>
   intro v hv; have hx : (x.toNat : Int) < 256 := by have := x.toNat_lt; omega
   have := ih (v * 256 + x.toNat) (by omega); rw [numL, List.length_cons, Int.pow_succ]; have hp : (0 : Int) < 256 ^ xs.length := Int.pow_pos (by decide); obtain ⟨h1, h2⟩ := this; constructor
   ·refine Int.le_trans ?_ h1; rw [Int.add_mul, Int.mul_comm (256 ^ xs.length) 256, ← Int.mul_assoc]; have : 0 ≤ (x.toNat : Int) * 256 ^ xs.length := Int.mul_nonneg (by omega) (by omega); omega
   ·refine Int.lt_of_lt_of_le h2 ?_; rw [Int.mul_comm (256 ^ xs.length) 256, ← Int.mul_assoc]; exact Int.mul_le_mul_of_nonneg_right (by omega) (by omega)
 have := key xs 0 (by omega); simpa using this
theorem pow256_le {m n : Nat} (h : m ≤ n) : (256 : Int) ^ m ≤ 256 ^ n := by
 have := Int.ofNat_le.2 (Nat.pow_le_pow_right (n := 256) (by decide) h); simpa using this
theorem take_snoc (s : ByteArray) (k : Nat) (h : k < s.size) : s.data.toList.take (k + 1) = s.data.toList.take k ++ [s[k]] := by
 rw [List.take_succ_eq_append_getElem (by simpa using h)]; rfl
theorem or_low (x y : Int) (hx : 0 ≤ x) (hx' : x < 72057594037927936) (hy : 0 ≤ y) (hy' : y < 256) : bits .or .u64 (x * 256) y = x * 256 + y := by
 obtain ⟨m, rfl⟩ := Int.eq_ofNat_of_zero_le hx; obtain ⟨n, rfl⟩ := Int.eq_ofNat_of_zero_le hy; have h := bits_or_u64_nat (m * 256) n (by omega) (by omega); have e : m * 256 ||| n = m * 256 + n := by
  have := Nat.shiftLeft_add_eq_or_of_lt (b := n) (i := 8) (by omega) m; rw [Nat.shiftLeft_eq] at this; exact this.symm
 rw [e] at h; simpa using h
theorem number_any (s : ByteArray) (w : World) (hs : s.size ≤ 8) :
  Calls Tryz.prog 200 #[.string s] w fun e w' => e = .returned (.int .u64 (numL s.data.toList 0)) ∧ w' = w := by
 go_enter Tryz.func200, Tryz.ntmps200
 go_wp2_with fail
 go_loop [3, 7] (fun s3 s7 => ∃ k : Nat, k ≤ s.size ∧ s3 = .int .u64 (numL (s.data.toList.take k) 0) ∧ s7 = .int .i64 k) (fun _ i => s.size - (intOf i).toNat)
 case atStart => exact ⟨0, by omega, rfl, rfl⟩
 case round =>
  obtain ⟨k, hk, rfl, rfl⟩ := hrel; have hb := numL_bound (s.data.toList.take k); have hl : (s.data.toList.take k).length ≤ k := List.length_take_le _ _; by_cases hlt : k < s.size
  ·have hn := numL_snoc (s.data.toList.take k) s[k] 0; rw [← take_snoc s k hlt] at hn; have HN := hid hn; obtain ⟨x, hx⟩ : ∃ x, x = numL (s.data.toList.take k) 0 := ⟨_, rfl⟩; rw [← hx] at hb HN ⊢; have hx0 := hb.1; have hx1 : x < 72057594037927936 := by
    refine Int.lt_of_lt_of_le hb.2 ?_; exact Int.le_trans (pow256_le (show (s.data.toList.take k).length ≤ 7 by omega)) (by decide)
   clear hb hl hn hx; go_wp2
   have hbyte : IntKind.u64.wrap (s[k].toNat : Int) = s[k].toNat := by
    rw [IntKind.wrap_u64]; have := s[k].toNat_lt; omega
   have hor := or_low x s[k].toNat hx0 hx1 (by omega) (by have := s[k].toNat_lt; omega); refine ⟨⟨k + 1, by omega, ?_, by go_num⟩, ?_⟩
   ·rw [hbyte, hor, HN.out]
   ·simp [intOf]; omega
  ·obtain rfl : k = s.size := by omega
   rw [List.take_of_length_le (by simp)]; clear hb hl; go_wp2
   go_ret
   exact ⟨rfl, rfl⟩
open Go.RowKit Go.Sort
def piece (s : ByteArray) (i j : Nat) : Int := numL (s.extract i j).data.toList 0
theorem piece_bound (s : ByteArray) {i j n : Nat} (h : (s.extract i j).size ≤ n) : 0 ≤ piece s i j ∧ piece s i j < 256 ^ n := by
 have hb := numL_bound (s.extract i j).data.toList; refine ⟨hb.1, Int.lt_of_lt_of_le hb.2 (pow256_le ?_)⟩; exact h
theorem wrap_u32_eq (n : Int) : IntKind.u32.wrap n = n % 4294967296 := by simp [IntKind.wrap, IntKind.bits, IntKind.signed]
theorem number_piece (s : ByteArray) (i j : Nat) (w : World) (hs : (s.extract i j).size ≤ 8) :
  Calls Tryz.prog 200 #[.string (s.extract i j)] w fun e w' => e = .returned (.int .u64 (piece s i j)) ∧ w' = w := number_any (s.extract i j) w hs
theorem unpack_yes (s : ByteArray) (w : World) (hs : s.size = 16) :
  Calls Tryz.prog 149 #[.string s] w fun e w' => e = .returned (.tuple #[stv (piece s 0 8) (piece s 8 12) (piece s 12 16), .int .i64 0]) ∧ Below w.heap.size w w' := by
 have hs' : ((s.size : Int) != 16) = false := by rw [hs]; rfl
 have hw1 : IntKind.u32.wrap (piece s 8 12) = piece s 8 12 := by
  have := piece_bound s (i := 8) (j := 12) (n := 4) (by simp [hs]); rw [wrap_u32_eq]; omega
 have hw2 : IntKind.u32.wrap (piece s 12 16) = piece s 12 16 := by
  have := piece_bound s (i := 12) (j := 16) (n := 4) (by simp [hs]); rw [wrap_u32_eq]; omega
 go_enter Tryz.func149, Tryz.ntmps149
 go_wp2_with fail
 go_region_held3 (fun w' => True)
  (trivial)
  (first | (go_at_call 200; refine (number_piece s _ _ _ (by simp [hs])).mono ?_; rintro e w1 ⟨rfl, rfl⟩))
 go_wp2_with fail
 exact bodyPost_ret (v := .tuple #[stv (piece s 0 8) (piece s 8 12) (piece s 12 16), .int .i64 0]) (by simp [results, Tryz.results149, go_sem]) rfl ⟨rfl, (Below.al (Below.refl _ _) _).drew⟩
theorem numL_append (xs ys : List UInt8) (v : Int) : numL (xs ++ ys) v = numL ys (numL xs v) := by
 induction xs generalizing v with
 | nil => rfl
 | cons x xs ih => exact ih _
theorem byteOf_int {n : Int} (h : 0 ≤ n ∧ n < 256) : ((byteOf n).toNat : Int) = n := by rw [byteOf_toNat h]; omega
theorem numL_be {n : Nat} {v : Int} (hv : 0 ≤ v ∧ v < 256 ^ n) : numL ((be v n).map byteOf) 0 = v := by
 induction n generalizing v with
 | zero => simp at hv; simp [be, numL]; omega
 | succ n ih =>
  rw [Int.pow_succ] at hv; rw [be, List.map_append, numL_append, ih ⟨by omega, by omega⟩]; show v / 256 * 256 + ((byteOf (v % 256)).toNat : Int) = v
  rw [byteOf_int ⟨by omega, by omega⟩]; omega
theorem extract_str (xs : List Int) (i j : Nat) : ((strOfNums xs).extract i j).data.toList = ((xs.drop i).take (j - i)).map byteOf := by
 rw [Lib.extract_data, strOfNums_data, List.map_take, List.map_drop]; rfl
theorem pk_0 (a b c : Int) : ((pk a b c).drop 0).take 8 = be a 8 := by
 rw [pk, List.drop_zero, List.take_left' (bln a 8)]
theorem pk_8 (a b c : Int) : ((pk a b c).drop 8).take 4 = be b 4 := by
 rw [pk, List.drop_left' (bln a 8), List.take_left' (bln b 4)]
theorem pk_12 (a b c : Int) : ((pk a b c).drop 12).take 4 = be c 4 := by
 rw [pk, ← List.append_assoc, List.drop_left' (by rw [List.length_append, bln, bln]), List.take_of_length_le (by rw [bln]; exact Nat.le_refl _)]
theorem piece_pk {a b c : Int} (h : StB a b c) : piece (strOfNums (pk a b c)) 0 8 = a ∧ piece (strOfNums (pk a b c)) 8 12 = b ∧ piece (strOfNums (pk a b c)) 12 16 = c := by
 obtain ⟨⟨ha0, ha1⟩, ⟨hb0, hb1⟩, hc0, hc1⟩ := h; refine ⟨?_, ?_, ?_⟩ <;> unfold piece <;> rw [extract_str]
 ·rw [pk_0, numL_be ⟨ha0, by omega⟩]
 ·rw [pk_8, numL_be ⟨hb0, by omega⟩]
 ·rw [pk_12, numL_be ⟨hc0, by omega⟩]
open Go.RowKit Go.Sort
structure Wrote (w w' : World) (b off : Nat) (xs : List Int) : Prop where
 os : w'.os = w.os
 tape : w'.tape = w.tape
 output : w'.output = w.output
 size : w'.heap.size = w.heap.size
 block : ∀ k, k ≠ b → w'.heap[k]? = w.heap[k]?
 ins : ∀ i, i < xs.length → w'.cell? ⟨b, off + i, none⟩ = some (.int .u8 (xs.getD i 0))
 out : ∀ o, (o < off ∨ off + xs.length ≤ o) → w'.cell? ⟨b, o, none⟩ = w.cell? ⟨b, o, none⟩
 frz : ∀ o, w'.frozen? ⟨b, o, none⟩ = w.frozen? ⟨b, o, none⟩
theorem Wrote.refl (w : World) (b off : Nat) : Wrote w w b off [] :=
 ⟨rfl, rfl, rfl, rfl, fun _ _ => rfl, fun i h => by simp at h, fun _ _ => rfl, fun _ => rfl⟩
theorem Wrote.cons {w w' : World} {b off : Nat} {xs : List Int} (h : Wrote w w' b (off + 1) xs) (x : Int) {u : Value} (hc : w.cell? ⟨b, off, none⟩ = some u) :
  Wrote w (w'.setCell ⟨b, off, none⟩ (.int .u8 x)) b off (x :: xs) := by
 have hc' : w'.cell? ⟨b, off, none⟩ = some u := (h.out off (.inl (by omega))).trans hc; refine ⟨h.os, h.tape, h.output, by simpa [World.setCell] using h.size, fun k hk => ?_, fun i hi => ?_, fun o ho => ?_, fun o => ?_⟩
 ·rw [Below.heap_setCell _ _ _ _ hk]; exact h.block k hk
 ·cases i with
  | zero => exact World.cell?_setCell_same _ _ _ hc'
  | succ i =>
   rw [World.cell?_setCell_other _ _ _ _ (fun e => by have := congrArg Addr.off e; dsimp only at this; omega)]; have := h.ins i (by simpa using hi); rw [Nat.add_right_comm, Nat.add_assoc] at this; simpa using this
 ·rw [World.cell?_setCell_other _ _ _ _ (fun e => by have := congrArg Addr.off e; dsimp only at this; simp only [List.length_cons] at ho; omega)]; exact h.out o (by simp only [List.length_cons] at ho; omega)
 ·rw [World.frozen?_setCell]; exact h.frz o
theorem Wrote.below {w w' : World} {b off : Nat} {xs : List Int} (h : Wrote w w' b off xs) {B : Nat} (hB : B ≤ b) : Below B w w' :=
 ⟨h.os, h.tape, h.output, by rw [h.size]; exact Nat.le_refl _, fun k hk => h.block k (by omega)⟩
theorem Wrote.cell {w w' : World} {b off : Nat} {xs : List Int} (h : Wrote w w' b off xs) {p o : Nat} (hp : p ≠ b) : w'.cell? ⟨p, o, none⟩ = w.cell? ⟨p, o, none⟩ :=
 World.cell?_of_block (w := w) (h.block p hp)
open Go.RowKit Go.Sort
theorem put_any (b off n cap : Nat) (v : Int) (w : World) (hn : n ≤ 100) (hv : 0 ≤ v) (hv' : v ≤ 18446744073709551615)
  (hc : ∀ i, i < n → ∃ u, w.cell? ⟨b, off + i, none⟩ = some (.int .u8 u)) (hf : ∀ o, w.frozen? ⟨b, o, none⟩ = false) :
  Calls Tryz.prog 163 #[.slice (some ⟨b, off, none⟩) n cap, .int .u64 v] w fun e w' => e = .returned (.tuple #[]) ∧ Wrote w w' b off (be v n) := by
 go_enter Tryz.func163, Tryz.ntmps163
 go_wp2_with fail
 go_loopg [1, 4] n (fun g s1 s4 wr => ∃ k, k ≤ n ∧ g = n - k ∧ s1 = .int .u64 (v / 256 ^ k) ∧ s4 = .int .i64 ((n : Int) - 1 - k) ∧ Wrote w wr b (off + (n - k)) (be v k))
 case atStart => exact ⟨0, by omega, by omega, by simp, by simp, Wrote.refl _ _ _⟩
 case round =>
  obtain ⟨k, hk, rfl, rfl, rfl, hw⟩ := hrel; obtain ⟨x, hx⟩ : ∃ x, x = v / 256 ^ k := ⟨_, rfl⟩; have hx0 : 0 ≤ x := by rw [hx]; exact Int.ediv_nonneg hv (Int.le_of_lt (Int.pow_pos (by decide)))
  have hx1 : x ≤ 18446744073709551615 := by rw [hx]; exact Int.le_trans (Int.ediv_le_self _ hv) hv'
  have hnext : x / 256 = v / 256 ^ (k + 1) := by rw [hx, div_pow_next]
  have hbe : be v (k + 1) = (x % 256) :: be v k := by rw [hx, be_cons]
  have HN := hid hnext; have HB := hid hbe; rw [← hx]; clear hx hnext hbe; by_cases hlt : k < n
  ·obtain ⟨u, hu⟩ := hc (n - 1 - k) (by omega); have e1 : off + (n - k) = off + (n - 1 - k) + 1 := by omega
   rw [e1] at hw; have hu' : wr.cell? ⟨b, off + (n - 1 - k), none⟩ = some (.int .u8 u) := (hw.out _ (.inl (by omega))).trans hu; have hf' : ∀ o, wr.frozen? ⟨b, o, none⟩ = false := fun o => (hw.frz o).trans (hf o)
   obtain ⟨j, hj⟩ : ∃ j : Nat, j = n - 1 - k := ⟨_, rfl⟩; have e2 : (n : Int) - 1 - k = j := by omega
   rw [e2]; rw [← hj] at hu' hw hu; have hjn : j < n := by omega
   have HJ := hid hj; clear hj e1 e2 hc; go_wp2_with fail
   go_roundg (n - (k + 1))
   case measure => omega
   case rel =>
    have e3 : n - (k + 1) = j := by have := HJ.out; omega
    have e4 : ((n : Int) - 1 - (k + 1 : Nat)) = (j : Int) - 1 := by have := HJ.out; omega
    refine ⟨k + 1, by omega, rfl, by rw [HN.out], by rw [e4], ?_⟩; rw [HB.out, e3]; exact Wrote.cons hw _ hu
  ·have hkn : k = n := by omega
   subst hkn; have e : (k : Int) - 1 - k = -1 := by omega
   rw [e]; clear hc HN HB; rw [Nat.sub_self, Nat.add_zero] at hw; go_wp2_with fail
   go_end0
   exact ⟨rfl, hw⟩
open Go.RowKit Go.Sort
abbrev z8 : Value := .int .u8 0
abbrev zeros : Array Value := #[z8, z8, z8, z8, z8, z8, z8, z8, z8, z8, z8, z8, z8, z8, z8, z8]
theorem zeros_at (i : Nat) (h : i < 16) : zeros[i]? = some z8 := by
 have hi : i = 0 ∨ i = 1 ∨ i = 2 ∨ i = 3 ∨ i = 4 ∨ i = 5 ∨ i = 6 ∨ i = 7 ∨ i = 8 ∨ i = 9 ∨ i = 10 ∨ i = 11 ∨ i = 12 ∨ i = 13 ∨ i = 14 ∨ i = 15 := by omega
 rcases hi with rfl | rfl | rfl | rfl | rfl | rfl | rfl | rfl | rfl | rfl | rfl | rfl | rfl | rfl | rfl | rfl <;> rfl
theorem getD_left {i : Nat} (xs ys : List Int) (h : i < xs.length) : (xs ++ ys).getD i 0 = xs.getD i 0 := by
 simp [List.getD, List.getElem?_append_left h]
theorem getD_right {i : Nat} (xs ys : List Int) (h : xs.length ≤ i) : (xs ++ ys).getD i 0 = ys.getD (i - xs.length) 0 := by
 simp [List.getD, List.getElem?_append_right h]
structure PackAt (w wx : World) (N : Nat) (a b c : Int) : Prop where
 below : Below w.heap.size w wx
 base : w.heap.size ≤ N
 size : N + 2 ≤ wx.heap.size
 st : StampAt wx N a b c
 cells : ∀ i, i < 16 → ∃ u, wx.cell? ⟨N + 1, i, none⟩ = some (.int .u8 u)
 frz : ∀ o, wx.frozen? ⟨N + 1, o, none⟩ = false
theorem PackAt.start (w : World) (a b c : Int) (t : TypeId) : PackAt w ((w.alloc (.cells #[.int .u64 a, .int .u32 b, .int .u32 c] t)).alloc (.cells zeros 218)) w.heap.size a b c := by
 refine ⟨((Below.refl _ _).alloc (Nat.le_refl _) _).alloc (by simp) _, Nat.le_refl _, by simp, ?_, fun i hi => ⟨0, ?_⟩, fun o => by simp [go_sem]⟩
 ·refine ⟨?_, ?_, ?_⟩ <;> (simp [go_sem]; done)
 ·rw [World.cell?_alloc_at _ _ _ _ (by simp)]; exact zeros_at i hi
theorem PackAt.drew {w wx : World} {N : Nat} {a b c : Int} (h : PackAt w wx N a b c) : PackAt w wx.drew N a b c :=
 ⟨h.below.drew, h.base, h.size, h.st, h.cells, h.frz⟩
theorem PackAt.wrote {w wx wy : World} {N : Nat} {a b c : Int} (h : PackAt w wx N a b c) {off : Nat} {xs : List Int} (k : Wrote wx wy (N + 1) off xs) : PackAt w wy N a b c := by
 refine ⟨h.below.trans (k.below (by have := h.base; omega)), h.base, by rw [k.size]; exact h.size, ⟨?_, ?_, ?_⟩, fun i hi => ?_, fun o => (k.frz o).trans (h.frz o)⟩
 ·rw [k.cell (by omega)]; exact h.st.1
 ·rw [k.cell (by omega)]; exact h.st.2.1
 ·rw [k.cell (by omega)]; exact h.st.2.2
 ·by_cases ho : i < off ∨ off + xs.length ≤ i
  ·rw [k.out i ho]; exact h.cells i hi
  ·have := k.ins (i - off) (by omega); rw [show off + (i - off) = i by omega] at this; exact ⟨_, this⟩
theorem pack_any (a b c : Int) (w : World) (ha : 0 ≤ a ∧ a ≤ 18446744073709551615) (hb : 0 ≤ b ∧ b ≤ 4294967295) (hc : 0 ≤ c ∧ c ≤ 4294967295) :
  Calls Tryz.prog 87 #[stv a b c] w fun e w' => e = .returned (.string (strOfNums (be a 8 ++ (be b 4 ++ be c 4)))) ∧ Below w.heap.size w w' := by
 obtain ⟨ha0, ha1⟩ := ha; obtain ⟨hb0, hb1⟩ := hb; obtain ⟨hc0, hc1⟩ := hc; have hwb : IntKind.u64.wrap b = b := by rw [IntKind.wrap_u64]; omega
 have hwc : IntKind.u64.wrap c = c := by rw [IntKind.wrap_u64]; omega
 have P0 := PackAt.start w a b c 36; go_enter Tryz.func87, Tryz.ntmps87
 go_upto_region 2 with fail
 go_cut [] (fun wx => PackAt w wx w.heap.size a b c ∧ ∀ i, i < 8 → wx.cell? ⟨w.heap.size + 1, i, none⟩ = some (.int .u8 ((be a 8).getD i 0)))
 case first =>
  go_region_held3 (fun w' => w'.cell? ⟨w.heap.size, 0, none⟩ = some (.int .u64 a))
   (first | (simp [go_sem]; done) | (rw [Wrote.cell (by assumption) (by simp)]; simp [go_sem]; done))
   (first | (go_at_call 163; refine (put_any _ _ _ _ _ _ (by decide) ha0 ha1 (by exact fun i hi => P0.cells (0 + i) (by omega)) (by exact P0.frz)).mono ?_; rintro e w1 ⟨rfl, hw1⟩))
  all_goals (try go_wp2_with fail)
  all_goals go_meet
  exact ⟨P0.drew.wrote hw1, fun i hi => by have := hw1.ins i (by rw [bln]; exact hi); rwa [Nat.zero_add] at this⟩
 case rest =>
  obtain ⟨P1, I1⟩ := hcut; have ⟨q0, q1, q2⟩ := P1.st; clear P0; go_upto_region 3 with fail
  go_cut [] (fun wx => PackAt w wx w.heap.size a b c ∧ (∀ i, i < 8 → wx.cell? ⟨w.heap.size + 1, i, none⟩ = some (.int .u8 ((be a 8).getD i 0))) ∧ ∀ i, i < 4 → wx.cell? ⟨w.heap.size + 1, 8 + i, none⟩ = some (.int .u8 ((be b 4).getD i 0)))
  case first =>
   go_region_held3 (fun w' => w'.cell? ⟨w.heap.size, 1, none⟩ = some (.int .u32 b))
    (first | (simp [go_sem, q1]; done) | (rw [Wrote.cell (by assumption) (by simp)]; simp [go_sem, q1]; done))
    (first | (go_at_call 163; (try rw [hwb]); refine (put_any _ _ _ _ _ _ (by decide) hb0 (by omega) (by exact fun i hi => P1.cells (8 + i) (by omega)) (by exact P1.frz)).mono ?_; rintro e w1 ⟨rfl, hw1⟩))
   all_goals (try go_wp2_with fail)
   all_goals go_meet
   exact ⟨P1.drew.wrote hw1, fun i hi => (hw1.out i (.inl (by omega))).trans (I1 i hi), fun i hi => hw1.ins i (by rw [bln]; exact hi)⟩
  case rest =>
   obtain ⟨P2, I2, I3⟩ := hcut; have ⟨q0, q1, q2⟩ := P2.st; clear P1 I1; go_upto_region 4 with fail
   go_cut [] (fun wx => PackAt w wx w.heap.size a b c ∧ (∀ i, i < 8 → wx.cell? ⟨w.heap.size + 1, i, none⟩ = some (.int .u8 ((be a 8).getD i 0))) ∧ (∀ i, i < 4 → wx.cell? ⟨w.heap.size + 1, 8 + i, none⟩ = some (.int .u8 ((be b 4).getD i 0))) ∧ ∀ i, i < 4 → wx.cell? ⟨w.heap.size + 1, 12 + i, none⟩ = some (.int .u8 ((be c 4).getD i 0)))
   case first =>
    go_region_held3 (fun w' => w'.cell? ⟨w.heap.size, 2, none⟩ = some (.int .u32 c))
     (first | (simp [go_sem, q2]; done) | (rw [Wrote.cell (by assumption) (by simp)]; simp [go_sem, q2]; done))
     (first | (go_at_call 163; (try rw [hwc]); refine (put_any _ _ _ _ _ _ (by decide) hc0 (by omega) (by exact fun i hi => P2.cells (12 + i) (by omega)) (by exact P2.frz)).mono ?_; rintro e w1 ⟨rfl, hw1⟩))
    all_goals (try go_wp2_with fail)
    all_goals go_meet
    exact ⟨P2.drew.wrote hw1, fun i hi => (hw1.out i (.inl (by omega))).trans (I2 i hi), fun i hi => (hw1.out (8 + i) (.inl (by omega))).trans (I3 i hi), fun i hi => hw1.ins i (by rw [bln]; exact hi)⟩
   case rest =>
    obtain ⟨P3, I4, I5, I6⟩ := hcut; clear P2 I2 I3; have hcv := fun cap => run_convert_bytes_arg (P := Tryz.prog) wc 141 5 Tryz.underlying141 Tryz.underlying5 (w.heap.size + 1) 0 16 cap (be a 8 ++ (be b 4 ++ be c 4)) (by simp [bln]) (fun i hi => by
     rw [Nat.zero_add]; by_cases h8 : i < 8
     ·rw [I4 i h8, getD_left _ _ (by rw [bln]; exact h8)]
     ·by_cases h12 : i < 12
      ·have := I5 (i - 8) (by omega); rw [show 8 + (i - 8) = i by omega] at this; rw [this, getD_right _ _ (by rw [bln]; omega), bln, getD_left _ _ (by rw [bln]; omega)]
      ·have := I6 (i - 12) (by omega); rw [show 12 + (i - 12) = i by omega] at this; rw [this, getD_right _ _ (by rw [bln]; omega), bln, getD_right _ _ (by rw [bln]; omega), bln, show i - 8 - 4 = i - 12 by omega]) 9 Tryz.underlying9
    go_wp2_with fail
    go_ret
    exact ⟨rfl, P3.below⟩
open Go.RowKit Go.Sort
structure Sm where
 w : Int
 l : Int
 n : Int
def Sm.ok (x : Sm) : Prop := StB x.w x.l x.n
def pkN (x : Sm) : List Nat := (pk x.w x.l x.n).map Int.toNat
def unS (t : List Nat) : Sm := ⟨piece (ofNats t) 0 8, piece (ofNats t) 8 12, piece (ofNats t) 12 16⟩
def zSm : Sm := ⟨0, 0, 0⟩
theorem pkN_length (x : Sm) : (pkN x).length = 16 := by simp [pkN, pk_length]
theorem pkN_b8 (x : Sm) : B8 (pkN x) := by
 intro b hb; simp only [pkN, List.mem_map] at hb; obtain ⟨y, hy, rfl⟩ := hb; have := pk_byte x.w x.l x.n y hy; omega
theorem str_pkN (x : Sm) : strOfNums (pk x.w x.l x.n) = ofNats (pkN x) := by
 rw [← strOfNums_nats, pkN, List.map_map]; congr 1
 conv => lhs; rw [← List.map_id (pk x.w x.l x.n)]
 refine List.map_congr_left fun y hy => ?_
 have := pk_byte x.w x.l x.n y hy; show y = ((y.toNat : Nat) : Int)
 omega
theorem unS_pkN {x : Sm} (h : x.ok) : unS (pkN x) = x := by
 have := piece_pk h; rw [str_pkN] at this; unfold unS; rw [this.1, this.2.1, this.2.2]
theorem unS_ok {t : List Nat} (h : t.length = 16) : (unS t).ok := by
 have hs : (ofNats t).size = 16 := by rw [ons, h]
 have h1 := piece_bound (ofNats t) (i := 0) (j := 8) (n := 8) (by simp [hs]); have h2 := piece_bound (ofNats t) (i := 8) (j := 12) (n := 4) (by simp [hs]); have h3 := piece_bound (ofNats t) (i := 12) (j := 16) (n := 4) (by simp [hs]); refine ⟨⟨h1.1, ?_⟩, ⟨h2.1, ?_⟩, h3.1, ?_⟩
 ·have := h1.2; show piece (ofNats t) 0 8 ≤ _; omega
 ·have := h2.2; show piece (ofNats t) 8 12 ≤ _; omega
 ·have := h3.2; show piece (ofNats t) 12 16 ≤ _; omega
open Go.RowKit Go.Sort
def tStamp : Ds → Sm × Ds
 | .stop e => (zSm, .stop e)
 | .at s => if s.length < 16 then (zSm, .stop 30) else (unS (s.take 16), .at (s.drop 16))
theorem unpack_is {t : List Nat} {S : ByteArray} (hS : S = ofNats t) (ht : t.length = 16) (w : World) :
  Calls Tryz.prog 149 #[.string S] w fun e w' => e = .returned (.tuple #[stv (unS t).w (unS t).l (unS t).n, .int .i64 0]) ∧ Below w.heap.size w w' := by
 subst hS; exact unpack_yes (ofNats t) w (by rw [ons, ht])
theorem dstamp_ok {w : World} {b o : Nat} {s : List Nat} {r : Int} (h : DecR w b o s r) (hn : 16 ≤ s.length) (hl : s.length ≤ 9223372036854775807) :
  Calls Tryz.prog 75 #[.pointer (some ⟨b, o, none⟩)] w fun e w' => e = .returned (stv (unS (s.take 16)).w (unS (s.take 16)).l (unS (s.take 16)).n) ∧ Cel b o 2 w w' ∧ DecR w' b o (s.drop 16) r := by
 have hmf : ∀ (fn : Fn) (first cap : Array Value) (w : World), (Instr.makeFunc fn first cap).run Tryz.prog w = .ok (.func fn first cap) w := fun _ _ _ _ => rfl
 obtain ⟨wa, hwa⟩ : ∃ wa, wa = (w.alloc (.cells #[.pointer (some ⟨b, o, none⟩)] 73)).alloc (.cells #[.int .u64 0, .int .u32 0, .int .u32 0] 36) := ⟨_, rfl⟩; have hba : Below w.heap.size w wa := by rw [hwa]; exact Below.al (Below.al (Below.refl _ _) _) _
 have H := hid (h.later hba); have hq : wa.cell? ⟨w.heap.size, 0, none⟩ = some (.pointer (some ⟨b, o, none⟩)) := by rw [hwa]; simp [go_sem]
 have hbl := h.lt; have HWA := hid hwa; clear h hwa; have q0 : wa.cell? ⟨w.heap.size + 1, 0, none⟩ = some (.int .u64 0) := by rw [HWA.out]; simp [go_sem]
 have q1 : wa.cell? ⟨w.heap.size + 1, 1, none⟩ = some (.int .u32 0) := by rw [HWA.out]; simp [go_sem]
 have q2 : wa.cell? ⟨w.heap.size + 1, 2, none⟩ = some (.int .u32 0) := by rw [HWA.out]; simp [go_sem]
 have hlo : Loose wa (w.heap.size + 1) := fun i => by rw [HWA.out]; simp [go_sem]
 have hwl : w.heap.size + 1 < wa.heap.size := by rw [HWA.out]; simp
 have HN := hid hn; clear hn; have HTL : Hid ((s.take 16).length = 16) := (by show (s.take 16).length = 16; have := HN.out; simp; omega); obtain ⟨x, hx⟩ : ∃ x, x = unS (s.take 16) := ⟨_, rfl⟩; have HX := hid hx; rw [← hx]; clear hx; go_enter_defers Tryz.func75, Tryz.ntmps75
 go_wp2_with fail
 rw [← HWA.out]; refine (take_ok (n := 16) H.out HN.out hl).mono ?_; rintro e w1 ⟨rfl, hc, hd⟩; have HC := hid hc; have HD := hid hd; clear hc hd; go_wp2_with fail
 refine (unpack_is rfl HTL.out w1).mono ?_; rintro e w2 ⟨rfl, hb2⟩; rw [← HX.out]; have hq2 : w2.cell? ⟨w.heap.size, 0, none⟩ = some (.pointer (some ⟨b, o, none⟩)) := cell_later hb2 (HC.out.cell (.inl (by omega)) hq); have r0 : w2.cell? ⟨w.heap.size + 1, 0, none⟩ = some (.int .u64 0) := cell_later hb2 (HC.out.cell (.inl (by omega)) q0); have r1 : w2.cell? ⟨w.heap.size + 1, 1, none⟩ = some (.int .u32 0) := cell_later hb2 (HC.out.cell (.inl (by omega)) q1); have r2 : w2.cell? ⟨w.heap.size + 1, 2, none⟩ = some (.int .u32 0) := cell_later hb2 (HC.out.cell (.inl (by omega)) q2); have hf : ∀ i, w2.frozen? ⟨w.heap.size + 1, i, none⟩ = false := (HC.out.loose hwl hlo).later hb2 (Nat.lt_of_lt_of_le hwl HC.out.size); have hl2 : w.heap.size + 1 < w2.heap.size := Nat.lt_of_lt_of_le hwl (Nat.le_trans HC.out.size hb2.size); have HC2 : Hid (Cel b o 2 w w2) := ((Cel.of_below hba).trans HC.out).on hb2
 have HD2 : Hid (DecR w2 b o (s.drop 16) r) := HD.out.later hb2; clear hb2 q0 q1 q2 hlo hwl hq H HD HC; go_wp2_with fail
 obtain ⟨wy, hwy⟩ : ∃ wy, wy = (((w2.setCell ⟨w.heap.size + 1, 0, none⟩ (.int .u64 x.w)).setCell ⟨w.heap.size + 1, 1, none⟩ (.int .u32 x.l)).setCell ⟨w.heap.size + 1, 2, none⟩ (.int .u32 x.n)).alloc (.cells #[.int .u64 x.w, .int .u32 x.l, .int .u32 x.n] 36) := ⟨_, rfl⟩; rw [← hwy]; have C : Cel b o 2 w wy := by rw [hwy]; exact (((HC2.out.setNew (by omega) 0 _).setNew (by omega) 1 _).setNew (by omega) 2 _).al _
 have K : Cel (w.heap.size + 1) 0 3 w2 wy := by rw [hwy]; exact ((((Cel.refl _ _ _ _).set 0 (by omega) _).set 1 (by omega) _).set 2 (by omega) _).al _
 have hd := HD2.out.keep K (.inl (by omega)); have hq1 := K.cell (.inl (by omega)) hq2; have hls : (((w2.setCell ⟨w.heap.size + 1, 0, none⟩ (.int .u64 x.w)).setCell ⟨w.heap.size + 1, 1, none⟩ (.int .u32 x.l)).setCell ⟨w.heap.size + 1, 2, none⟩ (.int .u32 x.n)).heap.size = w2.heap.size := by simp [World.setCell]
 have c0 : wy.cell? ⟨w.heap.size + 1, 0, none⟩ = some (.int .u64 x.w) := by
  rw [hwy, World.cell?_alloc_past _ _ _ (by rw [hls]; exact hl2)]; exact cell_setc (by simp) (cell_setc (by simp) (World.cell?_setCell_same _ _ _ r0))
 have c1 : wy.cell? ⟨w.heap.size + 1, 1, none⟩ = some (.int .u32 x.l) := by
  rw [hwy, World.cell?_alloc_past _ _ _ (by rw [hls]; exact hl2)]; exact cell_setc (by simp) (World.cell?_setCell_same _ _ _ (cell_setc (by simp) r1))
 have c2 : wy.cell? ⟨w.heap.size + 1, 2, none⟩ = some (.int .u32 x.n) := by
  rw [hwy, World.cell?_alloc_past _ _ _ (by rw [hls]; exact hl2)]; exact World.cell?_setCell_same _ _ _ (cell_setc (by simp) (cell_setc (by simp) r2))
 refine leaves_cons (f := 148) (args := #[.pointer (some ⟨w.heap.size, 0, none⟩)]) (by simp) (by simp [go_sem]) ?_; refine (catch_stamp_idle hq1).mono ?_; rintro e u' w9 ⟨rfl, rfl, rfl⟩; refine ⟨stv x.w x.l x.n, by simp [results, Tryz.results75, go_sem, c0, c1, c2], rfl, C.drew, hd.drew⟩
theorem dstamp_bad {w : World} {b o : Nat} {s : List Nat} {r : Int} (h : DecR w b o s r) (hn : s.length < 16) :
  Calls Tryz.prog 75 #[.pointer (some ⟨b, o, none⟩)] w fun e w' => e = .returned (stv 0 0 0) ∧ Cel b o 2 w w' ∧ DecR w' b o [] (stopR r 30) := by
 have hmf : ∀ (fn : Fn) (first cap : Array Value) (w : World), (Instr.makeFunc fn first cap).run Tryz.prog w = .ok (.func fn first cap) w := fun _ _ _ _ => rfl
 obtain ⟨wa, hwa⟩ : ∃ wa, wa = (w.alloc (.cells #[.pointer (some ⟨b, o, none⟩)] 73)).alloc (.cells #[.int .u64 0, .int .u32 0, .int .u32 0] 36) := ⟨_, rfl⟩; have hba : Below w.heap.size w wa := by rw [hwa]; exact Below.al (Below.al (Below.refl _ _) _) _
 have H := hid (h.later hba); have hq : wa.cell? ⟨w.heap.size, 0, none⟩ = some (.pointer (some ⟨b, o, none⟩)) := by rw [hwa]; simp [go_sem]
 have hbl := h.lt; have HWA := hid hwa; clear h hwa; have q0 : wa.cell? ⟨w.heap.size + 1, 0, none⟩ = some (.int .u64 0) := by rw [HWA.out]; simp [go_sem]
 have q1 : wa.cell? ⟨w.heap.size + 1, 1, none⟩ = some (.int .u32 0) := by rw [HWA.out]; simp [go_sem]
 have q2 : wa.cell? ⟨w.heap.size + 1, 2, none⟩ = some (.int .u32 0) := by rw [HWA.out]; simp [go_sem]
 have HN := hid hn; clear hn; go_enter_defers Tryz.func75, Tryz.ntmps75
 go_wp2_with (rw [← HWA.out]; go_at_call 150; refine (take_bad (n := 16) H.out HN.out (by have := HN.out; omega)).mono ?_; rintro e w1 ⟨rfl, rfl⟩)
 have hq1 := hq; have hd := H.out; refine leaves_cons (f := 148) (args := #[.pointer (some ⟨w.heap.size, 0, none⟩)]) (by simp) (by simp [go_sem]) ?_; refine (catch_stamp_bad hq1 hd).mono ?_; rintro e u' w9 ⟨rfl, rfl, hc9, hd9⟩; have r0 := hc9.cell (.inl (by omega)) q0; have r1 := hc9.cell (.inl (by omega)) q1; have r2 := hc9.cell (.inl (by omega)) q2; refine ⟨stv 0 0 0, by simp [results, Tryz.results75, go_sem, r0, r1, r2], rfl, (Cel.of_below hba).trans hc9, hd9⟩
theorem dstamp_is {w : World} {b o : Nat} {x : Sm} {d d' : Ds} (h : DecAt w b o d) (hl : d.left.length ≤ 9223372036854775807) (hv : tStamp d = (x, d')) :
  Calls Tryz.prog 75 #[.pointer (some ⟨b, o, none⟩)] w fun e w' => e = .returned (stv x.w x.l x.n) ∧ Cel b o 2 w w' ∧ DecAt w' b o d' := by
 have hok := h.ok; cases d with
 | stop c =>
  have hc : c ≠ 0 := hok; simp only [tStamp] at hv; injection hv with h1 h2
  subst h1 h2; refine (dstamp_bad h.raw (show ([] : List Nat).length < 16 by decide)).mono ?_; rintro e w' ⟨h1, h2, h3⟩; have e1 : stopR (Ds.stop c).num 30 = c := if_neg hc; rw [e1] at h3; exact ⟨h1, h2, h3, hc⟩
 | «at» s =>
  by_cases hn : s.length < 16
  ·simp only [tStamp, hn, if_true] at hv; injection hv with h1 h2
   subst h1 h2; refine (dstamp_bad h.raw hn).mono ?_; rintro e w' ⟨h1, h2, h3⟩; exact ⟨h1, h2, h3, show (30 : Int) ≠ 0 by decide⟩
  ·simp only [tStamp, hn, if_false] at hv; injection hv with h1 h2
   subst h1 h2; refine (dstamp_ok h.raw (by show 16 ≤ s.length; omega) hl).mono ?_; rintro e w' ⟨h1, h2, h3⟩; exact ⟨h1, h2, h3, trivial⟩
end Go.Proofs.YtofpaldolcnmiaaGreat
