import Derived.Shelf.SlSortCmp.NoneTotal
import Derived.Ground.SlsfProg
import Derived.Test.YtofpaldolcnmiaaGreatProg
import Derived.Test.YtofpaldolcnmiaaGreatB23
set_option linter.unusedVariables false
set_option maxHeartbeats 4000000
namespace Go.Proofs
open Go.Shelf
def Tryz.sortH_ren : Go.Shelf.Ren := ⟨fun | 6 => 117 | 15 => 175 | 14 => 174 | 28 => 226 | 29 => 227 | 20 => 218 | 21 => 219 | 22 => 220 | 23 => 221 | 24 => 222 | 25 => 223 | 26 => 224 | 27 => 225 | 46 => 248 | 47 => 249 | 48 => 250 | 49 => 251 | 50 => 252 | 57 => 268 | n => n, fun | 22 => 58 | 24 => 100 | 25 => 176 | 3 => 3 | 39 => 142 | 0 => 0 | 53 => 22 | 55 => 31 | 4 => 4 | 46 => 258 | 45 => 257 | 50 => 262 | 5 => 5 | 9 => 9 | 66 => 282 | 70 => 285 | 76 => 296 | 77 => 297 | n => n, fun | n => n⟩
theorem Tryz.sortH : Go.Proofs.SlLaysF0.n6 Tryz.prog Tryz.sortH_ren := {
 mixed := by kernel_rfl
 f6 := ⟨Tryz.f117.name, by decide, Tryz.func117.trans (congrArg some (by kernel_rfl))⟩
 f14 := ⟨Tryz.f174.name, by decide, Tryz.func174.trans (congrArg some (by kernel_rfl))⟩
 f15 := Tryz.func175.trans (congrArg some (by kernel_rfl))
 f20 := ⟨Tryz.f218.name, by decide, Tryz.func218.trans (congrArg some (by kernel_rfl))⟩
 f21 := ⟨Tryz.f219.name, by decide, Tryz.func219.trans (congrArg some (by kernel_rfl))⟩
 f22 := ⟨Tryz.f220.name, by decide, Tryz.func220.trans (congrArg some (by kernel_rfl))⟩
 f23 := ⟨Tryz.f221.name, by decide, Tryz.func221.trans (congrArg some (by kernel_rfl))⟩
 f24 := ⟨Tryz.f222.name, by decide, Tryz.func222.trans (congrArg some (by kernel_rfl))⟩
 f25 := ⟨Tryz.f223.name, by decide, Tryz.func223.trans (congrArg some (by kernel_rfl))⟩
 f26 := ⟨Tryz.f224.name, by decide, Tryz.func224.trans (congrArg some (by kernel_rfl))⟩
 f27 := ⟨Tryz.f225.name, by decide, Tryz.func225.trans (congrArg some (by kernel_rfl))⟩
 f28 := Tryz.func226.trans (congrArg some (by kernel_rfl))
 f29 := Tryz.func227.trans (congrArg some (by kernel_rfl))
 f46 := ⟨Tryz.f248.name, by decide, Tryz.func248.trans (congrArg some (by kernel_rfl))⟩
 f47 := Tryz.func249.trans (congrArg some (by kernel_rfl))
 f48 := Tryz.func250.trans (congrArg some (by kernel_rfl))
 f49 := ⟨Tryz.f251.name, by decide, Tryz.func251.trans (congrArg some (by kernel_rfl))⟩
 f50 := ⟨Tryz.f252.name, by decide, Tryz.func252.trans (congrArg some (by kernel_rfl))⟩
 f57 := ⟨Tryz.f268.name, by decide, Tryz.func268.trans (congrArg some (by kernel_rfl))⟩
 t0 := Tryz.underlying0
 a0 := Tryz.isAgg0
 z0 := Tryz.sizeOf0
 v0 := Tryz.zeroValue0
 t3 := Tryz.underlying3
 a3 := Tryz.isAgg3
 z3 := Tryz.sizeOf3
 v3 := Tryz.zeroValue3
 t4 := Tryz.underlying4
 a4 := Tryz.isAgg4
 z4 := Tryz.sizeOf4
 v4 := Tryz.zeroValue4
 t5 := Tryz.underlying5
 a5 := Tryz.isAgg5
 z5 := Tryz.sizeOf5
 v5 := Tryz.zeroValue5
 t9 := Tryz.underlying9
 a9 := Tryz.isAgg9
 z9 := Tryz.sizeOf9
 v9 := Tryz.zeroValue9
 t22 := Tryz.underlying58
 a22 := Tryz.isAgg58
 z22 := Tryz.sizeOf58
 v22 := Tryz.zeroValue58
 t25 := Tryz.underlying176
 a25 := Tryz.isAgg176
 z25 := Tryz.sizeOf176
 v25 := Tryz.zeroValue176
 t39 := Tryz.underlying142
 a39 := Tryz.isAgg142
 z39 := Tryz.sizeOf142
 v39 := Tryz.zeroValue142
 t45 := Tryz.underlying257
 a45 := Tryz.isAgg257
 z45 := Tryz.sizeOf257
 v45 := Tryz.zeroValue257
 t46 := Tryz.underlying258
 a46 := Tryz.isAgg258
 z46 := Tryz.sizeOf258
 v46 := Tryz.zeroValue258
 t50 := Tryz.underlying262
 a50 := Tryz.isAgg262
 z50 := Tryz.sizeOf262
 v50 := Tryz.zeroValue262
 t53 := Tryz.underlying22
 a53 := Tryz.isAgg22
 z53 := Tryz.sizeOf22
 v53 := Tryz.zeroValue22
 t55 := Tryz.underlying31
 a55 := Tryz.isAgg31
 z55 := Tryz.sizeOf31
 v55 := Tryz.zeroValue31
 t66 := Tryz.underlying282
 a66 := Tryz.isAgg282
 z66 := Tryz.sizeOf282
 v66 := Tryz.zeroValue282
 t70 := Tryz.underlying285
 a70 := Tryz.isAgg285
 z70 := Tryz.sizeOf285
 v70 := Tryz.zeroValue285
 t76 := Tryz.underlying296
 a76 := Tryz.isAgg296
 z76 := Tryz.sizeOf296
 v76 := Tryz.zeroValue296
 t77 := Tryz.underlying297
 a77 := Tryz.isAgg297
 z77 := Tryz.sizeOf297
 v77 := Tryz.zeroValue297 }
def Tryz.sortE_ren : Go.Shelf.Ren := ⟨fun | 6 => 179 | 15 => 175 | 14 => 230 | 28 => 226 | 29 => 227 | 20 => 253 | 21 => 254 | 22 => 255 | 23 => 256 | 24 => 257 | 25 => 258 | 26 => 259 | 27 => 260 | 46 => 269 | 47 => 249 | 48 => 250 | 49 => 270 | 50 => 271 | 57 => 280 | n => n, fun | 22 => 61 | 24 => 104 | 25 => 182 | 3 => 3 | 39 => 142 | 0 => 0 | 53 => 22 | 55 => 31 | 4 => 4 | 46 => 258 | 45 => 257 | 50 => 262 | 5 => 5 | 9 => 9 | 66 => 282 | 70 => 285 | 76 => 296 | 77 => 297 | n => n, fun | n => n⟩
theorem Tryz.sortE : Go.Proofs.SlLaysF0.n6 Tryz.prog Tryz.sortE_ren := {
 mixed := by kernel_rfl
 f6 := ⟨Tryz.f179.name, by decide, Tryz.func179.trans (congrArg some (by kernel_rfl))⟩
 f14 := ⟨Tryz.f230.name, by decide, Tryz.func230.trans (congrArg some (by kernel_rfl))⟩
 f15 := Tryz.func175.trans (congrArg some (by kernel_rfl))
 f20 := ⟨Tryz.f253.name, by decide, Tryz.func253.trans (congrArg some (by kernel_rfl))⟩
 f21 := ⟨Tryz.f254.name, by decide, Tryz.func254.trans (congrArg some (by kernel_rfl))⟩
 f22 := ⟨Tryz.f255.name, by decide, Tryz.func255.trans (congrArg some (by kernel_rfl))⟩
 f23 := ⟨Tryz.f256.name, by decide, Tryz.func256.trans (congrArg some (by kernel_rfl))⟩
 f24 := ⟨Tryz.f257.name, by decide, Tryz.func257.trans (congrArg some (by kernel_rfl))⟩
 f25 := ⟨Tryz.f258.name, by decide, Tryz.func258.trans (congrArg some (by kernel_rfl))⟩
 f26 := ⟨Tryz.f259.name, by decide, Tryz.func259.trans (congrArg some (by kernel_rfl))⟩
 f27 := ⟨Tryz.f260.name, by decide, Tryz.func260.trans (congrArg some (by kernel_rfl))⟩
 f28 := Tryz.func226.trans (congrArg some (by kernel_rfl))
 f29 := Tryz.func227.trans (congrArg some (by kernel_rfl))
 f46 := ⟨Tryz.f269.name, by decide, Tryz.func269.trans (congrArg some (by kernel_rfl))⟩
 f47 := Tryz.func249.trans (congrArg some (by kernel_rfl))
 f48 := Tryz.func250.trans (congrArg some (by kernel_rfl))
 f49 := ⟨Tryz.f270.name, by decide, Tryz.func270.trans (congrArg some (by kernel_rfl))⟩
 f50 := ⟨Tryz.f271.name, by decide, Tryz.func271.trans (congrArg some (by kernel_rfl))⟩
 f57 := ⟨Tryz.f280.name, by decide, Tryz.func280.trans (congrArg some (by kernel_rfl))⟩
 t0 := Tryz.underlying0
 a0 := Tryz.isAgg0
 z0 := Tryz.sizeOf0
 v0 := Tryz.zeroValue0
 t3 := Tryz.underlying3
 a3 := Tryz.isAgg3
 z3 := Tryz.sizeOf3
 v3 := Tryz.zeroValue3
 t4 := Tryz.underlying4
 a4 := Tryz.isAgg4
 z4 := Tryz.sizeOf4
 v4 := Tryz.zeroValue4
 t5 := Tryz.underlying5
 a5 := Tryz.isAgg5
 z5 := Tryz.sizeOf5
 v5 := Tryz.zeroValue5
 t9 := Tryz.underlying9
 a9 := Tryz.isAgg9
 z9 := Tryz.sizeOf9
 v9 := Tryz.zeroValue9
 t22 := Tryz.underlying61
 a22 := Tryz.isAgg61
 z22 := Tryz.sizeOf61
 v22 := Tryz.zeroValue61
 t25 := Tryz.underlying182
 a25 := Tryz.isAgg182
 z25 := Tryz.sizeOf182
 v25 := Tryz.zeroValue182
 t39 := Tryz.underlying142
 a39 := Tryz.isAgg142
 z39 := Tryz.sizeOf142
 v39 := Tryz.zeroValue142
 t45 := Tryz.underlying257
 a45 := Tryz.isAgg257
 z45 := Tryz.sizeOf257
 v45 := Tryz.zeroValue257
 t46 := Tryz.underlying258
 a46 := Tryz.isAgg258
 z46 := Tryz.sizeOf258
 v46 := Tryz.zeroValue258
 t50 := Tryz.underlying262
 a50 := Tryz.isAgg262
 z50 := Tryz.sizeOf262
 v50 := Tryz.zeroValue262
 t53 := Tryz.underlying22
 a53 := Tryz.isAgg22
 z53 := Tryz.sizeOf22
 v53 := Tryz.zeroValue22
 t55 := Tryz.underlying31
 a55 := Tryz.isAgg31
 z55 := Tryz.sizeOf31
 v55 := Tryz.zeroValue31
 t66 := Tryz.underlying282
 a66 := Tryz.isAgg282
 z66 := Tryz.sizeOf282
 v66 := Tryz.zeroValue282
 t70 := Tryz.underlying285
 a70 := Tryz.isAgg285
 z70 := Tryz.sizeOf285
 v70 := Tryz.zeroValue285
 t76 := Tryz.underlying296
 a76 := Tryz.isAgg296
 z76 := Tryz.sizeOf296
 v76 := Tryz.zeroValue296
 t77 := Tryz.underlying297
 a77 := Tryz.isAgg297
 z77 := Tryz.sizeOf297
 v77 := Tryz.zeroValue297 }
end Go.Proofs
namespace Go.Proofs.YtofpaldolcnmiaaGreat.Lg
open Go.RowKit Go.Sort Go.Shelf Go.Lib Lk
def Grew (w w' : World) : Prop := ∃ q os, w' = grow (w.drewN q) os
theorem Grew.refl (w : World) : Grew w w := ⟨0, #[], by rw [grow_empty]; rfl⟩
theorem Grew.al {w w' : World} (h : Grew w w') (o : Obj) : Grew w (w'.alloc o) := by
 obtain ⟨q, os, rfl⟩ := h; exact ⟨q, os ++ #[o], by rw [alloc_eq_grow, grow_grow]⟩
theorem Grew.drew {w w' : World} (h : Grew w w') : Grew w w'.drew := by
 obtain ⟨q, os, rfl⟩ := h; exact ⟨q + 1, os, rfl⟩
theorem Grew.trans {a b c : World} (h : Grew a b) (k : Grew b c) : Grew a c := by
 obtain ⟨q, os, rfl⟩ := h; obtain ⟨r, ps, rfl⟩ := k; refine ⟨q + r, os ++ ps, ?_⟩; rw [← grow_grow]; congr 1
 simp [grow, World.drewN, Nat.add_assoc]
def cmpZ (a b : Int) : Int := if a < b then -1 else if b < a then 1 else 0
def cmpT (i j : Ix) : Int := if cmpZ i.1 j.1 = 0 then cmpZ i.2 j.2 else cmpZ i.1 j.1
theorem nan_is (a : Int) (w : World) : Calls Tryz.prog 228 #[.int .u32 a] w fun e w' => e = .returned (.bool false) ∧ w' = w := by
 go_enter Tryz.func228, Tryz.ntmps228
 go_wp2_with fail
 go_ret
 exact ⟨by simp, rfl⟩
theorem cmpU_is (a b : Int) (w : World) : Calls Tryz.prog 177 #[.int .u32 a, .int .u32 b] w fun e w' => e = .returned (.int .i64 (cmpZ a b)) ∧ w' = w := by
 have N := hid (fun x W => nan_is x W); by_cases h1 : a < b
 ·have e : cmpZ a b = -1 := by simp [cmpZ, h1]
  rw [e]; clear e; go_enter Tryz.func177, Tryz.ntmps177
  go_wp2_with (go_at_call 228; refine (N.out _ _).mono ?_; rintro e w1 ⟨rfl, rfl⟩)
  go_ret
  exact ⟨rfl, rfl⟩
 ·by_cases h2 : b < a
  ·have e : cmpZ a b = 1 := by simp [cmpZ, h1, h2]
   rw [e]; clear e; go_enter Tryz.func177, Tryz.ntmps177
   go_wp2_with (go_at_call 228; refine (N.out _ _).mono ?_; rintro e w1 ⟨rfl, rfl⟩)
   go_ret
   exact ⟨rfl, rfl⟩
  ·have e : cmpZ a b = 0 := by simp [cmpZ, h1, h2]
   rw [e]; clear e; go_enter Tryz.func177, Tryz.ntmps177
   go_wp2_with (go_at_call 228; refine (N.out _ _).mono ?_; rintro e w1 ⟨rfl, rfl⟩)
   go_ret
   exact ⟨rfl, rfl⟩
theorem or_is {x y r : Int} {g : Nat} {w : World} (hr : r = if x = 0 then y else x) (h0 : w.cell? ⟨g, 0, none⟩ = some (.int .i64 x)) (h1 : w.cell? ⟨g, 1, none⟩ = some (.int .i64 y)) :
  Calls Tryz.prog 176 #[.slice (some ⟨g, 0, none⟩) 2 2] w fun e w' => e = .returned (.int .i64 r) ∧ w' = w := by
 have HR := hid hr; clear hr; go_enter Tryz.func176, Tryz.ntmps176
 go_wp2_with fail
 go_loopg [8] 2 (fun k s8 wr => wr = w ∧ ((k = 2 ∧ s8 = .int .i64 0) ∨ (k = 1 ∧ s8 = .int .i64 1 ∧ x = 0) ∨ (k = 0 ∧ s8 = .int .i64 2 ∧ x = 0 ∧ y = 0)))
 case atStart => exact ⟨rfl, .inl ⟨rfl, rfl⟩⟩
 case round =>
  obtain ⟨rfl, ⟨rfl, rfl⟩ | ⟨rfl, rfl, rfl⟩ | ⟨rfl, rfl, rfl, rfl⟩⟩ := hrel
  ·by_cases hx : x = 0
   ·subst hx; go_wp2_with fail
    go_roundg 1
    case measure => omega
    case rel => exact ⟨rfl, .inr (.inl ⟨rfl, by go_num, by simp⟩)⟩
   ·have hx' : (x != 0) = true := by simpa using hx
    have e : r = x := by rw [HR.out, if_neg hx]
    subst e; go_wp2_with fail
    go_ret
    exact ⟨rfl, rfl⟩
  ·by_cases hy : y = 0
   ·subst hy; go_wp2_with fail
    go_roundg 0
    case measure => omega
    case rel => exact ⟨rfl, .inr (.inr ⟨rfl, by go_num, by simp, by simp⟩)⟩
   ·have hy' : (y != 0) = true := by simpa using hy
    have e : r = y := by rw [HR.out]; simp
    subst e; go_wp2_with fail
    go_ret
    exact ⟨rfl, rfl⟩
  ·have e : r = 0 := by rw [HR.out]; simp
   subst e; go_wp2_with fail
   go_ret
   exact ⟨rfl, rfl⟩
theorem byID_is (i j : Ix) (w : World) : Calls Tryz.prog 181 #[ixv i, ixv j] w fun e w' => e = .returned (.int .i64 (cmpT i j)) ∧ ∃ q os, w' = grow (w.drewN q) os := by
 obtain ⟨ic, is⟩ := i; obtain ⟨jc, js⟩ := j; obtain ⟨r, hr⟩ : ∃ r, r = if cmpZ ic jc = 0 then cmpZ is js else cmpZ ic jc := ⟨_, rfl⟩
 rw [show cmpT ⟨ic, is⟩ ⟨jc, js⟩ = r from hr.symm]; have HR := hid hr; clear hr; obtain ⟨wb, hwb⟩ : ∃ wb, wb = (w.alloc (.cells #[.int .u32 ic, .int .u32 is] 33)).alloc (.cells #[.int .u32 jc, .int .u32 js] 33) := ⟨_, rfl⟩; have a0 : wb.cell? ⟨w.heap.size, 0, none⟩ = some (.int .u32 ic) := by rw [hwb]; simp [go_sem]
 have a1 : wb.cell? ⟨w.heap.size, 1, none⟩ = some (.int .u32 is) := by rw [hwb]; simp [go_sem]
 have b0 : wb.cell? ⟨w.heap.size + 1, 0, none⟩ = some (.int .u32 jc) := by rw [hwb]; simp [go_sem]
 have b1 : wb.cell? ⟨w.heap.size + 1, 1, none⟩ = some (.int .u32 js) := by rw [hwb]; simp [go_sem]
 have HG : Hid (Grew w wb) := by show Grew _ _; rw [hwb]; exact ((Grew.refl w).al _).al _
 go_enter Tryz.func181, Tryz.ntmps181
 go_wp2_with fail
 rw [← hwb]; clear hwb; go_region_held3 (fun w' => w'.cell? ⟨w.heap.size, 0, none⟩ = some (.int .u32 ic) ∧ w'.cell? ⟨w.heap.size, 1, none⟩ = some (.int .u32 is) ∧ w'.cell? ⟨w.heap.size + 1, 0, none⟩ = some (.int .u32 jc) ∧ w'.cell? ⟨w.heap.size + 1, 1, none⟩ = some (.int .u32 js) ∧ Below wb.heap.size wb w')
  ((refine (fun (hB : Below wb.heap.size wb _) => ⟨cell_later hB a0, cell_later hB a1, cell_later hB b0, cell_later hB b1, hB⟩) ?_; (repeat (first | exact Below.refl _ _ | assumption | refine Below.drew ?_ | refine Below.al ?_ _ | refine Below.setCell ?_ (by first | exact Nat.le_refl _ | simp <;> omega) _ | refine Below.on ?_ (by assumption)))))
  (first
   | (go_at_call 177; refine (cmpU_is _ _ _).mono ?_; rintro e w1 ⟨rfl, rfl⟩)
   | (go_at_call 176; refine (or_is HR.out (by simp [go_sem]) (by simp [go_sem])).mono ?_; rintro e w1 ⟨rfl, rfl⟩))
 all_goals (try go_wp2_with fail)
 go_ret
 exact ⟨rfl, (HG.out.al _).drew⟩
theorem byTxn_is (v u : En) (w : World) : Calls Tryz.prog 122 #[.agg #[.int .u32 v.id.1, .int .u32 v.id.2, .int .u32 v.home, .int .i64 v.oc, .int .u64 v.w, .int .u32 v.l, .int .u32 v.n], .agg #[.int .u32 u.id.1, .int .u32 u.id.2, .int .u32 u.home, .int .i64 u.oc, .int .u64 u.w, .int .u32 u.l, .int .u32 u.n]] w fun e w' => e = .returned (.int .i64 (cmpT v.id u.id)) ∧ ∃ q os, w' = grow (w.drewN q) os := by
 obtain ⟨r, hr⟩ : ∃ r, cmpT v.id u.id = r := ⟨_, rfl⟩; rw [hr]; have B : Hid (∀ W, Calls Tryz.prog 181 #[.agg #[.int .u32 v.id.1, .int .u32 v.id.2], .agg #[.int .u32 u.id.1, .int .u32 u.id.2]] W fun e w' => e = .returned (.int .i64 r) ∧ ∃ q os, w' = grow (W.drewN q) os) := fun W => by rw [← hr]; exact byID_is _ _ W
 clear hr; go_enter Tryz.func122, Tryz.ntmps122
 go_wp2_with (go_at_call 181; refine (B.out _).mono ?_; rintro e w1 ⟨rfl, q, os, rfl⟩)
 go_ret
 exact ⟨rfl, (((Grew.refl w).al _).al _).trans ⟨q, os, rfl⟩⟩
def ltI (i j : Ix) : Bool := decide (i.1 < j.1) || (decide (i.1 = j.1) && decide (i.2 < j.2))
theorem cmp_lt (i j : Ix) : decide (cmpT i j < 0) = ltI i j := by
 unfold cmpT cmpZ ltI; rcases Int.lt_trichotomy i.1 j.1 with h | h | h
 ·have h1 : i.1 < j.1 := h; simp [h1]
 ·rw [h]; rcases Int.lt_trichotomy i.2 j.2 with k | k | k
  ·simp [k]
  ·simp [k]
  ·have k1 : ¬ i.2 < j.2 := by omega
   simp [k, k1]
 ·have h1 : ¬ i.1 < j.1 := by omega
  have h2 : ¬ i.1 = j.1 := by omega
  simp [h, h1, h2]
section
variable {α : Type} {enc : α → List Value} {k : Nat}
theorem fm_len (hk : ∀ x, (enc x).length = k) : ∀ xs : List α, (xs.flatMap enc).length = xs.length * k
 | [] => by simp
 | x :: xs => by rw [List.flatMap_cons, List.length_append, hk, fm_len hk xs, List.length_cons, Nat.add_mul, Nat.one_mul, Nat.add_comm]
variable [Inhabited α]
theorem fm_get (hk : ∀ x, (enc x).length = k) : ∀ (xs : List α) (i o : Nat), i < xs.length → o < k → (xs.flatMap enc)[i * k + o]? = (enc xs[i]!)[o]?
 | x :: xs, 0, o, _, ho => by
  rw [List.flatMap_cons, List.getElem?_append_left (by rw [hk]; omega)]; simp
 | x :: xs, i + 1, o, hi, ho => by
  have ih := fm_get hk xs i o (by simpa using hi) ho; rw [List.flatMap_cons, List.getElem?_append_right (by rw [hk, Nat.add_mul]; omega), show (i + 1) * k + o - (enc x).length = i * k + o by rw [hk, Nat.add_mul]; omega, ih]; simp
theorem flatK_fm (hk : ∀ x, (enc x).length = k) (h0 : 0 < k) (xs : List α) : (flatK enc k xs.toArray).toList = xs.flatMap enc := by
 apply List.ext_getElem?
 intro j; rw [Array.getElem?_toList]; by_cases hj : j < xs.length * k
 ·have hi : j / k < xs.length := Nat.div_lt_of_lt_mul (by rw [Nat.mul_comm]; exact hj); have ho : j % k < k := Nat.mod_lt _ h0; have h := fm_get hk xs (j / k) (j % k) hi ho; rw [show j / k * k + j % k = j by rw [Nat.mul_comm]; exact Nat.div_add_mod j k] at h; have ho' : j % k < (enc xs[j / k]!).length := by rw [hk]; exact ho
  have hsz : j < (flatK enc k xs.toArray).size := by rw [size_flatK]; simpa using hj
  rw [h, List.getElem?_eq_getElem ho', Array.getElem?_eq_getElem hsz]; have := get_flatK enc k xs.toArray j (by simpa using hj); rw [getElem!_pos _ j hsz] at this; rw [this]; simp only [List.getElem!_toArray]; rw [getElem!_pos (enc xs[j / k]!) (j % k) ho']
 ·have e1 : (flatK enc k xs.toArray)[j]? = none := Array.getElem?_eq_none (by rw [size_flatK]; simpa using hj); have e2 : (xs.flatMap enc)[j]? = none := List.getElem?_eq_none (by rw [fm_len hk]; omega); rw [e1, e2]
variable {T : TypeId} {w : World} {B g n c : Nat} {xs ys : List α}
theorem holds_row (hk : ∀ x, (enc x).length = k) (h0 : 0 < k) (h : w.ownsRow B T k (.slice (some ⟨g, 0, none⟩) n c) n (xs.flatMap enc)) : HoldsK enc k w g 0 xs.toArray := by
 obtain ⟨hl, ⟨e1, _⟩ | ⟨g', cap, cur, e1, hB, hh, h1, h2, h3, h4⟩⟩ := h
 ·cases e1
 ·injection e1 with e1
  injection e1 with e1
  injection e1 with e1
  subst e1; intro j hj; rw [size_flatK] at hj; have hj' : j < xs.length * k := by simpa using hj
  have hv : (flatK enc k xs.toArray)[j]? = (xs.flatMap enc)[j]? := by rw [← Array.getElem?_toList, flatK_fm hk h0]
  have hlt : j < (xs.flatMap enc).length := by rw [fm_len hk]; exact hj'
  have hsz : j < (flatK enc k xs.toArray).size := by rw [size_flatK]; exact hj
  have hc : cur[j]? = (flatK enc k xs.toArray)[j]? := by
   rw [hv, ← h4, List.getElem?_take]; rw [if_pos (by rw [← hl]; exact hlt)]; simp
  constructor
  ·rw [Nat.zero_add]; refine cob hh ?_; rw [hc, getElem!_pos _ j hsz, Array.getElem?_eq_getElem hsz]; rfl
  ·simp [World.frozen?, hh]
theorem sorted_row (hk : ∀ x, (enc x).length = k) (h0 : 0 < k) (h : w.ownsRow B T k (.slice (some ⟨g, 0, none⟩) n c) n (xs.flatMap enc)) (hy : ys.length = xs.length) (m : Nat) (os : Array Obj) :
  (sortWorldK enc k w g 0 m ys.toArray os).ownsRow B T k (.slice (some ⟨g, 0, none⟩) n c) n (ys.flatMap enc) ∧ Onl (fun b => b = g) w (sortWorldK enc k w g 0 m ys.toArray os) := by
 obtain ⟨hl, ⟨e1, _⟩ | ⟨g', cap, cur, e1, hB, hh, h1, h2, h3, h4⟩⟩ := h
 ·cases e1
 ·injection e1 with e1 e2 e3
  injection e1 with e1
  injection e1 with e1
  subst e1 e3; have hlt : g < w.heap.size := (Array.getElem?_eq_some_iff.1 hh).1; have hly : (ys.flatMap enc).length = n * k := by rw [fm_len hk, hy, ← fm_len hk, hl]
  constructor
  ·refine ⟨hly, .inr ⟨g, c, putCells id 0 (flatK enc k ys.toArray) cur, rfl, hB, ?_, h1, h2, ?_, ?_⟩⟩
   ·unfold sortWorldK grow putRowK putRow mapBlock Sort.ahead; simp only; rw [Array.getElem?_append_left (by simpa using hlt), Array.getElem?_modify, if_pos rfl, hh]; rfl
   ·simp [putCells, h3]
   ·apply List.ext_getElem?
    intro j; rw [List.getElem?_take, ← flatK_fm hk h0, Array.getElem?_toList, Array.getElem?_toList]; have hs : (flatK enc k ys.toArray).size = n * k := by rw [size_flatK]; simpa [fm_len hk] using hly
    by_cases hj : j < n * k
    ·have hjc : j < cur.size := by rw [h3]; exact Nat.lt_of_lt_of_le hj (Nat.mul_le_mul_right _ h1)
     have hjf : j < (flatK enc k ys.toArray).size := by rw [hs]; exact hj
     rw [if_pos hj]; simp only [putCells, Array.getElem?_mapIdx, Array.getElem?_eq_getElem hjc, Option.map_some, Array.getElem?_eq_getElem hjf]; simp [hs, hj]
    ·rw [if_neg hj, Array.getElem?_eq_none (by rw [hs]; omega)]
  ·refine ⟨rfl, rfl, rfl, by simp [sortWorldK, grow, putRowK, putRow, mapBlock, Sort.ahead], fun b hb hne => ?_⟩; unfold sortWorldK grow putRowK putRow mapBlock Sort.ahead; simp only; rw [Array.getElem?_append_left (by simpa using hb), Array.getElem?_modify, if_neg (fun e => hne e.symm)]
theorem perm_of {d d' : Array α} (h : PermIn 0 d.size d d') : d'.toList.Perm d.toList := by
 obtain ⟨h1, _, h2⟩ := h; have e1 : d'.extract 0 d.size = d' := by rw [← h1]; simp
 have e2 : d.extract 0 d.size = d := by simp
 rwa [e1, e2] at h2
theorem sorted_of {lt : α → α → Bool} {d : Array α} (h : SortedIn lt 0 d.size d) : d.toList.Pairwise (fun x y => lt y x = false) := by
 rw [List.pairwise_iff_getElem]; intro i j hi hj hij; have := h i j (Nat.zero_le _) hij (by simpa using hj); rwa [getElem!_pos _ j (by simpa using hj), getElem!_pos _ i (by simpa using hi)] at this
end
theorem own_cells {w : World} {B n size : Nat} {e : TypeId} {a : Option Addr} {c : Nat} {xs : List Value} (h : w.ownsRow B e size (.slice a n c) n xs) (hn : 0 < n) : ∃ g, a = some ⟨g, 0, none⟩ ∧ B ≤ g ∧ ∀ j v, xs[j]? = some v → w.cell? ⟨g, j, none⟩ = some v := by
 obtain ⟨hl, ⟨e1, rfl⟩ | ⟨g, cap, cur, e1, hB, hh, h1, h2, h3, h4⟩⟩ := h
 ·omega
 ·injection e1 with e1 _ _
  subst e1; refine ⟨g, rfl, hB, fun j v hj => cob hh ?_⟩; rw [← h4] at hj; rw [List.getElem?_take] at hj; split at hj
  ·simpa using hj
  ·cases hj
theorem info_of {P : Program} {t : TypeId} {z : Value} {n m : Nat} (h : (P.info? t).map (fun i => (i.zero, i.size, i.bytes)) = some (some z, n, m)) : ∃ i, P.info? t = some i ∧ i.zero = some z ∧ i.size = n ∧ i.bytes = m := by
 cases hi : P.info? t with
 | none => rw [hi] at h; cases h
 | some i =>
  rw [hi] at h; simp only [Option.map_some, Option.some.injEq, Prod.mk.injEq] at h; exact ⟨i, rfl, h.1, h.2.1, h.2.2⟩
theorem owb {w : World} {B B' size n : Nat} {e : TypeId} {v : Value} {xs : List Value} (h : w.ownsRow B e size v n xs) (hb : B' ≤ B) : w.ownsRow B' e size v n xs := by
 obtain ⟨h1, h2 | ⟨g, cap, cur, e1, hB, hh⟩⟩ := h
 ·exact ⟨h1, .inl h2⟩
 ·exact ⟨h1, .inr ⟨g, cap, cur, e1, Nat.le_trans hb hB, hh⟩⟩
theorem own_type {w : World} {B n size : Nat} {e : TypeId} {v : Value} {xs : List Value} (h : w.ownsRow B e size v n xs) {g : Nat} (hg : v.ownBlock = some g) : ∃ cur, w.heap[g]? = some (.cells cur e (0, 0)) := by
 obtain ⟨_, ⟨e1, _⟩ | ⟨g', cap, cur, e1, _, hh, _⟩⟩ := h
 ·subst e1; simp [Value.ownBlock] at hg
 ·subst e1; simp [Value.ownBlock] at hg; subst hg; exact ⟨cur, hh⟩
theorem ecs_len (v : En) : (ecs v).length = 7 := rfl
theorem ecs_one (v : En) : ∀ x ∈ ecs v, x.oneCell' = true := by
 intro x hx; simp [ecs] at hx; rcases hx with rfl | rfl | rfl | rfl | rfl | rfl | rfl <;> rfl
def OwnL (B : Nat) (w : World) (v : Value) (n : Nat) (U : List En) : Prop := w.ownsRow B 104 7 v n (U.flatMap ecs)
theorem infoEn : (Tryz.prog.info? 104).map (fun i => (i.zero, i.size, i.bytes)) = some (some (En.val En.zero), 7, 40) := by kernel_rfl
end Go.Proofs.YtofpaldolcnmiaaGreat.Lg
namespace Go.Proofs.YtofpaldolcnmiaaGreat.Ig
open Go.RowKit Go.Sort Ys
def rgE (e : Lg.En) : Rg := ⟨3, 0, e.id.1, e.id.2, e.home, e.oc, e.w, e.l, e.n, none, [], 0, none, [], 0, ⟨#[]⟩⟩
def feB (s : Ps) (e : Lg.En) : Bool := decide ((rgE e).err = 0) && (!(Lg.outM s.E e.id).isSome && !(e.oc == 1 && !decide (e.w < s.ceil)))
def feS : Ps → List Lg.En → Option Ps
 | s, [] => some s
 | s, e :: l => if feB s e then feS (layS s e) l else none
structure EnR (e : Lg.En) : Prop where
 s : 0 ≤ e.id.2
 w : 0 ≤ e.w ∧ e.w ≤ 18446744073709551615
theorem rgE_ok {e : Lg.En} (h : EnR e) (W : World) : (rgE e).ok W := ⟨fun i hi => (by cases hi), fun i hi => (by cases hi), Nat.zero_le _, Nat.zero_le _, h.s, h.w.1, h.w.2⟩
theorem fillEntries_is {F : Nat → Prop} {w : World} {p : Nat} {m1 m2 m : Option Nat} {V : List Lk.Hv} {I : Lk.It} {s : Ps} {a : Option Addr} {c : Nat} {l : List Lg.En} (T : Ys.St F w p m1 m2 m V I s) (h : RowG Lg.ecs 7 w a l) (ha : ∀ b off, a = some ⟨b, off, none⟩ → ¬ Lg.ItsL p m b) (hl : l.length ≤ 1099511627776) (hr : ∀ e ∈ l, EnR e) :
  Calls Tryz.prog 83 #[cp p, .slice a l.length c] w fun e w' => e = .returned (.bool (feS s l).isSome) ∧ Hid (∀ s', feS s l = some s' → ∃ m', Ys.St F w' p m1 m2 m' V I s' ∧ ∀ b, m' = some b → m = some b ∨ w.heap.size ≤ b) ∧ Hid (Onl (Lg.ItsL p m) w w') := by
 obtain ⟨n, hn⟩ : ∃ n, n = l.length := ⟨_, rfl⟩; rw [← hn] at hl ⊢; have HN := hid hn; have HT := hid T; have HR := hid h; have HA := hid ha; have HRE := hid hr; clear T h ha hr hn; go_enter Tryz.func83, Tryz.ntmps83
 go_wp2_with fail
 go_loopg [10] n (fun g s10 wr => ∃ i : Nat, i ≤ n ∧ g = n - i ∧ s10 = .int .i64 (i : Int) ∧ ∃ (sk : Ps) (mk : Option Nat), Hid (Ys.St F wr p m1 m2 mk V I sk) ∧ Hid (feS s l = feS sk (l.drop i)) ∧ Hid (Onl (Lg.ItsL p m) w wr) ∧ Hid (∀ b, mk = some b → m = some b ∨ w.heap.size ≤ b))
 case atStart => exact ⟨0, by omega, by omega, rfl, s, m, HT, hid (by simp), Onl.refl _ _, fun b e => .inl e⟩
 case round =>
  obtain ⟨i, hin, rfl, rfl, sk, mk, HS, HF, HO, HM⟩ := hrel; by_cases hlt : i < n
  ·obtain ⟨e, hx⟩ : ∃ x, l[i]? = some x := ⟨_, List.getElem?_eq_getElem (by rw [← HN.out]; exact hlt)⟩; obtain ⟨q, off, hq, hc⟩ := (HR.out.onl HO.out HA.out) i e hx; subst hq; have c0 := hc 0 _ rfl; have c1 := hc 1 _ rfl; have c2 := hc 2 _ rfl; have c3 := hc 3 _ rfl; have c4 := hc 4 _ rfl; have c5 := hc 5 _ rfl; have c6 := hc 6 _ rfl; simp only [Nat.add_zero] at c0; have hem : e ∈ l := List.mem_of_getElem? hx; have hdr : l.drop i = e :: l.drop (i + 1) := by
    obtain ⟨h1, h2⟩ := List.getElem?_eq_some_iff.1 hx; rw [List.drop_eq_getElem_cons h1, h2]
   have HF2 : Hid (feS s l = if feB sk e then feS (layS sk e) (l.drop (i + 1)) else none) := by
    have := HF.out; rw [hdr] at this; exact this
   obtain ⟨er, her⟩ : ∃ er, (rgE e).err = er := ⟨_, rfl⟩; obtain ⟨u1, hu1⟩ : ∃ u, (Lg.outM sk.E e.id).isSome = u := ⟨_, rfl⟩; obtain ⟨u2, hu2⟩ : ∃ u, decide (e.w < sk.ceil) = u := ⟨_, rfl⟩; have VD : Hid (∀ W, Calls Tryz.prog 30 #[.agg #[.int .i64 3, .int .u64 0, .int .u32 e.id.1, .int .u32 e.id.2, .int .u32 e.home, .int .i64 e.oc, .int .u64 e.w, .int .u32 e.l, .int .u32 e.n, .slice none 0 0, .slice none 0 0, .string ⟨#[]⟩]] W fun r w' => r = .returned (.int .i64 er) ∧ Below W.heap.size W w') := fun W => by rw [← her]; exact walvalid_is W (rgE e) (rgE_ok (HRE.out e hem) W)
   have DC : Hid (∀ W, Below wr.heap.size wr W → Calls Tryz.prog 67 #[cp p, .agg #[.int .u32 e.id.1, .int .u32 e.id.2]] W fun r w' => r = .returned (.bool u1) ∧ Below W.heap.size W w') := fun W hb => by rw [← hu1]; exact decided_is (HS.out.later hb) e.id
   have RS : Hid (∀ W, Below wr.heap.size wr W → Calls Tryz.prog 133 #[cp p, .agg #[.int .u64 e.w, .int .u32 e.l, .int .u32 e.n]] W fun r w' => r = .returned (.bool u2) ∧ Below W.heap.size W w') := fun W hb => reserved_is (HS.out.later hb) ⟨e.w, e.l, e.n⟩ hu2
   have HFB : Hid (feB sk e = (decide (er = 0) && (!u1 && !(e.oc == 1 && !u2)))) := by show feB _ _ = _; unfold feB; rw [her, hu1, hu2]
   have LY : Hid (∀ W, Below wr.heap.size wr W → Calls Tryz.prog 138 #[cp p, .agg #[.int .u32 e.id.1, .int .u32 e.id.2, .int .u32 e.home, .int .i64 e.oc, .int .u64 e.w, .int .u32 e.l, .int .u32 e.n]] W fun r w' => r = .returned (.tuple #[]) ∧ ∃ m', Ys.St F w' p m1 m2 m' V I (layS sk e) ∧ (m' = mk ∨ ∃ b, m' = some b ∧ W.heap.size ≤ b) ∧ Onl (Lg.ItsL p mk) W w') := fun W hb => lay_is (HS.out.later hb) e
   have hzb : ∀ W, Below wr.heap.size wr W → Hid (Onl (Lg.ItsL p m) w W) := fun W hb => hid (HO.out.on hb)
   have HZB := hid hzb; clear hc hx hdr her hu1 hu2 hem hzb; obtain ⟨wa, hwa⟩ : ∃ wa, wa = (wr.alloc (.cells #[.int .u32 e.id.1, .int .u32 e.id.2, .int .u32 e.home, .int .i64 e.oc, .int .u64 e.w, .int .u32 e.l, .int .u32 e.n] 104)).alloc (.cells #[.int .i64 3, .int .u64 0, .int .u32 e.id.1, .int .u32 e.id.2, .int .u32 e.home, .int .i64 e.oc, .int .u64 e.w, .int .u32 e.l, .int .u32 e.n, .slice none 0 0, .slice none 0 0, .string ⟨#[]⟩] 40) := ⟨_, rfl⟩; have hba : Below wr.heap.size wr wa := by rw [hwa]; exact Below.al (Below.al (Below.refl _ _) _) _
   have hsa : wr.heap.size < wa.heap.size := by rw [hwa]; simp; omega
   have HKA : Hid (wa.heap[wr.heap.size]? = some (.cells #[.int .u32 e.id.1, .int .u32 e.id.2, .int .u32 e.home, .int .i64 e.oc, .int .u64 e.w, .int .u32 e.l, .int .u32 e.n] 104 (0, 0))) := by
    show _ = _
    rw [hwa, (Below.al (Below.refl _ _) _).block _ (by simp)]; exact World.alloc_heap_new _ _
   have HBA := hid hba; clear hba; go_wp2_with fail
   rw [← hwa]; clear hwa c0 c1 c2 c3 c4 c5 c6; refine (VD.out _).mono ?_; rintro r w2 ⟨rfl, hb2⟩; have HB2 : Hid (Below wr.heap.size wr w2) := Below.on HBA.out hb2; have K2 := hid ((hb2.block _ hsa).trans HKA.out); have hs2 : wr.heap.size < w2.heap.size := Nat.lt_of_lt_of_le hsa hb2.size; clear hb2 HKA HBA VD hsa; have y0 := Vs.cob (o := 0) K2.out rfl; have y1 := Vs.cob (o := 1) K2.out rfl; have y3 := Vs.cob (o := 3) K2.out rfl; by_cases he0 : er = 0
   ·subst he0; cases u1 with
    | true =>
     go_wp2_with (go_at_call 67; refine (DC.out _ HB2.out).mono ?_; rintro r w3 ⟨rfl, hb3⟩)
     go_ret
     have hf : feS s l = none := by rw [HF2.out, HFB.out]; rfl
     refine ⟨by rw [hf]; rfl, fun s' h9 => (by rw [hf] at h9; cases h9), ?_⟩; exact HZB.out _ (Below.on HB2.out hb3)
    | false =>
     by_cases ho : e.oc = 1
     ·have ho1 : (e.oc == 1) = true := by simpa using ho
      clear ho; cases u2 with
      | false =>
       go_wp2_with (first
        | (go_at_call 67; refine (DC.out _ HB2.out).mono ?_; rintro r w3 ⟨rfl, hb3⟩; have HB3 := hid (Below.on HB2.out hb3); have k3 := (hb3.block _ hs2).trans K2.out; have K3 := hid k3; have hs3 := Nat.lt_of_lt_of_le hs2 hb3.size; have y0 := Vs.cob (o := 0) k3 rfl; have y1 := Vs.cob (o := 1) k3 rfl; have y2 := Vs.cob (o := 2) k3 rfl; have y3 := Vs.cob (o := 3) k3 rfl; have y4 := Vs.cob (o := 4) k3 rfl; have y5 := Vs.cob (o := 5) k3 rfl; have y6 := Vs.cob (o := 6) k3 rfl; clear k3 hb3)
        | (go_at_call 133; refine (RS.out _ HB3.out).mono ?_; rintro r w4 ⟨rfl, hb4⟩; have HB4 := hid (Below.on HB3.out hb4); have k4 := (hb4.block _ hs3).trans K3.out; have y0 := Vs.cob (o := 0) k4 rfl; have y1 := Vs.cob (o := 1) k4 rfl; have y2 := Vs.cob (o := 2) k4 rfl; have y3 := Vs.cob (o := 3) k4 rfl; have y4 := Vs.cob (o := 4) k4 rfl; have y5 := Vs.cob (o := 5) k4 rfl; have y6 := Vs.cob (o := 6) k4 rfl; clear k4 hb4))
       go_ret
       have hf : feS s l = none := by rw [HF2.out, HFB.out, ho1]; rfl
       refine ⟨by rw [hf]; rfl, fun s' h9 => (by rw [hf] at h9; cases h9), ?_⟩; exact HZB.out _ HB4.out
      | true =>
       have hfb : (decide ((0 : Int) = 0) && (!false && !(e.oc == 1 && !true))) = true := by simp
       go_wp2_with (first
        | (go_at_call 67; refine (DC.out _ HB2.out).mono ?_; rintro r w3 ⟨rfl, hb3⟩; have HB3 := hid (Below.on HB2.out hb3); have k3 := (hb3.block _ hs2).trans K2.out; have K3 := hid k3; have hs3 := Nat.lt_of_lt_of_le hs2 hb3.size; have y0 := Vs.cob (o := 0) k3 rfl; have y1 := Vs.cob (o := 1) k3 rfl; have y2 := Vs.cob (o := 2) k3 rfl; have y3 := Vs.cob (o := 3) k3 rfl; have y4 := Vs.cob (o := 4) k3 rfl; have y5 := Vs.cob (o := 5) k3 rfl; have y6 := Vs.cob (o := 6) k3 rfl; clear k3 hb3)
        | (go_at_call 133; refine (RS.out _ HB3.out).mono ?_; rintro r w4 ⟨rfl, hb4⟩; have HB4 := hid (Below.on HB3.out hb4); have k4 := (hb4.block _ hs3).trans K3.out; have y0 := Vs.cob (o := 0) k4 rfl; have y1 := Vs.cob (o := 1) k4 rfl; have y2 := Vs.cob (o := 2) k4 rfl; have y3 := Vs.cob (o := 3) k4 rfl; have y4 := Vs.cob (o := 4) k4 rfl; have y5 := Vs.cob (o := 5) k4 rfl; have y6 := Vs.cob (o := 6) k4 rfl; clear k4 hb4))
       refine (LY.out _ HB4.out).mono ?_; rintro r w5 ⟨rfl, m', hT5, hm5, ho5⟩; have HS5 := hid hT5; have HO5 : Hid (Onl (Lg.ItsL p m) w w5) := (HZB.out _ HB4.out).out.fresh ho5 (fun b hb => by
        rcases hb with rfl | hb
        ·exact .inl (.inl rfl)
        ·rcases HM.out b hb with h9 | h9
         ·exact .inl (.inr h9)
         ·exact .inr h9)
       have HM5 : Hid (∀ b, m' = some b → m = some b ∨ w.heap.size ≤ b) := fun b hb => by
        rcases hm5 with rfl | ⟨b', rfl, hb'⟩
        ·exact HM.out b hb
        ·injection hb with hb
         subst hb; exact .inr (Nat.le_trans (HZB.out _ HB4.out).out.size hb')
       have HF5 : Hid (feS s l = feS (layS sk e) (l.drop (i + 1))) := by
        have h9 := HF2.out; rw [HFB.out, hfb, if_pos rfl] at h9; exact h9
       clear hT5 hm5 ho5; go_wp2_with fail
       go_roundg (n - (i + 1))
       case measure => omega
       case rel => exact ⟨i + 1, by omega, rfl, by go_num, layS sk e, m', HS5, HF5, HO5, HM5⟩
     ·have ho1 : (e.oc == 1) = false := by simpa using ho
      clear ho; have hfb : (decide ((0 : Int) = 0) && (!false && !(e.oc == 1 && !u2))) = true := by rw [ho1]; simp
      go_wp2_with (first
       | (go_at_call 67; refine (DC.out _ HB2.out).mono ?_; rintro r w3 ⟨rfl, hb3⟩; have HB3 := hid (Below.on HB2.out hb3); have k3 := (hb3.block _ hs2).trans K2.out; have K3 := hid k3; have hs3 := Nat.lt_of_lt_of_le hs2 hb3.size; have y0 := Vs.cob (o := 0) k3 rfl; have y1 := Vs.cob (o := 1) k3 rfl; have y2 := Vs.cob (o := 2) k3 rfl; have y3 := Vs.cob (o := 3) k3 rfl; have y4 := Vs.cob (o := 4) k3 rfl; have y5 := Vs.cob (o := 5) k3 rfl; have y6 := Vs.cob (o := 6) k3 rfl; clear k3 hb3)
       | (go_at_call 133; refine (RS.out _ HB3.out).mono ?_; rintro r w4 ⟨rfl, hb4⟩; have HB4 := hid (Below.on HB3.out hb4); have k4 := (hb4.block _ hs3).trans K3.out; have y0 := Vs.cob (o := 0) k4 rfl; have y1 := Vs.cob (o := 1) k4 rfl; have y2 := Vs.cob (o := 2) k4 rfl; have y3 := Vs.cob (o := 3) k4 rfl; have y4 := Vs.cob (o := 4) k4 rfl; have y5 := Vs.cob (o := 5) k4 rfl; have y6 := Vs.cob (o := 6) k4 rfl; clear k4 hb4))
      refine (LY.out _ HB3.out).mono ?_; rintro r w5 ⟨rfl, m', hT5, hm5, ho5⟩; have HS5 := hid hT5; have HO5 : Hid (Onl (Lg.ItsL p m) w w5) := (HZB.out _ HB3.out).out.fresh ho5 (fun b hb => by
       rcases hb with rfl | hb
       ·exact .inl (.inl rfl)
       ·rcases HM.out b hb with h9 | h9
        ·exact .inl (.inr h9)
        ·exact .inr h9)
      have HM5 : Hid (∀ b, m' = some b → m = some b ∨ w.heap.size ≤ b) := fun b hb => by
       rcases hm5 with rfl | ⟨b', rfl, hb'⟩
       ·exact HM.out b hb
       ·injection hb with hb
        subst hb; exact .inr (Nat.le_trans (HZB.out _ HB3.out).out.size hb')
      have HF5 : Hid (feS s l = feS (layS sk e) (l.drop (i + 1))) := by
       have h9 := HF2.out; rw [HFB.out, hfb, if_pos rfl] at h9; exact h9
      clear hT5 hm5 ho5; go_wp2_with fail
      go_roundg (n - (i + 1))
      case measure => omega
      case rel => exact ⟨i + 1, by omega, rfl, by go_num, layS sk e, m', HS5, HF5, HO5, HM5⟩
   ·have hne : (er != 0) = true := by simpa using he0
    have hf : feS s l = none := by rw [HF2.out, HFB.out, decide_eq_false he0]; rfl
    have HFN := hid hf; clear hf he0; go_wp2_with fail
    go_ret
    refine ⟨by rw [HFN.out]; rfl, fun s' h9 => (by rw [HFN.out] at h9; cases h9), ?_⟩; exact HZB.out _ HB2.out
  ·obtain rfl : i = n := by omega
   have HE : Hid (feS s l = some sk) := by
    have := HF.out; rw [HN.out, List.drop_of_length_le (Nat.le_refl _)] at this; exact this
   clear hin hlt; go_wp2_with fail
   go_ret
   refine ⟨by rw [HE.out]; rfl, fun s' h9 => ?_, HO⟩; rw [HE.out] at h9; injection h9 with h9
   subst h9; exact ⟨mk, HS.out, HM.out⟩
end Go.Proofs.YtofpaldolcnmiaaGreat.Ig
