import Derived.Test.YtneojeidpfjpbaaGreatDoorB31
import Derived.Test.YtneojeidpfjpbaaGreatDoorB27
import Derived.Shelf.SlSortCmp.NoneTotal
import Derived.Ground.SlsfProg
import Derived.Test.YtneojeidpfjpbaaGreatDoorProg
set_option linter.unusedVariables false
set_option maxHeartbeats 400000
namespace Go.Proofs.YtneojeidpfjpbaaGreatDoor.Ig
open Go.RowKit Go.Sort
def RowG {α : Type} (enc : α → List Value) (k : Nat) (w : World) (a : Option Addr) (xs : List α) : Prop :=
 ∀ i x, xs[i]? = some x → ∃ b off, a = some ⟨b, off, none⟩ ∧ ∀ o v, (enc x)[o]? = some v → w.cell? ⟨b, off + i * k + o, none⟩ = some v
section
variable {α : Type} {enc : α → List Value} {k : Nat} {w w' : World} {a : Option Addr} {xs : List α}
theorem RowG.later (h : RowG enc k w a xs) (hb : Below w.heap.size w w') : RowG enc k w' a xs := fun i x e => by
 obtain ⟨b, off, h2, h3⟩ := h i x e; exact ⟨b, off, h2, fun o v ho => cell_later hb (h3 o v ho)⟩
theorem RowG.keep (h : RowG enc k w a xs) {c p n : Nat} (hk : Cel c p n w w') (ha : ∀ b off, a = some ⟨b, off, none⟩ → b ≠ c) : RowG enc k w' a xs := fun i x e => by
 obtain ⟨b, off, h2, h3⟩ := h i x e; exact ⟨b, off, h2, fun o v ho => hk.cell (.inl (ha b off h2)) (h3 o v ho)⟩
theorem fmG_get (hk : ∀ x, (enc x).length = k) : ∀ (xs : List α) (i o : Nat) (x : α), xs[i]? = some x → o < k → (xs.flatMap enc)[i * k + o]? = (enc x)[o]?
 | [], i, o, x, h, _ => by simp at h
 | y :: xs, 0, o, x, h, ho => by
  have e : y = x := by simpa using h
  subst e; rw [List.flatMap_cons, List.getElem?_append_left (by rw [hk]; omega)]; simp
 | y :: xs, i + 1, o, x, h, ho => by
  have ih := fmG_get hk xs i o x (by simpa using h) ho; rw [List.flatMap_cons, List.getElem?_append_right (by rw [hk, Nat.add_mul]; omega), show (i + 1) * k + o - (enc y).length = i * k + o by rw [hk, Nat.add_mul]; omega, ih]
theorem fmG_len (hk : ∀ x, (enc x).length = k) : ∀ xs : List α, (xs.flatMap enc).length = xs.length * k
 | [] => by simp
 | x :: xs => by rw [List.flatMap_cons, List.length_append, hk, fmG_len hk xs, List.length_cons, Nat.add_mul, Nat.one_mul, Nat.add_comm]
theorem RowG.of_own (hk : ∀ x, (enc x).length = k) (h0 : 0 < k) {B n c : Nat} {T : TypeId} (h : w.ownsRow B T k (.slice a n c) n (xs.flatMap enc)) : RowG enc k w a xs := fun i x e => by
 have hl := h.1; rw [fmG_len hk] at hl; have hi : i < xs.length := (List.getElem?_eq_some_iff.1 e).1; obtain ⟨_, ⟨e1, e2⟩ | ⟨g, cap, cur, e1, _⟩⟩ := id h
 ·exfalso
  rw [e2, Nat.zero_mul] at hl; have := Nat.mul_pos (show 0 < xs.length by omega) h0; omega
 ·injection e1 with e3 _ _
  subst e3; refine ⟨g, 0, rfl, fun o v ho => ?_⟩; have ho' : o < k := by rw [← hk x]; exact (List.getElem?_eq_some_iff.1 ho).1
  have hlt : i * k + o < n * k := by
   rw [← hl]; have := Nat.mul_le_mul_right k (show i + 1 ≤ xs.length by omega); rw [Nat.add_mul, Nat.one_mul] at this; omega
  rw [Nat.zero_add, World.ownsRow.cellAt h _ hlt, fmG_get hk xs i o x e ho', ho]
end
abbrev c2 (x : T2) : List Value := [.string x.1, .string x.2]
abbrev c3 (x : Wr) : List Value := [.string x.key, .bool x.del, .string x.val]
abbrev c6 (x : Vs.Kv) : List Value := [.string x.1, .int .u64 x.2.s.a, .int .u32 x.2.s.b, .int .u32 x.2.s.c, .bool x.2.del, .string x.2.val]
theorem row2_g {w : World} {a : Option Addr} {xs : List T2} (h : Row2 w a xs) : RowG c2 2 w a xs := fun i x e => by
 have hi : i < xs.length := (List.getElem?_eq_some_iff.1 e).1; obtain ⟨b, off, ha, h0, h1⟩ := h i hi; have hx : nth2 xs i = x := by simp [nth2, e]
 rw [hx] at h0 h1; refine ⟨b, off, ha, fun o v ho => ?_⟩; match o, ho with
 | 0, ho => rw [← Option.some.inj ho]; exact h0
 | 1, ho => rw [← Option.some.inj ho]; exact h1
theorem rowW_g {w : World} {a : Option Addr} {xs : List Wr} (h : RowW w a xs) : RowG c3 3 w a xs := fun i x e => by
 have hi : i < xs.length := (List.getElem?_eq_some_iff.1 e).1; obtain ⟨b, off, ha, h0, h1, h2⟩ := h i hi; have hx : nthW xs i = x := by simp [nthW, e]
 rw [hx] at h0 h1 h2; refine ⟨b, off, ha, fun o v ho => ?_⟩; match o, ho with
 | 0, ho => rw [← Option.some.inj ho]; exact h0
 | 1, ho => rw [← Option.some.inj ho]; exact h1
 | 2, ho => rw [← Option.some.inj ho]; exact h2
end Go.Proofs.YtneojeidpfjpbaaGreatDoor.Ig
namespace Go.Proofs
open Go.Shelf
def Tryz.sortH_ren : Go.Shelf.Ren := ⟨fun | 6 => 77 | 15 => 114 | 14 => 113 | 28 => 165 | 29 => 166 | 20 => 157 | 21 => 158 | 22 => 159 | 23 => 160 | 24 => 161 | 25 => 162 | 26 => 163 | 27 => 164 | 46 => 208 | 47 => 209 | 48 => 210 | 49 => 211 | 50 => 212 | 57 => 251 | n => n, fun | 22 => 47 | 24 => 52 | 25 => 147 | 3 => 3 | 39 => 131 | 0 => 0 | 53 => 22 | 55 => 26 | 4 => 4 | 46 => 229 | 45 => 228 | 50 => 233 | 5 => 5 | 9 => 9 | 66 => 271 | 70 => 275 | 76 => 303 | 77 => 304 | n => n, fun | n => n⟩
theorem Tryz.sortH : Go.Proofs.SlLaysF0.n6 Tryz.prog Tryz.sortH_ren := {
 mixed := by kernel_rfl
 f6 := ⟨Tryz.f77.name, by decide, Tryz.func77.trans (congrArg some (by kernel_rfl))⟩
 f14 := ⟨Tryz.f113.name, by decide, Tryz.func113.trans (congrArg some (by kernel_rfl))⟩
 f15 := Tryz.func114.trans (congrArg some (by kernel_rfl))
 f20 := ⟨Tryz.f157.name, by decide, Tryz.func157.trans (congrArg some (by kernel_rfl))⟩
 f21 := ⟨Tryz.f158.name, by decide, Tryz.func158.trans (congrArg some (by kernel_rfl))⟩
 f22 := ⟨Tryz.f159.name, by decide, Tryz.func159.trans (congrArg some (by kernel_rfl))⟩
 f23 := ⟨Tryz.f160.name, by decide, Tryz.func160.trans (congrArg some (by kernel_rfl))⟩
 f24 := ⟨Tryz.f161.name, by decide, Tryz.func161.trans (congrArg some (by kernel_rfl))⟩
 f25 := ⟨Tryz.f162.name, by decide, Tryz.func162.trans (congrArg some (by kernel_rfl))⟩
 f26 := ⟨Tryz.f163.name, by decide, Tryz.func163.trans (congrArg some (by kernel_rfl))⟩
 f27 := ⟨Tryz.f164.name, by decide, Tryz.func164.trans (congrArg some (by kernel_rfl))⟩
 f28 := Tryz.func165.trans (congrArg some (by kernel_rfl))
 f29 := Tryz.func166.trans (congrArg some (by kernel_rfl))
 f46 := ⟨Tryz.f208.name, by decide, Tryz.func208.trans (congrArg some (by kernel_rfl))⟩
 f47 := Tryz.func209.trans (congrArg some (by kernel_rfl))
 f48 := Tryz.func210.trans (congrArg some (by kernel_rfl))
 f49 := ⟨Tryz.f211.name, by decide, Tryz.func211.trans (congrArg some (by kernel_rfl))⟩
 f50 := ⟨Tryz.f212.name, by decide, Tryz.func212.trans (congrArg some (by kernel_rfl))⟩
 f57 := ⟨Tryz.f251.name, by decide, Tryz.func251.trans (congrArg some (by kernel_rfl))⟩
 t0 := Tryz.underlying0
 a0 := Tryz.isAgg0
 z0 := Tryz.sizeOf0
 v0 := Tryz.zeroValue0
 t3 := Tryz.underlying3
 a3 := Tryz.isAgg3
 z3 := Tryz.sizeOf3
 v3 := Tryz.zeroValue3
 t4 := Tryz.underlying4
 a4 := Tryz.isAgg4
 z4 := Tryz.sizeOf4
 v4 := Tryz.zeroValue4
 t5 := Tryz.underlying5
 a5 := Tryz.isAgg5
 z5 := Tryz.sizeOf5
 v5 := Tryz.zeroValue5
 t9 := Tryz.underlying9
 a9 := Tryz.isAgg9
 z9 := Tryz.sizeOf9
 v9 := Tryz.zeroValue9
 t22 := Tryz.underlying47
 a22 := Tryz.isAgg47
 z22 := Tryz.sizeOf47
 v22 := Tryz.zeroValue47
 t25 := Tryz.underlying147
 a25 := Tryz.isAgg147
 z25 := Tryz.sizeOf147
 v25 := Tryz.zeroValue147
 t39 := Tryz.underlying131
 a39 := Tryz.isAgg131
 z39 := Tryz.sizeOf131
 v39 := Tryz.zeroValue131
 t45 := Tryz.underlying228
 a45 := Tryz.isAgg228
 z45 := Tryz.sizeOf228
 v45 := Tryz.zeroValue228
 t46 := Tryz.underlying229
 a46 := Tryz.isAgg229
 z46 := Tryz.sizeOf229
 v46 := Tryz.zeroValue229
 t50 := Tryz.underlying233
 a50 := Tryz.isAgg233
 z50 := Tryz.sizeOf233
 v50 := Tryz.zeroValue233
 t53 := Tryz.underlying22
 a53 := Tryz.isAgg22
 z53 := Tryz.sizeOf22
 v53 := Tryz.zeroValue22
 t55 := Tryz.underlying26
 a55 := Tryz.isAgg26
 z55 := Tryz.sizeOf26
 v55 := Tryz.zeroValue26
 t66 := Tryz.underlying271
 a66 := Tryz.isAgg271
 z66 := Tryz.sizeOf271
 v66 := Tryz.zeroValue271
 t70 := Tryz.underlying275
 a70 := Tryz.isAgg275
 z70 := Tryz.sizeOf275
 v70 := Tryz.zeroValue275
 t76 := Tryz.underlying303
 a76 := Tryz.isAgg303
 z76 := Tryz.sizeOf303
 v76 := Tryz.zeroValue303
 t77 := Tryz.underlying304
 a77 := Tryz.isAgg304
 z77 := Tryz.sizeOf304
 v77 := Tryz.zeroValue304 }
def Tryz.sortT_ren : Go.Shelf.Ren := ⟨fun | 6 => 120 | 15 => 114 | 14 => 172 | 28 => 165 | 29 => 166 | 20 => 217 | 21 => 218 | 22 => 219 | 23 => 220 | 24 => 221 | 25 => 222 | 26 => 223 | 27 => 224 | 46 => 254 | 47 => 209 | 48 => 210 | 49 => 255 | 50 => 256 | 57 => 267 | n => n, fun | 22 => 114 | 24 => 38 | 25 => 146 | 3 => 3 | 39 => 131 | 0 => 0 | 53 => 22 | 55 => 26 | 4 => 4 | 46 => 229 | 45 => 228 | 50 => 233 | 5 => 5 | 9 => 9 | 66 => 271 | 70 => 275 | 76 => 303 | 77 => 304 | n => n, fun | n => n⟩
theorem Tryz.sortT : Go.Proofs.SlLaysF0.n6 Tryz.prog Tryz.sortT_ren := {
 mixed := by kernel_rfl
 f6 := ⟨Tryz.f120.name, by decide, Tryz.func120.trans (congrArg some (by kernel_rfl))⟩
 f14 := ⟨Tryz.f172.name, by decide, Tryz.func172.trans (congrArg some (by kernel_rfl))⟩
 f15 := Tryz.func114.trans (congrArg some (by kernel_rfl))
 f20 := ⟨Tryz.f217.name, by decide, Tryz.func217.trans (congrArg some (by kernel_rfl))⟩
 f21 := ⟨Tryz.f218.name, by decide, Tryz.func218.trans (congrArg some (by kernel_rfl))⟩
 f22 := ⟨Tryz.f219.name, by decide, Tryz.func219.trans (congrArg some (by kernel_rfl))⟩
 f23 := ⟨Tryz.f220.name, by decide, Tryz.func220.trans (congrArg some (by kernel_rfl))⟩
 f24 := ⟨Tryz.f221.name, by decide, Tryz.func221.trans (congrArg some (by kernel_rfl))⟩
 f25 := ⟨Tryz.f222.name, by decide, Tryz.func222.trans (congrArg some (by kernel_rfl))⟩
 f26 := ⟨Tryz.f223.name, by decide, Tryz.func223.trans (congrArg some (by kernel_rfl))⟩
 f27 := ⟨Tryz.f224.name, by decide, Tryz.func224.trans (congrArg some (by kernel_rfl))⟩
 f28 := Tryz.func165.trans (congrArg some (by kernel_rfl))
 f29 := Tryz.func166.trans (congrArg some (by kernel_rfl))
 f46 := ⟨Tryz.f254.name, by decide, Tryz.func254.trans (congrArg some (by kernel_rfl))⟩
 f47 := Tryz.func209.trans (congrArg some (by kernel_rfl))
 f48 := Tryz.func210.trans (congrArg some (by kernel_rfl))
 f49 := ⟨Tryz.f255.name, by decide, Tryz.func255.trans (congrArg some (by kernel_rfl))⟩
 f50 := ⟨Tryz.f256.name, by decide, Tryz.func256.trans (congrArg some (by kernel_rfl))⟩
 f57 := ⟨Tryz.f267.name, by decide, Tryz.func267.trans (congrArg some (by kernel_rfl))⟩
 t0 := Tryz.underlying0
 a0 := Tryz.isAgg0
 z0 := Tryz.sizeOf0
 v0 := Tryz.zeroValue0
 t3 := Tryz.underlying3
 a3 := Tryz.isAgg3
 z3 := Tryz.sizeOf3
 v3 := Tryz.zeroValue3
 t4 := Tryz.underlying4
 a4 := Tryz.isAgg4
 z4 := Tryz.sizeOf4
 v4 := Tryz.zeroValue4
 t5 := Tryz.underlying5
 a5 := Tryz.isAgg5
 z5 := Tryz.sizeOf5
 v5 := Tryz.zeroValue5
 t9 := Tryz.underlying9
 a9 := Tryz.isAgg9
 z9 := Tryz.sizeOf9
 v9 := Tryz.zeroValue9
 t22 := Tryz.underlying114
 a22 := Tryz.isAgg114
 z22 := Tryz.sizeOf114
 v22 := Tryz.zeroValue114
 t25 := Tryz.underlying146
 a25 := Tryz.isAgg146
 z25 := Tryz.sizeOf146
 v25 := Tryz.zeroValue146
 t39 := Tryz.underlying131
 a39 := Tryz.isAgg131
 z39 := Tryz.sizeOf131
 v39 := Tryz.zeroValue131
 t45 := Tryz.underlying228
 a45 := Tryz.isAgg228
 z45 := Tryz.sizeOf228
 v45 := Tryz.zeroValue228
 t46 := Tryz.underlying229
 a46 := Tryz.isAgg229
 z46 := Tryz.sizeOf229
 v46 := Tryz.zeroValue229
 t50 := Tryz.underlying233
 a50 := Tryz.isAgg233
 z50 := Tryz.sizeOf233
 v50 := Tryz.zeroValue233
 t53 := Tryz.underlying22
 a53 := Tryz.isAgg22
 z53 := Tryz.sizeOf22
 v53 := Tryz.zeroValue22
 t55 := Tryz.underlying26
 a55 := Tryz.isAgg26
 z55 := Tryz.sizeOf26
 v55 := Tryz.zeroValue26
 t66 := Tryz.underlying271
 a66 := Tryz.isAgg271
 z66 := Tryz.sizeOf271
 v66 := Tryz.zeroValue271
 t70 := Tryz.underlying275
 a70 := Tryz.isAgg275
 z70 := Tryz.sizeOf275
 v70 := Tryz.zeroValue275
 t76 := Tryz.underlying303
 a76 := Tryz.isAgg303
 z76 := Tryz.sizeOf303
 v76 := Tryz.zeroValue303
 t77 := Tryz.underlying304
 a77 := Tryz.isAgg304
 z77 := Tryz.sizeOf304
 v77 := Tryz.zeroValue304 }
def Tryz.sortE_ren : Go.Shelf.Ren := ⟨fun | 6 => 154 | 15 => 114 | 14 => 207 | 28 => 165 | 29 => 166 | 20 => 243 | 21 => 244 | 22 => 245 | 23 => 246 | 24 => 247 | 25 => 248 | 26 => 249 | 27 => 250 | 46 => 264 | 47 => 209 | 48 => 210 | 49 => 265 | 50 => 266 | 57 => 269 | n => n, fun | 22 => 92 | 24 => 91 | 25 => 180 | 3 => 3 | 39 => 131 | 0 => 0 | 53 => 22 | 55 => 26 | 4 => 4 | 46 => 229 | 45 => 228 | 50 => 233 | 5 => 5 | 9 => 9 | 66 => 271 | 70 => 275 | 76 => 303 | 77 => 304 | n => n, fun | n => n⟩
theorem Tryz.sortE : Go.Proofs.SlLaysF0.n6 Tryz.prog Tryz.sortE_ren := {
 mixed := by kernel_rfl
 f6 := ⟨Tryz.f154.name, by decide, Tryz.func154.trans (congrArg some (by kernel_rfl))⟩
 f14 := ⟨Tryz.f207.name, by decide, Tryz.func207.trans (congrArg some (by kernel_rfl))⟩
 f15 := Tryz.func114.trans (congrArg some (by kernel_rfl))
 f20 := ⟨Tryz.f243.name, by decide, Tryz.func243.trans (congrArg some (by kernel_rfl))⟩
 f21 := ⟨Tryz.f244.name, by decide, Tryz.func244.trans (congrArg some (by kernel_rfl))⟩
 f22 := ⟨Tryz.f245.name, by decide, Tryz.func245.trans (congrArg some (by kernel_rfl))⟩
 f23 := ⟨Tryz.f246.name, by decide, Tryz.func246.trans (congrArg some (by kernel_rfl))⟩
 f24 := ⟨Tryz.f247.name, by decide, Tryz.func247.trans (congrArg some (by kernel_rfl))⟩
 f25 := ⟨Tryz.f248.name, by decide, Tryz.func248.trans (congrArg some (by kernel_rfl))⟩
 f26 := ⟨Tryz.f249.name, by decide, Tryz.func249.trans (congrArg some (by kernel_rfl))⟩
 f27 := ⟨Tryz.f250.name, by decide, Tryz.func250.trans (congrArg some (by kernel_rfl))⟩
 f28 := Tryz.func165.trans (congrArg some (by kernel_rfl))
 f29 := Tryz.func166.trans (congrArg some (by kernel_rfl))
 f46 := ⟨Tryz.f264.name, by decide, Tryz.func264.trans (congrArg some (by kernel_rfl))⟩
 f47 := Tryz.func209.trans (congrArg some (by kernel_rfl))
 f48 := Tryz.func210.trans (congrArg some (by kernel_rfl))
 f49 := ⟨Tryz.f265.name, by decide, Tryz.func265.trans (congrArg some (by kernel_rfl))⟩
 f50 := ⟨Tryz.f266.name, by decide, Tryz.func266.trans (congrArg some (by kernel_rfl))⟩
 f57 := ⟨Tryz.f269.name, by decide, Tryz.func269.trans (congrArg some (by kernel_rfl))⟩
 t0 := Tryz.underlying0
 a0 := Tryz.isAgg0
 z0 := Tryz.sizeOf0
 v0 := Tryz.zeroValue0
 t3 := Tryz.underlying3
 a3 := Tryz.isAgg3
 z3 := Tryz.sizeOf3
 v3 := Tryz.zeroValue3
 t4 := Tryz.underlying4
 a4 := Tryz.isAgg4
 z4 := Tryz.sizeOf4
 v4 := Tryz.zeroValue4
 t5 := Tryz.underlying5
 a5 := Tryz.isAgg5
 z5 := Tryz.sizeOf5
 v5 := Tryz.zeroValue5
 t9 := Tryz.underlying9
 a9 := Tryz.isAgg9
 z9 := Tryz.sizeOf9
 v9 := Tryz.zeroValue9
 t22 := Tryz.underlying92
 a22 := Tryz.isAgg92
 z22 := Tryz.sizeOf92
 v22 := Tryz.zeroValue92
 t25 := Tryz.underlying180
 a25 := Tryz.isAgg180
 z25 := Tryz.sizeOf180
 v25 := Tryz.zeroValue180
 t39 := Tryz.underlying131
 a39 := Tryz.isAgg131
 z39 := Tryz.sizeOf131
 v39 := Tryz.zeroValue131
 t45 := Tryz.underlying228
 a45 := Tryz.isAgg228
 z45 := Tryz.sizeOf228
 v45 := Tryz.zeroValue228
 t46 := Tryz.underlying229
 a46 := Tryz.isAgg229
 z46 := Tryz.sizeOf229
 v46 := Tryz.zeroValue229
 t50 := Tryz.underlying233
 a50 := Tryz.isAgg233
 z50 := Tryz.sizeOf233
 v50 := Tryz.zeroValue233
 t53 := Tryz.underlying22
 a53 := Tryz.isAgg22
 z53 := Tryz.sizeOf22
 v53 := Tryz.zeroValue22
 t55 := Tryz.underlying26
 a55 := Tryz.isAgg26
 z55 := Tryz.sizeOf26
 v55 := Tryz.zeroValue26
 t66 := Tryz.underlying271
 a66 := Tryz.isAgg271
 z66 := Tryz.sizeOf271
 v66 := Tryz.zeroValue271
 t70 := Tryz.underlying275
 a70 := Tryz.isAgg275
 z70 := Tryz.sizeOf275
 v70 := Tryz.zeroValue275
 t76 := Tryz.underlying303
 a76 := Tryz.isAgg303
 z76 := Tryz.sizeOf303
 v76 := Tryz.zeroValue303
 t77 := Tryz.underlying304
 a77 := Tryz.isAgg304
 z77 := Tryz.sizeOf304
 v77 := Tryz.zeroValue304 }
end Go.Proofs
namespace Go.Proofs.YtneojeidpfjpbaaGreatDoor.Lg
open Go.RowKit Go.Sort Go.Shelf Go.Lib Lk
def Grew (w w' : World) : Prop := ∃ q os, w' = grow (w.drewN q) os
theorem Grew.refl (w : World) : Grew w w := ⟨0, #[], by rw [grow_empty]; rfl⟩
theorem Grew.al {w w' : World} (h : Grew w w') (o : Obj) : Grew w (w'.alloc o) := by
 obtain ⟨q, os, rfl⟩ := h; exact ⟨q, os ++ #[o], by rw [alloc_eq_grow, grow_grow]⟩
theorem Grew.drew {w w' : World} (h : Grew w w') : Grew w w'.drew := by
 obtain ⟨q, os, rfl⟩ := h; exact ⟨q + 1, os, rfl⟩
theorem Grew.trans {a b c : World} (h : Grew a b) (k : Grew b c) : Grew a c := by
 obtain ⟨q, os, rfl⟩ := h; obtain ⟨r, ps, rfl⟩ := k; refine ⟨q + r, os ++ ps, ?_⟩; rw [← grow_grow]; congr 1
 simp [grow, World.drewN, Nat.add_assoc]
def cmpZ (a b : Int) : Int := if a < b then -1 else if b < a then 1 else 0
def cmpT (i j : Ix) : Int := if cmpZ i.1 j.1 = 0 then cmpZ i.2 j.2 else cmpZ i.1 j.1
theorem nan_is (a : Int) (w : World) : Calls Tryz.prog 167 #[.int .u32 a] w fun e w' => e = .returned (.bool false) ∧ w' = w := by
 go_enter Tryz.func167, Tryz.ntmps167
 go_wp2_with fail
 go_ret
 exact ⟨by simp, rfl⟩
theorem cmpU_is (a b : Int) (w : World) : Calls Tryz.prog 116 #[.int .u32 a, .int .u32 b] w fun e w' => e = .returned (.int .i64 (cmpZ a b)) ∧ w' = w := by
 have N := hid (fun x W => nan_is x W); by_cases h1 : a < b
 ·have e : cmpZ a b = -1 := by simp [cmpZ, h1]
  rw [e]; clear e; go_enter Tryz.func116, Tryz.ntmps116
  go_wp2_with (go_at_call 167; refine (N.out _ _).mono ?_; rintro e w1 ⟨rfl, rfl⟩)
  go_ret
  exact ⟨rfl, rfl⟩
 ·by_cases h2 : b < a
  ·have e : cmpZ a b = 1 := by simp [cmpZ, h1, h2]
   rw [e]; clear e; go_enter Tryz.func116, Tryz.ntmps116
   go_wp2_with (go_at_call 167; refine (N.out _ _).mono ?_; rintro e w1 ⟨rfl, rfl⟩)
   go_ret
   exact ⟨rfl, rfl⟩
  ·have e : cmpZ a b = 0 := by simp [cmpZ, h1, h2]
   rw [e]; clear e; go_enter Tryz.func116, Tryz.ntmps116
   go_wp2_with (go_at_call 167; refine (N.out _ _).mono ?_; rintro e w1 ⟨rfl, rfl⟩)
   go_ret
   exact ⟨rfl, rfl⟩
theorem or_is {x y r : Int} {g : Nat} {w : World} (hr : r = if x = 0 then y else x) (h0 : w.cell? ⟨g, 0, none⟩ = some (.int .i64 x)) (h1 : w.cell? ⟨g, 1, none⟩ = some (.int .i64 y)) :
  Calls Tryz.prog 115 #[.slice (some ⟨g, 0, none⟩) 2 2] w fun e w' => e = .returned (.int .i64 r) ∧ w' = w := by
 have HR := hid hr; clear hr; go_enter Tryz.func115, Tryz.ntmps115
 go_wp2_with fail
 go_loopg [8] 2 (fun k s8 wr => wr = w ∧ ((k = 2 ∧ s8 = .int .i64 0) ∨ (k = 1 ∧ s8 = .int .i64 1 ∧ x = 0) ∨ (k = 0 ∧ s8 = .int .i64 2 ∧ x = 0 ∧ y = 0)))
 case atStart => exact ⟨rfl, .inl ⟨rfl, rfl⟩⟩
 case round =>
  obtain ⟨rfl, ⟨rfl, rfl⟩ | ⟨rfl, rfl, rfl⟩ | ⟨rfl, rfl, rfl, rfl⟩⟩ := hrel
  ·by_cases hx : x = 0
   ·subst hx; go_wp2_with fail
    go_roundg 1
    case measure => omega
    case rel => exact ⟨rfl, .inr (.inl ⟨rfl, by go_num, by simp⟩)⟩
   ·have hx' : (x != 0) = true := by simpa using hx
    have e : r = x := by rw [HR.out, if_neg hx]
    subst e; go_wp2_with fail
    go_ret
    exact ⟨rfl, rfl⟩
  ·by_cases hy : y = 0
   ·subst hy; go_wp2_with fail
    go_roundg 0
    case measure => omega
    case rel => exact ⟨rfl, .inr (.inr ⟨rfl, by go_num, by simp, by simp⟩)⟩
   ·have hy' : (y != 0) = true := by simpa using hy
    have e : r = y := by rw [HR.out]; simp
    subst e; go_wp2_with fail
    go_ret
    exact ⟨rfl, rfl⟩
  ·have e : r = 0 := by rw [HR.out]; simp
   subst e; go_wp2_with fail
   go_ret
   exact ⟨rfl, rfl⟩
theorem byID_is (i j : Ix) (w : World) : Calls Tryz.prog 156 #[ixv i, ixv j] w fun e w' => e = .returned (.int .i64 (cmpT i j)) ∧ ∃ q os, w' = grow (w.drewN q) os := by
 obtain ⟨ic, is⟩ := i; obtain ⟨jc, js⟩ := j; obtain ⟨r, hr⟩ : ∃ r, r = if cmpZ ic jc = 0 then cmpZ is js else cmpZ ic jc := ⟨_, rfl⟩
 rw [show cmpT ⟨ic, is⟩ ⟨jc, js⟩ = r from hr.symm]; have HR := hid hr; clear hr; obtain ⟨wb, hwb⟩ : ∃ wb, wb = (w.alloc (.cells #[.int .u32 ic, .int .u32 is] 38)).alloc (.cells #[.int .u32 jc, .int .u32 js] 38) := ⟨_, rfl⟩; have a0 : wb.cell? ⟨w.heap.size, 0, none⟩ = some (.int .u32 ic) := by rw [hwb]; simp [go_sem]
 have a1 : wb.cell? ⟨w.heap.size, 1, none⟩ = some (.int .u32 is) := by rw [hwb]; simp [go_sem]
 have b0 : wb.cell? ⟨w.heap.size + 1, 0, none⟩ = some (.int .u32 jc) := by rw [hwb]; simp [go_sem]
 have b1 : wb.cell? ⟨w.heap.size + 1, 1, none⟩ = some (.int .u32 js) := by rw [hwb]; simp [go_sem]
 have HG : Hid (Grew w wb) := by show Grew _ _; rw [hwb]; exact ((Grew.refl w).al _).al _
 go_enter Tryz.func156, Tryz.ntmps156
 go_wp2_with fail
 rw [← hwb]; clear hwb; go_region_held3 (fun w' => w'.cell? ⟨w.heap.size, 0, none⟩ = some (.int .u32 ic) ∧ w'.cell? ⟨w.heap.size, 1, none⟩ = some (.int .u32 is) ∧ w'.cell? ⟨w.heap.size + 1, 0, none⟩ = some (.int .u32 jc) ∧ w'.cell? ⟨w.heap.size + 1, 1, none⟩ = some (.int .u32 js) ∧ Below wb.heap.size wb w')
  ((refine (fun (hB : Below wb.heap.size wb _) => ⟨cell_later hB a0, cell_later hB a1, cell_later hB b0, cell_later hB b1, hB⟩) ?_; (repeat (first | exact Below.refl _ _ | assumption | refine Below.drew ?_ | refine Below.al ?_ _ | refine Below.setCell ?_ (by first | exact Nat.le_refl _ | (simp; omega) | (simp; done)) _ | refine Below.on ?_ (by assumption)))))
  (first
   | (go_at_call 116; refine (cmpU_is _ _ _).mono ?_; rintro e w1 ⟨rfl, rfl⟩)
   | (go_at_call 115; refine (or_is HR.out (by simp [go_sem]) (by simp [go_sem])).mono ?_; rintro e w1 ⟨rfl, rfl⟩))
 all_goals (try go_wp2_with fail)
 go_ret
 exact ⟨rfl, (HG.out.al _).drew⟩
theorem byTxn_is (v u : En) (w : World) : Calls Tryz.prog 110 #[.agg #[.int .u32 v.id.1, .int .u32 v.id.2, .int .u32 v.home, .int .i64 v.oc, .int .u64 v.w, .int .u32 v.l, .int .u32 v.n], .agg #[.int .u32 u.id.1, .int .u32 u.id.2, .int .u32 u.home, .int .i64 u.oc, .int .u64 u.w, .int .u32 u.l, .int .u32 u.n]] w fun e w' => e = .returned (.int .i64 (cmpT v.id u.id)) ∧ ∃ q os, w' = grow (w.drewN q) os := by
 obtain ⟨r, hr⟩ : ∃ r, cmpT v.id u.id = r := ⟨_, rfl⟩; rw [hr]; have B : Hid (∀ W, Calls Tryz.prog 156 #[.agg #[.int .u32 v.id.1, .int .u32 v.id.2], .agg #[.int .u32 u.id.1, .int .u32 u.id.2]] W fun e w' => e = .returned (.int .i64 r) ∧ ∃ q os, w' = grow (W.drewN q) os) := fun W => by rw [← hr]; exact byID_is _ _ W
 clear hr; go_enter Tryz.func110, Tryz.ntmps110
 go_wp2_with (go_at_call 156; refine (B.out _).mono ?_; rintro e w1 ⟨rfl, q, os, rfl⟩)
 go_ret
 exact ⟨rfl, (((Grew.refl w).al _).al _).trans ⟨q, os, rfl⟩⟩
def ltI (i j : Ix) : Bool := decide (i.1 < j.1) || (decide (i.1 = j.1) && decide (i.2 < j.2))
theorem cmp_lt (i j : Ix) : decide (cmpT i j < 0) = ltI i j := by
 unfold cmpT cmpZ ltI; rcases Int.lt_trichotomy i.1 j.1 with h | h | h
 ·have h1 : i.1 < j.1 := h; simp [h1]
 ·rw [h]; rcases Int.lt_trichotomy i.2 j.2 with k | k | k
  ·simp [k]
  ·simp [k]
  ·have k1 : ¬ i.2 < j.2 := by omega
   simp [k, k1]
 ·have h1 : ¬ i.1 < j.1 := by omega
  have h2 : ¬ i.1 = j.1 := by omega
  simp [h, h1, h2]
section
variable {α : Type} {enc : α → List Value} {k : Nat}
theorem fm_len (hk : ∀ x, (enc x).length = k) : ∀ xs : List α, (xs.flatMap enc).length = xs.length * k
 | [] => by simp
 | x :: xs => by rw [List.flatMap_cons, List.length_append, hk, fm_len hk xs, List.length_cons, Nat.add_mul, Nat.one_mul, Nat.add_comm]
variable [Inhabited α]
theorem fm_get (hk : ∀ x, (enc x).length = k) : ∀ (xs : List α) (i o : Nat), i < xs.length → o < k → (xs.flatMap enc)[i * k + o]? = (enc xs[i]!)[o]?
 | x :: xs, 0, o, _, ho => by
  rw [List.flatMap_cons, List.getElem?_append_left (by rw [hk]; omega)]; simp
 | x :: xs, i + 1, o, hi, ho => by
  have ih := fm_get hk xs i o (by simpa using hi) ho; rw [List.flatMap_cons, List.getElem?_append_right (by rw [hk, Nat.add_mul]; omega), show (i + 1) * k + o - (enc x).length = i * k + o by rw [hk, Nat.add_mul]; omega, ih]; simp
theorem flatK_fm (hk : ∀ x, (enc x).length = k) (h0 : 0 < k) (xs : List α) : (flatK enc k xs.toArray).toList = xs.flatMap enc := by
 apply List.ext_getElem?
 intro j; rw [Array.getElem?_toList]; by_cases hj : j < xs.length * k
 ·have hi : j / k < xs.length := Nat.div_lt_of_lt_mul (by rw [Nat.mul_comm]; exact hj); have ho : j % k < k := Nat.mod_lt _ h0; have h := fm_get hk xs (j / k) (j % k) hi ho; rw [show j / k * k + j % k = j by rw [Nat.mul_comm]; exact Nat.div_add_mod j k] at h; have ho' : j % k < (enc xs[j / k]!).length := by rw [hk]; exact ho
  have hsz : j < (flatK enc k xs.toArray).size := by rw [size_flatK]; simpa using hj
  rw [h, List.getElem?_eq_getElem ho', Array.getElem?_eq_getElem hsz]; have := get_flatK enc k xs.toArray j (by simpa using hj); rw [getElem!_pos _ j hsz] at this; rw [this]; simp only [List.getElem!_toArray]; rw [getElem!_pos (enc xs[j / k]!) (j % k) ho']
 ·have e1 : (flatK enc k xs.toArray)[j]? = none := Array.getElem?_eq_none (by rw [size_flatK]; simpa using hj); have e2 : (xs.flatMap enc)[j]? = none := List.getElem?_eq_none (by rw [fm_len hk]; omega); rw [e1, e2]
variable {T : TypeId} {w : World} {B g n c : Nat} {xs ys : List α}
theorem holds_row (hk : ∀ x, (enc x).length = k) (h0 : 0 < k) (h : w.ownsRow B T k (.slice (some ⟨g, 0, none⟩) n c) n (xs.flatMap enc)) : HoldsK enc k w g 0 xs.toArray := by
 obtain ⟨hl, ⟨e1, _⟩ | ⟨g', cap, cur, e1, hB, hh, h1, h2, h3, h4⟩⟩ := h
 ·cases e1
 ·injection e1 with e1
  injection e1 with e1
  injection e1 with e1
  subst e1; intro j hj; rw [size_flatK] at hj; have hj' : j < xs.length * k := by simpa using hj
  have hv : (flatK enc k xs.toArray)[j]? = (xs.flatMap enc)[j]? := by rw [← Array.getElem?_toList, flatK_fm hk h0]
  have hlt : j < (xs.flatMap enc).length := by rw [fm_len hk]; exact hj'
  have hsz : j < (flatK enc k xs.toArray).size := by rw [size_flatK]; exact hj
  have hc : cur[j]? = (flatK enc k xs.toArray)[j]? := by
   rw [hv, ← h4, List.getElem?_take]; rw [if_pos (by rw [← hl]; exact hlt)]; simp
  constructor
  ·rw [Nat.zero_add]; refine cell_of_obj hh ?_; rw [hc, getElem!_pos _ j hsz, Array.getElem?_eq_getElem hsz]; rfl
  ·simp [World.frozen?, hh]
theorem sorted_row (hk : ∀ x, (enc x).length = k) (h0 : 0 < k) (h : w.ownsRow B T k (.slice (some ⟨g, 0, none⟩) n c) n (xs.flatMap enc)) (hy : ys.length = xs.length) (m : Nat) (os : Array Obj) :
  (sortWorldK enc k w g 0 m ys.toArray os).ownsRow B T k (.slice (some ⟨g, 0, none⟩) n c) n (ys.flatMap enc) ∧ Onl (fun b => b = g) w (sortWorldK enc k w g 0 m ys.toArray os) := by
 obtain ⟨hl, ⟨e1, _⟩ | ⟨g', cap, cur, e1, hB, hh, h1, h2, h3, h4⟩⟩ := h
 ·cases e1
 ·injection e1 with e1 e2 e3
  injection e1 with e1
  injection e1 with e1
  subst e1 e3; have hlt : g < w.heap.size := (Array.getElem?_eq_some_iff.1 hh).1; have hly : (ys.flatMap enc).length = n * k := by rw [fm_len hk, hy, ← fm_len hk, hl]
  constructor
  ·refine ⟨hly, .inr ⟨g, c, putCells id 0 (flatK enc k ys.toArray) cur, rfl, hB, ?_, h1, h2, ?_, ?_⟩⟩
   ·unfold sortWorldK grow putRowK putRow mapBlock Sort.ahead; simp only; rw [Array.getElem?_append_left (by simpa using hlt), Array.getElem?_modify, if_pos rfl, hh]; rfl
   ·simp [putCells, h3]
   ·apply List.ext_getElem?
    intro j; rw [List.getElem?_take, ← flatK_fm hk h0, Array.getElem?_toList, Array.getElem?_toList]; have hs : (flatK enc k ys.toArray).size = n * k := by rw [size_flatK]; simpa [fm_len hk] using hly
    by_cases hj : j < n * k
    ·have hjc : j < cur.size := by rw [h3]; exact Nat.lt_of_lt_of_le hj (Nat.mul_le_mul_right _ h1)
     have hjf : j < (flatK enc k ys.toArray).size := by rw [hs]; exact hj
     rw [if_pos hj]; simp only [putCells, Array.getElem?_mapIdx, Array.getElem?_eq_getElem hjc, Option.map_some, Array.getElem?_eq_getElem hjf]; simp [hs, hj]
    ·rw [if_neg hj, Array.getElem?_eq_none (by rw [hs]; omega)]
  ·refine ⟨rfl, rfl, rfl, by simp [sortWorldK, grow, putRowK, putRow, mapBlock, Sort.ahead], fun b hb hne => ?_⟩; unfold sortWorldK grow putRowK putRow mapBlock Sort.ahead; simp only; rw [Array.getElem?_append_left (by simpa using hb), Array.getElem?_modify, if_neg (fun e => hne e.symm)]
theorem perm_of {d d' : Array α} (h : PermIn 0 d.size d d') : d'.toList.Perm d.toList := by
 obtain ⟨h1, _, h2⟩ := h; have e1 : d'.extract 0 d.size = d' := by rw [← h1]; simp
 have e2 : d.extract 0 d.size = d := by simp
 rwa [e1, e2] at h2
theorem sorted_of {lt : α → α → Bool} {d : Array α} (h : SortedIn lt 0 d.size d) : d.toList.Pairwise (fun x y => lt y x = false) := by
 rw [List.pairwise_iff_getElem]; intro i j hi hj hij; have := h i j (Nat.zero_le _) hij (by simpa using hj); rwa [getElem!_pos _ j (by simpa using hj), getElem!_pos _ i (by simpa using hi)] at this
end
theorem own_cells {w : World} {B n size : Nat} {e : TypeId} {a : Option Addr} {c : Nat} {xs : List Value} (h : w.ownsRow B e size (.slice a n c) n xs) (hn : 0 < n) : ∃ g, a = some ⟨g, 0, none⟩ ∧ B ≤ g ∧ ∀ j v, xs[j]? = some v → w.cell? ⟨g, j, none⟩ = some v := by
 obtain ⟨hl, ⟨e1, rfl⟩ | ⟨g, cap, cur, e1, hB, hh, h1, h2, h3, h4⟩⟩ := h
 ·omega
 ·injection e1 with e1 _ _
  subst e1; refine ⟨g, rfl, hB, fun j v hj => cell_of_obj hh ?_⟩; rw [← h4] at hj; rw [List.getElem?_take] at hj; split at hj
  ·simpa using hj
  ·cases hj
theorem info_of {P : Program} {t : TypeId} {z : Value} {n m : Nat} (h : (P.info? t).map (fun i => (i.zero, i.size, i.bytes)) = some (some z, n, m)) : ∃ i, P.info? t = some i ∧ i.zero = some z ∧ i.size = n ∧ i.bytes = m := by
 cases hi : P.info? t with
 | none => rw [hi] at h; cases h
 | some i =>
  rw [hi] at h; simp only [Option.map_some, Option.some.injEq, Prod.mk.injEq] at h; exact ⟨i, rfl, h.1, h.2.1, h.2.2⟩
theorem owns_base {w : World} {B B' size n : Nat} {e : TypeId} {v : Value} {xs : List Value} (h : w.ownsRow B e size v n xs) (hb : B' ≤ B) : w.ownsRow B' e size v n xs := by
 obtain ⟨h1, h2 | ⟨g, cap, cur, e1, hB, hh⟩⟩ := h
 ·exact ⟨h1, .inl h2⟩
 ·exact ⟨h1, .inr ⟨g, cap, cur, e1, Nat.le_trans hb hB, hh⟩⟩
theorem ecs_len (v : En) : (ecs v).length = 7 := rfl
theorem ecs_one (v : En) : ∀ x ∈ ecs v, x.oneCell' = true := by
 intro x hx; simp [ecs] at hx; rcases hx with rfl | rfl | rfl | rfl | rfl | rfl | rfl <;> rfl
def OwnL (B : Nat) (w : World) (v : Value) (n : Nat) (U : List En) : Prop := w.ownsRow B 91 7 v n (U.flatMap ecs)
theorem infoEn : (Tryz.prog.info? 91).map (fun i => (i.zero, i.size, i.bytes)) = some (some (En.val En.zero), 7, 40) := by kernel_rfl
end Go.Proofs.YtneojeidpfjpbaaGreatDoor.Lg
