import Derived.Test.YtofpaldolcnmiaaGreatB41
import Derived.Test.YtofpaldolcnmiaaGreatB43
import Derived.Test.YtofpaldolcnmiaaGreatB27
import Derived.Test.YtofpaldolcnmiaaGreatB36
import Derived.Test.YtofpaldolcnmiaaGreatB35
set_option linter.unusedVariables false
namespace Go.Proofs.YtofpaldolcnmiaaGreat.Ig
open Go.RowKit Go.Sort Ys
theorem new_eq (w : World) (n : Int) : Calls Tryz.prog 28 #[.int .u32 n] w fun e w' => e = .returned (.pointer (some ⟨w.heap.size, 0, none⟩)) ∧ w' = w.alloc (.cells (scs (zero n) none none none none) SS) := by
  go_enter Tryz.func28, Tryz.ntmps28
  go_wp2_with fail
  go_ret
  exact ⟨rfl, rfl⟩
theorem beq_self (s : ByteArray) : (s.toList == s.toList) = true := by simp
set_option maxHeartbeats 4000000 in
theorem Load_yes {w : World} {n : Int} {bs : List Nat} {s : Ps} (hb : B8 bs) (hl : bs.length ≤ 1099511627776) (ht : takeP n (.at bs) = some s) (hi : ImOk s) (he : imgB s = bs) :
    Calls Tryz.prog 9 #[.int .u32 n, .string (ofNats bs)] w fun e w' => e = .returned (.tuple #[.pointer (some ⟨w.heap.size, 0, none⟩), .int .i64 0]) ∧ Hid (Sta w.heap.size w' w.heap.size s) ∧ Hid (Below w.heap.size w w') := by
  obtain ⟨w1, hw1⟩ : ∃ w1, w1 = w.alloc (.cells (scs (zero n) none none none none) SS) := ⟨_, rfl⟩
  have hb1 : Below w.heap.size w w1 := by rw [hw1]; exact Below.al (Below.refl _ _) _
  have k1 : w1.heap[w.heap.size]? = some (.cells (scs (zero n) none none none none) SS (0, 0)) := by rw [hw1]; exact World.alloc_heap_new _ _
  have NW : Hid (Calls Tryz.prog 28 #[.int .u32 n] w fun e w' => e = .returned (.pointer (some ⟨w.heap.size, 0, none⟩)) ∧ w' = w1) := by rw [hw1]; exact hid (new_eq w n)
  have HB1 := hid hb1
  have K1 := hid k1
  have HS1 : Hid (w.heap.size < w1.heap.size) := (Array.getElem?_eq_some_iff.1 k1).1
  have HB8 := hid hb
  have HL := hid hl
  have HT := hid ht
  have HI := hid hi
  have HE := hid he
  obtain ⟨S, hS⟩ : ∃ S, S = ofNats bs := ⟨_, rfl⟩
  have HSS := hid hS
  have sb := beq_self S
  rw [← hS]
  clear hb hl ht hi he hb1 k1 hw1 hS
  go_enter Tryz.func9, Tryz.ntmps9
  go_wp2_with fail
  refine NW.out.mono ?_
  rintro e w1' ⟨rfl, rfl⟩
  go_wp2_with fail
  refine (open_at HSS.out HB8.out (p := w1'.heap.size) rfl).mono ?_
  rintro e w2 ⟨rfl, hb2, hp2, hd2⟩
  have hD : DOk w2 w2 w1'.heap.size 0 (.at bs) := ⟨Cel.refl _ _ _ _, hd2, HL.out⟩
  have K2 := (hb2.block _ HS1.out).trans K1.out
  have TK := hid (take_yes HT.out K2 hD (by have := HS1.out; omega))
  have HB2 := hid (Below.on HB1.out hb2)
  clear hb2 hd2 hD K2
  go_wp2_with fail
  refine TK.out.mono ?_
  rintro e w3 ⟨rfl, ⟨F, m1, m2, m, V, I, hT3, hf3⟩, ho3⟩
  have hsw : w.heap.size ≤ w2.heap.size := HB2.out.size
  have HB3 : Hid (Below w.heap.size w w3) := HB2.out.trans (ho3.below (fun k hk => by have := HS1.out; omega) hsw)
  have HT3 := hid hT3
  have HF3 : Hid (∀ k, F k ∨ Bm w.heap.size m1 m2 m k → w.heap.size ≤ k) := fun k hk => by
    rcases hf3 k hk with h9 | h9
    · omega
    · omega
  have IM : Hid (Calls Tryz.prog 10 #[.pointer (some ⟨w.heap.size, 0, none⟩)] w3 fun e w' => e = .returned (.string S) ∧ Below w3.heap.size w3 w') := by
    rw [HSS.out, ← HE.out]
    exact hid (Image_is HT3.out HI.out (by rw [HE.out]; have := HL.out; omega))
  clear hT3 hf3 ho3 TK
  go_wp2_with (go_at_call 10; refine IM.out.mono ?_; rintro e w4 ⟨rfl, hb4⟩)
  refine bodyPost_ret (results_tmp2 rfl _ _ _) rfl ?_
  exact ⟨rfl, ⟨F, m1, m2, m, V, I, HT3.out.later hb4, HF3.out⟩, Below.on HB3.out hb4⟩
end Go.Proofs.YtofpaldolcnmiaaGreat.Ig
namespace Go.Proofs.YtofpaldolcnmiaaGreat.Ig
open Go.RowKit Go.Sort Ys
structure Lx where
  node : Int
  la : Option Addr
  ls : List Rg
  lc : Nat
  cut : Int
abbrev Lx.cells (x : Lx) : Array Value := #[.int .u32 x.node, .slice x.la x.ls.length x.lc, .int .i64 x.cut]
abbrev Lx.val (x : Lx) : Value := .agg x.cells
structure RgL (w : World) (r : Rg) : Prop where
  ok : r.ok w
  rg : RgR r
  rx : RgX r
  rl : r.rs.length + 1 ≤ 8796093022208
  wl : r.ws.length + 1 ≤ 7036874417766
theorem RgL.later {w w' : World} {r : Rg} (h : RgL w r) (hb : Below w.heap.size w w') : RgL w' r := ⟨h.ok.later hb, h.rg, h.rx, h.rl, h.wl⟩
def RowL (w : World) (a : Option Addr) (rs : List Rg) : Prop := ∀ i r, rs[i]? = some r → (∃ b off, a = some ⟨b, off, none⟩ ∧ BoxO w b (off + i * 12) r) ∧ RgL w r
theorem RowL.later {w w' : World} {a : Option Addr} {rs : List Rg} (h : RowL w a rs) (hb : Below w.heap.size w w') : RowL w' a rs := fun i r hr => by
  obtain ⟨⟨b, off, e, hx⟩, h2⟩ := h i r hr
  exact ⟨⟨b, off, e, hx.later hb⟩, h2.later hb⟩
structure M1 (wx wr : World) (p : Nat) (n : Int) (k : Nat) (s : Ps) : Prop where
  st : Sta wx.heap.size wr p s
  run : Run n k s
  bl : Below wx.heap.size wx wr
structure M2 (wx wr : World) (p q : Nat) (n : Int) (k : Nat) (s t : Ps) : Prop where
  tw : Two wx.heap.size wr p s q t
  run : Run n k s
  eq : Eqv s t
  bl : Below wx.heap.size wx wr
structure M3 (wx wr : World) (p q : Nat) (n : Int) (k : Nat) (s t : Ps) (r : Rg) : Prop where
  tw : Two wx.heap.size wr p (axS s r) q t
  r0 : Run n k s
  run : Run n (k + 1) (axS s r)
  eq : Eqv s t
  bl : Below wx.heap.size wx wr
section
variable {wx w w' : World} {p q : Nat} {n : Int} {k : Nat} {s t : Ps}
theorem run_cnt (h : Run n k s) (hk : k ≤ 93000) : Vs.countM s.M ≤ 268435456 := by have := h.cnt; omega
theorem sta_image {B : Nat} (h : Sta B w p s) (hi : ImOk s) (hl : (imgB s).length ≤ 1099511627776) : Calls Tryz.prog 10 #[sp p] w fun e w' => e = .returned (.string (ofNats (imgB s))) ∧ Below w.heap.size w w' := by
  obtain ⟨F, m1, m2, m, V, I, T, _⟩ := h
  exact Image_is T hi (by omega)
end
end Go.Proofs.YtofpaldolcnmiaaGreat.Ig
