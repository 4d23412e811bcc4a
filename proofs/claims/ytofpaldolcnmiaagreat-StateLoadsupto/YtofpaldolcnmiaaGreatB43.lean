import Derived.Test.YtofpaldolcnmiaaGreatB42
set_option linter.unusedVariables false
set_option maxHeartbeats 4000000
namespace Go.Proofs.YtofpaldolcnmiaaGreat
namespace Ig
open Go.RowKit Go.Sort
def u8s (l : List Nat) : List Value := l.map fun (n : Nat) => .int .u8 (n : Int)
theorem u8s_append (l r : List Nat) : u8s (l ++ r) = u8s l ++ u8s r := by simp [u8s]
structure Ec (B : Nat) (w w' : World) : Prop where
 bel : Below B w w'
 typ : ∀ (k : Nat) (cs : Array Value) (T : TypeId) (x : Nat × Nat), w.heap[k]? = some (.cells cs T x) → T ≠ 171 → T ≠ 5 → w'.heap[k]? = some (.cells cs T x)
section
variable {B : Nat} {a w w' : World}
theorem Ec.refl (B : Nat) (w : World) : Ec B w w := ⟨Below.refl _ _, fun _ _ _ _ h _ _ => h⟩
theorem Ec.trans (h : Ec B a w) (k : Ec B w w') : Ec B a w' := ⟨h.bel.trans k.bel, fun i cs T x e h1 h2 => k.typ i cs T x (h.typ i cs T x e h1 h2) h1 h2⟩
theorem Ec.of (h : Below w.heap.size w w') (hB : B ≤ w.heap.size) : Ec B w w' := ⟨h.mono hB, fun i cs T x e _ _ => (h.block i (Array.getElem?_eq_some_iff.1 e).1).trans e⟩
theorem Ec.on (h : Ec B a w) (k : Below w.heap.size w w') (hB : B ≤ w.heap.size) : Ec B a w' := h.trans (Ec.of k hB)
theorem Ec.cell {q o : Nat} {cs : Array Value} {T : TypeId} {x : Nat × Nat} {v : Value} (h : Ec B a w) (e : a.heap[q]? = some (.cells cs T x)) (h1 : T ≠ 171) (h2 : T ≠ 5) (hv : cs[o]? = some v) : w.cell? ⟨q, o, none⟩ = some v := Vs.cob (h.typ _ _ _ _ e h1 h2) hv
end
structure EncD (w : World) (B p : Nat) (bs : List Nat) : Prop where
 box : ∃ a c, w.heap[p]? = some (.cells #[.slice a bs.length c] 171 (0, 0)) ∧ w.ownsRow B 5 1 (.slice a bs.length c) bs.length (u8s bs)
 b8 : B8 bs
 lo : B ≤ p
section
variable {B p : Nat} {w w' : World} {bs : List Nat}
theorem EncD.size (h : EncD w B p bs) : p < w.heap.size := by
 obtain ⟨⟨a, c, hk, -⟩, -, -⟩ := h; exact (Array.getElem?_eq_some_iff.1 hk).1
theorem EncD.later (h : EncD w B p bs) (hb : Below w.heap.size w w') : EncD w' B p bs := by
 obtain ⟨⟨a, c, hk, ho⟩, h8, hl⟩ := h; exact ⟨⟨a, c, (hb.block _ (Array.getElem?_eq_some_iff.1 hk).1).trans hk, owk ho fun g hg => hb.block g (ho.lt g hg).2⟩, h8, hl⟩
end
structure ED (w0 w : World) (B p : Nat) (bs : List Nat) : Prop where
 ec : Ec B w0 w
 enc : EncD w B p bs
section
variable {B p : Nat} {w0 w w' : World} {bs bs' : List Nat}
theorem ED.refl (h : ED w0 w B p bs) : ED w w B p bs := ⟨Ec.refl _ _, h.enc⟩
theorem ED.lo (h : ED w0 w B p bs) : B ≤ w.heap.size := by have := h.enc.size; have := h.enc.lo; omega
theorem ED.step (h : ED w0 w B p bs) (k : ED w w' B p bs') : ED w0 w' B p bs' := ⟨h.ec.trans k.ec, k.enc⟩
theorem ED.later (h : ED w0 w B p bs) (hb : Below w.heap.size w w') : ED w0 w' B p bs := ⟨h.ec.on hb h.lo, h.enc.later hb⟩
theorem ED.al (h : ED w0 w B p bs) (x : Obj) : ED w0 (w.alloc x) B p bs := h.later (Below.al (Below.refl _ _) x)
end
theorem infoT1 : (Tryz.prog.info? 5).map (fun i => (i.zero, i.size, i.bytes)) = some (some (.int .u8 0), 1, 1) := by kernel_rfl
theorem wpList_append_runR {ops : Array Oper} {rest : List Oper} {o : Oper} {a : Act} {w : World} {Q : Exit → Act → World → Prop} (hgd : o.guard = none) (s x : Operand) (dT sT : TypeId)
  (ho : o.op = .call { callee := .builtin .append, args := #[s, x], argTypes := #[dT, sT] }) (v u : Value) (hs : a.eval s = v) (hx : a.eval x = u) {v' : Value} {w' : World}
  (hr : (Builtin.append_ #[dT, sT] o.type #[v, u]).run Tryz.prog w = .ok v' w') (k : wpList Tryz.prog ops Q rest (a.put o.dst v') w') : wpList Tryz.prog ops Q (o :: rest) a w := by
 refine wpList_plain hgd fun K hK => ?_
 unfold Oper.wp execOp; simp only [ho, resolve, invoke, builtin, Sem.run_bind, Sem.run_pure, Result.andThen_ok, List.map_toArray, List.map_cons, List.map_nil, hs, hx, hr]; exact hK _ _ k
theorem enc_app {w wA : World} {B p q : Nat} {bs : List Nat} {a : Option Addr} {c : Nat} {v : Nat} (hw : B ≤ p) (kp : w.heap[p]? = some (.cells #[.slice a bs.length c] 171 (0, 0))) (ho : w.ownsRow B 5 1 (.slice a bs.length c) bs.length (u8s bs)) (hb8 : B8 bs) (hv : v < 256)
  (hb : Below w.heap.size w wA) (kA : wA.heap[q]? = some (.cells #[.int .u8 (v : Int)] 5 (0, 0))) (hl : bs.length + 1 ≤ 140737488355328) (ty : TypeId) :
  ∃ a2 c2 wB, (Builtin.append_ #[141, 141] ty #[.slice a bs.length c, .slice (some ⟨q, 0, none⟩) 1 1]).run Tryz.prog wA = .ok (.slice a2 (bs.length + 1) c2) wB ∧ wB.cell? ⟨p, 0, none⟩ = some (.slice a bs.length c) ∧ wB.frozen? ⟨p, 0, none⟩ = false ∧
   Hid (ED w (wB.setCell ⟨p, 0, none⟩ (.slice a2 (bs.length + 1) c2)) B p (bs ++ [v])) := by
 obtain ⟨i0, hi, hz0, hz1, hz2⟩ := ifz infoT1; have hpl := (Array.getElem?_eq_some_iff.1 kp).1; have hBA : B ≤ wA.heap.size := by have := hb.size; omega
 have hoA := owk ho fun g hg => hb.block g (ho.lt g hg).2
 have kpA := (hb.block _ hpl).trans kp; obtain ⟨v2, wB, hr, hown, hgrow, -⟩ := run_append_own (P := Tryz.prog) (w := wA) B 141 ty 5 i0 _ 1 1 Tryz.underlying141 hi hz0 hz1 hz2 rfl (by decide) (.slice a bs.length c) bs.length (u8s bs) hoA ⟨q, 0, none⟩ 1 1 [.int .u8 (v : Int)] rfl (fun j u hj => (by rw [Addr.add_lit, Nat.zero_add]; exact Vs.cob kA (by simpa using hj))) (by simp [Value.oneCell']) (by unfold maxLen; omega) (by omega) hBA; obtain ⟨a2, c2, rfl⟩ := ows hown; have hne : ∀ g, (Value.slice a bs.length c).ownBlock = some g → g ≠ p := fun g hg e => by
  obtain ⟨c1, e1⟩ := Lg.own_type hoA hg; rw [e, kpA] at e1; injection e1 with e1
  injection e1 with _ e1
  cases e1
 have kB : wB.heap[p]? = some (.cells #[.slice a bs.length c] 171 (0, 0)) := (hgrow.block p (Array.getElem?_eq_some_iff.1 kpA).1 (fun e => hne p e.symm rfl)).trans kpA; have hne2 : ∀ g, (Value.slice a2 (bs.length + 1) c2).ownBlock = some g → g ≠ p := fun g hg e => by
  obtain ⟨c1, e1⟩ := Lg.own_type hown hg; rw [e, kB] at e1; injection e1 with e1
  injection e1 with _ e1
  cases e1
 have hbB : Below B w wB := (hb.mono (by omega)).trans ((grown_onl hgrow).below (fun k hk => (hoA.lt k hk).1) hBA); refine ⟨a2, c2, wB, hr, Vs.cob kB rfl, Lib.frozen_of_heap kB 0, ⟨Below.setCell (p := ⟨p, 0, none⟩) hbB hw _, fun k cs T x e h1 h2 => ?_⟩, ⟨a2, c2, ?_, ?_⟩, hb8.append (B8.one hv), hw⟩
 ·have hkp : k ≠ p := fun e9 => by
   rw [e9, kp] at e; injection e with e
   injection e with _ e
   exact h1 e.symm
  have hk1 := (Array.getElem?_eq_some_iff.1 e).1; have eA := (hb.block k hk1).trans e; have eB : wB.heap[k]? = some (.cells cs T x) := (hgrow.block k (Array.getElem?_eq_some_iff.1 eA).1 (fun e9 => by
   obtain ⟨c1, e1⟩ := Lg.own_type hoA e9.symm; rw [eA] at e1; injection e1 with e1
   injection e1 with _ e1
   exact h2 e1)).trans eA
  exact (Below.heap_setCell _ _ _ _ hkp).trans eB
 ·have : (wB.setCell ⟨p, 0, none⟩ (.slice a2 (bs.length + 1) c2)).heap[p]? = some (.cells (#[Value.slice a bs.length c].setIfInBounds 0 (.slice a2 (bs.length + 1) c2)) 171 (0, 0)) := heap_setCell_same _ _ _ _ _ _ kB; rw [this, List.length_append]; rfl
 ·have h9 := owk hown (w' := wB.setCell ⟨p, 0, none⟩ (.slice a2 (bs.length + 1) c2)) fun g hg => Below.heap_setCell _ _ _ _ (hne2 g hg)
  rw [u8s_append, List.length_append]; exact h9
theorem eByte_is {w0 w : World} {B p : Nat} {bs : List Nat} {v : Nat} (h : ED w0 w B p bs) (hv : v < 256) (hl : bs.length + 1 ≤ 140737488355328) :
  Calls Tryz.prog 114 #[.pointer (some ⟨p, 0, none⟩), .int .u8 (v : Int)] w fun e w' => e = .returned (.tuple #[]) ∧ ED w w' B p (bs ++ [v]) := by
 obtain ⟨-, ⟨a, c, kp, ho⟩, h8, hlo⟩ := h; have c0 : w.cell? ⟨p, 0, none⟩ = some (.slice a bs.length c) := Vs.cob kp rfl; obtain ⟨wA, hwA⟩ : ∃ wA, wA = w.alloc (.cells #[.int .u8 (v : Int)] 5) := ⟨_, rfl⟩; have hbA : Below w.heap.size w wA := by rw [hwA]; exact Below.al (Below.refl _ _) _
 have kA : wA.heap[w.heap.size]? = some (.cells #[.int .u8 (v : Int)] 5 (0, 0)) := by rw [hwA]; exact World.alloc_heap_new _ _
 obtain ⟨a2, c2, wB, hr, cB, fB, HD⟩ := enc_app hlo kp ho h8 hv hbA kA hl 141; rw [hwA] at hr; have HR := hid hr; obtain ⟨n, hn⟩ : ∃ n, n = bs.length := ⟨_, rfl⟩; rw [← hn] at c0 cB HR HD; obtain ⟨n1, hn1⟩ : ∃ n1, n1 = n + 1 := ⟨_, rfl⟩; rw [← hn1] at HR HD; clear kp ho h8 hlo hbA kA hwA hr hl hn hn1; go_enter Tryz.func114, Tryz.ntmps114
 go_wp2_with (first
  | (at_builtin; refine wpList_append_runR rfl _ _ 141 141 rfl _ _ rfl rfl HR.out ?_)
  | go_in)
 go_end0
 exact ⟨rfl, HD.out⟩
end Ig
section
open Go.RowKit Go.Sort
theorem strOfNums_cons (x : Int) (xs : List Int) : strOfNums [x] ++ strOfNums xs = strOfNums (x :: xs) := by
 simp only [strOfNums]; rfl
set_option maxRecDepth 8000 in
theorem big_any (v : Int) (n : Nat) (w : World) (hn : n ≤ 100) (hv : 0 ≤ v) (hv' : v ≤ 18446744073709551615) :
  Calls Tryz.prog 217 #[.int .u64 v, .int .i64 n] w fun e w' => e = .returned (.string (strOfNums (be v n))) ∧ Below w.heap.size w w' := by
 go_enter Tryz.func217, Tryz.ntmps217
 go_wp2_with fail
 go_loopg [0, 5, 6] n (fun g s0 s5 s6 wr => ∃ k : Nat, k ≤ n ∧ g = n - k ∧ s0 = .int .u64 (v / 256 ^ k) ∧ s5 = .string (strOfNums (be v k)) ∧ s6 = .int .i64 k ∧ Below w.heap.size w wr)
 case atStart => exact ⟨0, by omega, by omega, by simp, rfl, rfl, Below.refl _ _⟩
 case round =>
  obtain ⟨k, hk, rfl, rfl, rfl, rfl, hw⟩ := hrel; obtain ⟨x, hx⟩ : ∃ x, x = v / 256 ^ k := ⟨_, rfl⟩; have hx0 : 0 ≤ x := by rw [hx]; exact Int.ediv_nonneg hv (Int.le_of_lt (Int.pow_pos (by decide)))
  have hx1 : x ≤ 18446744073709551615 := by rw [hx]; exact Int.le_trans (Int.ediv_le_self _ hv) hv'
  have hnext : x / 256 = v / 256 ^ (k + 1) := by rw [hx, div_pow_next]
  have hbe : be v (k + 1) = (x % 256) :: be v k := by rw [hx, be_cons]
  have HN := hid hnext; obtain ⟨s, hs⟩ : ∃ s, s = strOfNums (be v k) := ⟨_, rfl⟩; have hsz : s.size = k := by rw [hs, strOfNums_size, bln]
  have HB : Hid (strOfNums [x % 256] ++ s = strOfNums (be v (k + 1))) := by rw [hbe, hs]; exact strOfNums_cons _ _
  have HE : Hid (s = strOfNums (be v k)) := hs; have hroom : ¬ 9223372036854775807 < 1 + s.size := by omega
  rw [← hx, ← hs]; clear hx hnext hbe hs hsz; by_cases hlt : k < n
  ·have hcv := run_convert_bytes_arg (P := Tryz.prog) (wr.alloc (.cells #[.int .u8 (x % 256)] 5)) 141 5 Tryz.underlying141 Tryz.underlying5 wr.heap.size 0 1 1 [x % 256] rfl (fun i hi => by
    obtain rfl : i = 0 := by omega
    simp [go_sem]) 9 Tryz.underlying9
   go_wp2_with fail
   go_roundg (n - (k + 1))
   case measure => omega
   case rel => exact ⟨k + 1, by omega, rfl, by rw [HN.out], by rw [HB.out], by go_num, Below.al hw _⟩
  ·obtain rfl : k = n := by omega
   rw [HE.out]; go_wp2_with fail
   go_ret
   exact ⟨rfl, hw⟩
theorem big_8 (v : Int) (w : World) (hv : 0 ≤ v) (hv' : v ≤ 18446744073709551615) :
  Calls Tryz.prog 217 #[.int .u64 v, .int .i64 8] w fun e w' => e = .returned (.string (strOfNums (be v 8))) ∧ Below w.heap.size w w' := big_any v 8 w (by decide) hv hv'
theorem big_4 (v : Int) (w : World) (hv : 0 ≤ v) (hv' : v ≤ 18446744073709551615) :
  Calls Tryz.prog 217 #[.int .u64 v, .int .i64 4] w fun e w' => e = .returned (.string (strOfNums (be v 4))) ∧ Below w.heap.size w w' := big_any v 4 w (by decide) hv hv'
theorem strOfNums_append (xs ys : List Int) : strOfNums xs ++ strOfNums ys = strOfNums (xs ++ ys) := by
 apply ByteArray.ext
 rw [ByteArray.data_append]; simp [strOfNums]
theorem refpack_any (a b c : Int) (w : World) (hs : StB a b c) :
  Calls Tryz.prog 170 #[stv a b c] w fun e w' => e = .returned (.string (strOfNums (pk a b c))) ∧ Below w.heap.size w w' := by
 obtain ⟨⟨ha0, ha1⟩, ⟨hb0, hb1⟩, hc0, hc1⟩ := hs; have hwb : IntKind.u64.wrap b = b := by rw [IntKind.wrap_u64]; omega
 have hwc : IntKind.u64.wrap c = c := by rw [IntKind.wrap_u64]; omega
 have hb1' : b ≤ 18446744073709551615 := by omega
 have hc1' : c ≤ 18446744073709551615 := by omega
 obtain ⟨s1, hs1⟩ : ∃ s, s = strOfNums (be a 8) := ⟨_, rfl⟩; obtain ⟨s2, hs2⟩ : ∃ s, s = strOfNums (be b 4) := ⟨_, rfl⟩; obtain ⟨s3, hs3⟩ : ∃ s, s = strOfNums (be c 4) := ⟨_, rfl⟩; have z1 : s1.size = 8 := by rw [hs1, strOfNums_size, bln]
 have z2 : s2.size = 4 := by rw [hs2, strOfNums_size, bln]
 have z3 : s3.size = 4 := by rw [hs3, strOfNums_size, bln]
 have c1 := fun w => big_8 a w ha0 ha1
 have c2 := fun w => big_4 b w hb0 hb1'
 have c3 := fun w => big_4 c w hc0 hc1'
 have hres : s1 ++ s2 ++ s3 = strOfNums (pk a b c) := by rw [hs1, hs2, hs3, strOfNums_append, strOfNums_append, pk, List.append_assoc]
 rw [← hs1] at c1; rw [← hs2] at c2; rw [← hs3] at c3
 have C1 := hid c1; have C2 := hid c2; have C3 := hid c3
 have HR := hid hres; clear hs1 hs2 hs3 c1 c2 c3 hres; go_enter Tryz.func170, Tryz.ntmps170
 go_wp2_with fail
 refine wp_region_quiet_below (by kernel_rfl) (by kernel_rfl) ?_; have q0 := cell_regrown (w := w.alloc (.cells #[.int .u64 a, .int .u32 b, .int .u32 c] 36)) (a := ⟨w.heap.size, 0, none⟩) (v := .int .u64 a) (by simp [go_sem]); have q1 := cell_regrown (w := w.alloc (.cells #[.int .u64 a, .int .u32 b, .int .u32 c] 36)) (a := ⟨w.heap.size, 1, none⟩) (v := .int .u32 b) (by simp [go_sem]); have q2 := cell_regrown (w := w.alloc (.cells #[.int .u64 a, .int .u32 b, .int .u32 c] 36)) (a := ⟨w.heap.size, 2, none⟩) (v := .int .u32 c) (by simp [go_sem]); repeat (go_big_quiet_step (first | (go_at_call_of 217 (Value.int IntKind.u64 a); exact Calls.regrown_of (C1.out _)) | (go_at_call_of 217 (Value.int IntKind.u64 b); exact Calls.regrown_of (C2.out _)) | (go_at_call_of 217 (Value.int IntKind.u64 c); exact Calls.regrown_of (C3.out _))))
 refine wpQuiet_nil ?_; intro w1 hw; replace hw := bor hw; clear q0 q1 q2; go_wp2_with fail
 rw [HR.out]; go_ret
 exact ⟨rfl, Below.on (Below.al (Below.refl _ _) _) hw⟩
end
namespace Ig
open Go.RowKit Go.Sort
theorem index_bytesE {t : ByteArray} {k : Nat} {c : UInt8} (hc : t.data.toList[k]? = some c) (w : World) : (Instr.index 9 (.string t) (.int .i64 (k : Int))).run Tryz.prog w = .ok (.int .u8 (c.toNat : Int)) w := by
 have hk : k < t.size := by
  have := (List.getElem?_eq_some_iff.1 hc).1; rw [Lib.size_eq]; exact this
 rw [run_index_string w 9 t .i64 k Tryz.underlying9, dif_pos (by omega)]; have h2 : t[k]'hk = c := by
  have h3 := (List.getElem?_eq_some_iff.1 hc).2; rw [← h3]; rfl
 simp [h2]
theorem eRaw_is {w0 w : World} {B p : Nat} {bs : List Nat} {s : ByteArray} (h : ED w0 w B p bs) (hl : bs.length + s.size ≤ 140737488355327) :
  Calls Tryz.prog 171 #[.pointer (some ⟨p, 0, none⟩), .string s] w fun e w' => e = .returned (.tuple #[]) ∧ ED w w' B p (bs ++ nums s) := by
 have H0 := hid h.refl; have HN : Hid ((nums s).length = s.size) := hid (nln s); obtain ⟨n, hn⟩ : ∃ n, n = s.size := ⟨_, rfl⟩; have HS := hid hn; rw [← hn] at hl HN; have hn2 : (s.size : Int) = (n : Int) := by rw [hn]
 have HL := hid hl; have hn63 : n ≤ 140737488355327 := by omega
 clear h hl hn; go_enter Tryz.func171, Tryz.ntmps171
 go_wp2_with fail
 go_loopg [4] n (fun g s4 wr => ∃ i : Nat, i ≤ n ∧ g = n - i ∧ s4 = .int .i64 i ∧ Hid (ED w wr B p (bs ++ (nums s).take i)))
 case atStart => exact ⟨0, by omega, by omega, rfl, hid (by rw [List.take_zero, List.append_nil]; exact H0.out)⟩
 case round =>
  obtain ⟨i, hi, rfl, rfl, HI⟩ := hrel; by_cases hlt : i < n
  ·obtain ⟨-, ⟨a, c, kp, ho⟩, h8, hlo⟩ := HI.out; obtain ⟨b, hb⟩ : ∃ b, s.data.toList[i]? = some b := ⟨_, List.getElem?_eq_getElem (by rw [← Lib.size_eq, ← HS.out]; exact hlt)⟩; have hix := fun W => index_bytesE (t := s) hb W
   have hbn : (nums s)[i]? = some b.toNat := by unfold nums; rw [List.getElem?_map, hb]; rfl
   have hv8 : b.toNat < 256 := b.toNat_lt; have htl : (nums s).take (i + 1) = (nums s).take i ++ [b.toNat] := by rw [List.take_add_one, hbn]; rfl
   have hlen : (bs ++ (nums s).take i).length + 1 ≤ 140737488355328 := by rw [List.length_append, List.length_take]; have := HL.out; have := HN.out; omega
   obtain ⟨a2, c2, wB, hr, cB, fB, HD⟩ := enc_app (wA := (wr.alloc (.cells #[.int .u8 (b.toNat : Int)] 5)).drew) (q := wr.heap.size) hlo kp ho h8 hv8 (Below.drew (Below.al (Below.refl _ _) _)) (World.alloc_heap_new _ _) hlen 141; have c0 : wr.cell? ⟨p, 0, none⟩ = some (.slice a (bs ++ (nums s).take i).length c) := Vs.cob kp rfl; have HG : Hid (∀ X, X = (bs ++ (nums s).take i) ++ [b.toNat] → X = bs ++ (nums s).take (i + 1)) := hid fun X e => by rw [e, htl, List.append_assoc]
   obtain ⟨q, hq⟩ : ∃ q, q = (bs ++ (nums s).take i).length := ⟨_, rfl⟩; obtain ⟨q1, hq1⟩ : ∃ q1, q1 = q + 1 := ⟨_, rfl⟩; rw [← hq] at c0 cB hr HD; rw [← hq1] at hr HD; obtain ⟨v, hv⟩ : ∃ v, v = b.toNat := ⟨_, rfl⟩; rw [← hv] at hr HD HG hix; have ca : (wr.alloc (.cells #[.int .u8 (v : Int)] 5)).cell? ⟨p, 0, none⟩ = some (.slice a q c) := cell_later (Below.al (Below.refl _ _) _) c0; have HR := hid hr; have HX := hid (HI.out.step HD.out); clear kp ho h8 hlo hb hbn hv8 htl hlen hr HD hq hq1 hv HI H0; go_wp2_with fail
   go_region_law (refine step_append_runR rfl (.tmp 15) (.tmp 19) 141 141 rfl (.slice a q c) (.slice (some ⟨_, 0, none⟩) 1 1) (by simp [Act.eval]) (by simp [Act.eval]) HR.out ?_)
   all_goals (try go_wp2_with fail)
   all_goals go_roundg (n - (i + 1))
   all_goals first | omega | exact ⟨i + 1, by omega, rfl, by go_num, hid (by have := HX.out; rw [HG.out _ rfl] at this; exact this)⟩
  ·obtain rfl : n = i := by omega
   clear hlt hi; go_wp2_with fail
   go_end0
   have := HI.out; rw [List.take_of_length_le (Nat.le_of_eq HN.out)] at this; exact ⟨rfl, this⟩
theorem wrap_u8E (v : Int) : IntKind.u8.wrap v = v % 256 := by simp [IntKind.wrap, IntKind.bits, IntKind.signed]
set_option maxRecDepth 8000 in
theorem eVarN_is {w0 w : World} {B p : Nat} {bs : List Nat} {v : Nat} (h : ED w0 w B p bs) (hv : v < 18446744073709551616) (hl : bs.length + (vb v).length ≤ 140737488355327) :
  Calls Tryz.prog 109 #[.pointer (some ⟨p, 0, none⟩), .int .u64 (v : Int)] w fun e w' => e = .returned (.tuple #[]) ∧ ED w w' B p (bs ++ vb v) := by
 have H0 := hid h.refl; have HL := hid hl; obtain ⟨V, hV⟩ : ∃ V, V = bs ++ vb v := ⟨_, rfl⟩; have HVL : Hid (V.length ≤ 140737488355327) := hid (by rw [hV, List.length_append]; exact hl); rw [← hV]; have HV := hid hV; clear h hl hV; go_enter Tryz.func109, Tryz.ntmps109
 go_wp2_with fail
 go_loopg [1] v (fun g s1 wr => ∃ (y : Nat) (cs : List Nat), y = g ∧ s1 = .int .u64 (y : Int) ∧ Hid (y < 18446744073709551616 ∧ V = cs ++ vb y) ∧ Hid (ED w wr B p cs))
 case atStart => exact ⟨v, bs, rfl, rfl, hid ⟨hv, HV.out⟩, H0.out⟩
 case round =>
  obtain ⟨g, cs, rfl, rfl, HG, HI⟩ := hrel; clear H0; have hg0 := HG.out.1; by_cases hge : 128 ≤ g
  ·have i1 : (128 : Int) ≤ (g : Int) := by omega
   have e1 : IntKind.u8.wrap (IntKind.u64.wrap ((g : Int) % 128 + 128)) = ((g % 128 + 128 : Nat) : Int) := by rw [wrap_u8E, IntKind.wrap_u64]; omega
   have e2 : IntKind.u64.wrap ((g : Int) % 128 + 128) = ((g % 128 + 128 : Nat) : Int) := by rw [IntKind.wrap_u64]; omega
   have e3 : IntKind.u8.wrap ((g % 128 + 128 : Nat) : Int) = ((g % 128 + 128 : Nat) : Int) := by rw [wrap_u8E]; omega
   obtain ⟨x, hx⟩ : ∃ x, x = g % 128 + 128 := ⟨_, rfl⟩; have hx8 : x < 256 := by omega
   rw [← hx] at e1 e2 e3; have hvb : vb g = x :: vb (g / 128) := by rw [vb_great (by omega), hx]
   have hlen : cs.length + 1 ≤ 140737488355328 := by have := HVL.out; rw [HG.out.2, hvb] at this; simp only [List.length_append, List.length_cons] at this; omega
   have CB := hid (eByte_is HI.out hx8 hlen); have HG2 : Hid (g / 128 < 18446744073709551616 ∧ V = (cs ++ [x]) ++ vb (g / 128)) := hid ⟨by omega, by rw [HG.out.2, hvb, List.append_assoc]; rfl⟩; obtain ⟨d, hd⟩ : ∃ d, d = g / 128 := ⟨_, rfl⟩; have hlt : d < g := by omega
   have i4 : ((g : Int) / 128) = (d : Int) := by omega
   have i5 : Int.tdiv (g : Int) 128 = (d : Int) := by rw [Int.tdiv_eq_ediv_of_nonneg (by omega)]; omega
   rw [← hd] at HG2; clear hvb hlen hx HG hd; go_wp2_with fail
   refine CB.out.mono ?_; rintro e w2 ⟨rfl, h2⟩; have H2 := hid (HI.out.step h2); clear h2 CB HI; go_wp2_with fail
   go_roundg d
   case measure => omega
   case rel => exact ⟨d, cs ++ [x], rfl, by go_num, HG2, H2⟩
  ·have i1 : ¬ (128 : Int) ≤ (g : Int) := by omega
   have e3 : IntKind.u8.wrap (g : Int) = (g : Int) := by rw [wrap_u8E]; omega
   have hvb : vb g = [g] := vb_small (by omega); have hlen : cs.length + 1 ≤ 140737488355328 := by have := HVL.out; rw [HG.out.2, hvb] at this; simp only [List.length_append, List.length_cons] at this; omega
   have CB := hid (eByte_is (v := g) HI.out (by omega) hlen); have HG2 : Hid (V = cs ++ [g]) := hid (by rw [HG.out.2, hvb]); clear hvb hlen HG; go_wp2_with fail
   refine CB.out.mono ?_; rintro e w2 ⟨rfl, h2⟩; have H2 := hid (HI.out.step h2); clear h2 CB HI; go_wp2_with fail
   go_end0
   exact ⟨rfl, by rw [HG2.out]; exact H2.out⟩
theorem eVar_is {w0 w : World} {B p : Nat} {bs : List Nat} {v : Int} (h : ED w0 w B p bs) (hv : okU 18446744073709551615 v) (hl : bs.length + (eU v).length ≤ 140737488355327) :
  Calls Tryz.prog 109 #[.pointer (some ⟨p, 0, none⟩), .int .u64 v] w fun e w' => e = .returned (.tuple #[]) ∧ ED w w' B p (bs ++ eU v) := by
 have e : ((v.toNat : Nat) : Int) = v := by have := hv.1; omega
 have h2 := eVarN_is (v := v.toNat) h (by have := hv.2; omega) hl; rw [e] at h2; exact h2
theorem eFlag_is {w0 w : World} {B p : Nat} {bs : List Nat} {v : Bool} (h : ED w0 w B p bs) (hl : bs.length + (eFlag v).length ≤ 140737488355327) :
  Calls Tryz.prog 113 #[.pointer (some ⟨p, 0, none⟩), .bool v] w fun e w' => e = .returned (.tuple #[]) ∧ ED w w' B p (bs ++ eFlag v) := by
 have hl' : bs.length + 1 ≤ 140737488355328 := by have : (eFlag v).length = 1 := rfl; omega
 have C1 := hid (eByte_is (v := 1) h (by decide) hl'); have C0 := hid (eByte_is (v := 0) h (by decide) hl'); clear h hl hl'; cases v with
 | true =>
  go_enter Tryz.func113, Tryz.ntmps113
  go_wp2_with fail
  refine C1.out.mono ?_; rintro e w1 ⟨rfl, h1⟩; have H1 := hid h1; clear h1; go_wp2_with fail
  go_end0
  exact ⟨rfl, H1.out⟩
 | false =>
  go_enter Tryz.func113, Tryz.ntmps113
  go_wp2_with fail
  refine C0.out.mono ?_; rintro e w1 ⟨rfl, h1⟩; have H1 := hid h1; clear h1; go_wp2_with fail
  go_end0
  exact ⟨rfl, H1.out⟩
theorem eText_is {w0 w : World} {B p : Nat} {bs : List Nat} {s : ByteArray} (h : ED w0 w B p bs) (hl : bs.length + (eX s).length ≤ 140737488355327) :
  Calls Tryz.prog 112 #[.pointer (some ⟨p, 0, none⟩), .string s] w fun e w' => e = .returned (.tuple #[]) ∧ ED w w' B p (bs ++ eX s) := by
 have hE : eX s = vb s.size ++ nums s := by unfold eX eText; rw [nln]
 rw [hE, List.length_append, nln] at hl; rw [hE]; have hw : IntKind.u64.wrap (s.size : Int) = (s.size : Int) := by rw [IntKind.wrap_u64]; omega
 have C1 := hid (eVarN_is (v := s.size) h (by omega) (by omega)); have HL := hid hl; clear h hl hE; go_enter Tryz.func112, Tryz.ntmps112
 go_wp2_with fail
 refine C1.out.mono ?_; rintro e w1 ⟨rfl, h1⟩; have H1 := hid h1; have C2 := hid (eRaw_is (s := s) H1.out (by rw [List.length_append]; have := HL.out; omega)); clear h1 C1; go_wp2_with fail
 refine C2.out.mono ?_; rintro e w2 ⟨rfl, h2⟩; have H2 := hid (H1.out.step h2); clear h2 C2; go_wp2_with fail
 go_end0
 have := H2.out; rw [List.append_assoc] at this; exact ⟨rfl, this⟩
theorem eStamp_is {w0 w : World} {B p : Nat} {bs : List Nat} {s : Vs.Sp} (h : ED w0 w B p bs) (hs : okS s) (hl : bs.length + (eS s).length ≤ 140737488355327) :
  Calls Tryz.prog 110 #[.pointer (some ⟨p, 0, none⟩), .agg #[.int .u64 s.a, .int .u32 s.b, .int .u32 s.c]] w fun e w' => e = .returned (.tuple #[]) ∧ ED w w' B p (bs ++ eS s) := by
 obtain ⟨wa, hwa⟩ : ∃ wa, wa = w.alloc (.cells #[.int .u64 s.a, .int .u32 s.b, .int .u32 s.c] 36) := ⟨_, rfl⟩; have hba : Below w.heap.size w wa := by rw [hwa]; exact Below.al (Below.refl _ _) _
 have kx : wa.heap[w.heap.size]? = some (.cells #[.int .u64 s.a, .int .u32 s.b, .int .u32 s.c] 36 (0, 0)) := by rw [hwa]; exact World.alloc_heap_new _ _
 have q0 : wa.cell? ⟨w.heap.size, 0, none⟩ = some (.int .u64 s.a) := Vs.cob kx rfl; have q1 : wa.cell? ⟨w.heap.size, 1, none⟩ = some (.int .u32 s.b) := Vs.cob kx rfl; have q2 : wa.cell? ⟨w.heap.size, 2, none⟩ = some (.int .u32 s.c) := Vs.cob kx rfl; have H0 : Hid (ED w wa B p bs) := hid (h.refl.later hba); have CP := hid (refpack_any s.a s.b s.c wa hs); have HE : Hid (strOfNums (pk s.a s.b s.c) = ofNats (eS s)) := hid (str_pkN (smOf s)); have HN : Hid (nums (ofNats (eS s)) = eS s) := hid (nums_ofNats (pkN_b8 _)); have HL := hid hl; clear h hs hl hba kx; go_enter Tryz.func110, Tryz.ntmps110
 go_wp2_with fail
 rw [← hwa]; clear hwa; refine CP.out.mono ?_; rintro e w1 ⟨rfl, hb1⟩; rw [HE.out]; obtain ⟨t, ht⟩ : ∃ t, t = ofNats (eS s) := ⟨_, rfl⟩; rw [← ht]; rw [← ht] at HN; have H1 := hid (H0.out.later hb1); have C2 := hid (eRaw_is (s := t) H1.out (by rw [← nln, HN.out]; exact HL.out)); clear hb1 q0 q1 q2 CP HE ht; go_wp2_with fail
 refine C2.out.mono ?_; rintro e w2 ⟨rfl, h2⟩; have H2 := hid (H1.out.step h2); clear h2 C2; go_wp2_with fail
 go_end0
 have := H2.out; rw [HN.out] at this; exact ⟨rfl, this⟩
theorem eWhose_is {w0 w : World} {B p : Nat} {bs : List Nat} {i : Lk.Ix} {m : Int} (h : ED w0 w B p bs) (ho : okTxn (i, m)) (hl : bs.length + (eTxn (i, m)).length ≤ 140737488355327) :
  Calls Tryz.prog 111 #[.pointer (some ⟨p, 0, none⟩), .agg #[.int .u32 i.1, .int .u32 i.2], .int .u32 m] w fun e w' => e = .returned (.tuple #[]) ∧ ED w w' B p (bs ++ eTxn (i, m)) := by
 have hE : eTxn (i, m) = eU i.1 ++ (eU i.2 ++ eU m) := rfl; rw [hE] at hl ⊢; simp only [List.length_append] at hl; obtain ⟨⟨a0, a1⟩, ⟨b0, b1⟩, c0, c1⟩ := ho; have e1 : IntKind.u64.wrap i.1 = i.1 := by rw [IntKind.wrap_u64]; have : i.1 ≤ 4294967295 := a1; have : 0 ≤ i.1 := a0; omega
 have e2 : IntKind.u64.wrap i.2 = i.2 := by rw [IntKind.wrap_u64]; have : i.2 ≤ 4294967295 := b1; have : 0 ≤ i.2 := b0; omega
 have e3 : IntKind.u64.wrap m = m := by rw [IntKind.wrap_u64]; have : m ≤ 4294967295 := c1; have : 0 ≤ m := c0; omega
 have g1 : okU 18446744073709551615 i.1 := ⟨a0, by have : i.1 ≤ 4294967295 := a1; omega⟩; have g2 : okU 18446744073709551615 i.2 := ⟨b0, by have : i.2 ≤ 4294967295 := b1; omega⟩; have g3 : okU 18446744073709551615 m := ⟨c0, by have : m ≤ 4294967295 := c1; omega⟩; obtain ⟨wa, hwa⟩ : ∃ wa, wa = w.alloc (.cells #[.int .u32 i.1, .int .u32 i.2] 33) := ⟨_, rfl⟩; have hba : Below w.heap.size w wa := by rw [hwa]; exact Below.al (Below.refl _ _) _
 have kx : wa.heap[w.heap.size]? = some (.cells #[.int .u32 i.1, .int .u32 i.2] 33 (0, 0)) := by rw [hwa]; exact World.alloc_heap_new _ _
 have KX := hid kx; have q0 : wa.cell? ⟨w.heap.size, 0, none⟩ = some (.int .u32 i.1) := Vs.cob kx rfl; have H0 : Hid (ED wa wa B p bs) := hid (h.later hba).refl; have HH := hid (h.refl.later hba); have HL := hid hl; have G1 := hid g1; have G2 := hid g2; have G3 := hid g3; have C1 := hid (eVar_is H0.out g1 (by omega)); clear h hl hba kx hE a0 a1 b0 b1 c0 c1 g1 g2 g3; go_enter Tryz.func111, Tryz.ntmps111
 go_wp2_with fail
 rw [← hwa]; clear hwa; refine C1.out.mono ?_; rintro e w1 ⟨rfl, h1⟩; have H1 := hid h1; have q1 : w1.cell? ⟨w.heap.size, 1, none⟩ = some (.int .u32 i.2) := H1.out.ec.cell KX.out (by decide) (by decide) rfl; have C2 := hid (eVar_is H1.out G2.out (by rw [List.length_append]; have := HL.out; omega)); clear h1 C1 q0; go_wp2_with fail
 refine C2.out.mono ?_; rintro e w2 ⟨rfl, h2⟩; have H2 := hid (H1.out.step h2); have C3 := hid (eVar_is H2.out G3.out (by rw [List.length_append, List.length_append]; have := HL.out; omega)); clear h2 C2 q1; go_wp2_with fail
 refine C3.out.mono ?_; rintro e w3 ⟨rfl, h3⟩; have H3 := hid (H2.out.step h3); clear h3 C3; go_wp2_with fail
 go_end0
 have := HH.out.step H3.out; simp only [List.append_assoc] at this; exact ⟨rfl, this⟩
theorem encD_text {w : World} {B : Nat} {bs : List Nat} {a : Option Addr} {c : Nat} (ho : w.ownsRow B 5 1 (.slice a bs.length c) bs.length (u8s bs)) : (convert 141 9 (.slice a bs.length c)).run Tryz.prog w = .ok (.string (ofNats bs)) w := by
 rcases ho.2 with ⟨e1, e2⟩ | ⟨g, cap, cur, e1, hg⟩
 ·have hb : bs = [] := List.eq_nil_of_length_eq_zero e2; rw [Value.slice.injEq] at e1; obtain ⟨rfl, -, rfl⟩ := e1; subst hb; exact run_convert_bytes_nil w 141 5 Tryz.underlying141 Tryz.underlying5 0 0 9 Tryz.underlying9
 ·rw [Value.slice.injEq] at e1; obtain ⟨rfl, -, rfl⟩ := e1; have hcv := run_convert_bytes_arg (P := Tryz.prog) w 141 5 Tryz.underlying141 Tryz.underlying5 g 0 bs.length c (bs.map Int.ofNat) (by rw [List.length_map]) (fun i hi => by
   have hc := ho.cellAt i (by omega); rw [Nat.zero_add, hc]; simp [u8s, List.getD, hi]) 9 Tryz.underlying9
  rw [strOfNums_nats] at hcv; exact hcv
theorem eBytes_is {w0 w : World} {B p : Nat} {bs : List Nat} (h : ED w0 w B p bs) :
  Calls Tryz.prog 115 #[.pointer (some ⟨p, 0, none⟩)] w fun e w' => e = .returned (.string (ofNats bs)) ∧ Below w.heap.size w w' := by
 obtain ⟨-, ⟨a, c, kp, ho⟩, h8, hlo⟩ := h; have c0 : w.cell? ⟨p, 0, none⟩ = some (.slice a bs.length c) := Vs.cob kp rfl; have hcv := encD_text (bs := bs) ho; obtain ⟨n, hn⟩ : ∃ n, n = bs.length := ⟨_, rfl⟩; rw [← hn] at c0 hcv; clear kp ho h8 hlo hn; go_enter Tryz.func115, Tryz.ntmps115
 go_wp2_with fail
 go_ret
 exact ⟨rfl, Below.refl _ _⟩
end Ig
section
open Go.RowKit Go.Sort
theorem refless_any (a b c x y z : Int) (w : World) :
  Calls Tryz.prog 167 #[stv a b c, stv x y z] w fun e w' => e = .returned (.bool (lessB a b c x y z)) ∧ Below w.heap.size w w' := by
 have hB : Below w.heap.size w ((w.alloc (.cells #[.int .u64 a, .int .u32 b, .int .u32 c] 36)).alloc (.cells #[.int .u64 x, .int .u32 y, .int .u32 z] 36)) :=
  ((Below.refl _ _).alloc (Nat.le_refl _) _).alloc (by simp) _
 by_cases h1 : a < x
 ·have hv : lessB a b c x y z = true := lessB_iff.2 (by omega); rw [hv]; go_enter Tryz.func167, Tryz.ntmps167
  go_wp2
  go_ret
  exact ⟨rfl, hB⟩
 ·by_cases h2 : a = x
  ·subst h2; by_cases h3 : b < y
   ·have hv : lessB a b c a y z = true := lessB_iff.2 (by omega); rw [hv]; go_enter Tryz.func167, Tryz.ntmps167
    go_wp2
    go_ret
    exact ⟨rfl, hB⟩
   ·by_cases h4 : b = y
    ·subst h4; have hv : lessB a b c a b z = decide (c < z) := by simp [lessB]
     rw [hv]; go_enter Tryz.func167, Tryz.ntmps167
     go_wp2
     go_ret
     exact ⟨rfl, hB⟩
    ·have hv : lessB a b c a y z = false := lessB_iff_false.2 (by omega); have h4' : (b == y) = false := by simpa using h4
     rw [hv]; go_enter Tryz.func167, Tryz.ntmps167
     go_wp2
     go_ret
     exact ⟨rfl, hB⟩
  ·have hv : lessB a b c x y z = false := lessB_iff_false.2 (by omega); have h2' : (a == x) = false := by simpa using h2
   rw [hv]; go_enter Tryz.func167, Tryz.ntmps167
   go_wp2
   go_ret
   exact ⟨rfl, hB⟩
end
namespace Ig
open Go.RowKit Go.Sort Ys
theorem ret_b {a b : Bool} (h : a = b) : Ending.returned (.bool a) = Ending.returned (.bool b) := by rw [h]
def vval (v : Vs.Kv) : Value := .agg #[.string v.1, .int .u64 v.2.s.a, .int .u32 v.2.s.b, .int .u32 v.2.s.c, .bool v.2.del, .string v.2.val]
theorem earlier_is {d e : Vs.Kv} {u : Bool} (hu : Vs.folB d e = u) (w : World) : Calls Tryz.prog 108 #[vval d, vval e] w fun r w' => r = .returned (.bool u) ∧ Below w.heap.size w w' := by
 obtain ⟨k1, ⟨⟨s1, s2, s3⟩, d1, v1⟩⟩ := d; obtain ⟨k2, ⟨⟨t1, t2, t3⟩, d2, v2⟩⟩ := e; have HL := hid fun wz => refless_any s1 s2 s3 t1 t2 t3 wz
 have HU : Hid ((if k1 = k2 then lessB s1 s2 s3 t1 t2 t3 else lt k1 k2) = u) := hid hu; clear hu; unfold vval; by_cases hk : k1 = k2
 ·subst hk; have h0 : Op.bytesLess k1.toList k1.toList = false := lt_irrefl k1; rw [if_pos rfl] at HU; go_enter Tryz.func108, Tryz.ntmps108
  go_wp2_with fail
  refine (HL.out _).mono ?_; rintro e w1 ⟨rfl, hb⟩; go_wp2_with fail
  go_ret
  refine ⟨ret_b HU.out, ?_⟩; refine Below.on ?_ hb
  (repeat (first | with_reducible exact Below.refl _ _ | with_reducible assumption | with_reducible refine Below.drew ?_ | with_reducible refine Below.al ?_ _ | with_reducible refine Below.setCell ?_ (by first | exact Nat.le_refl _ | simp <;> omega) _ | with_reducible refine Below.on ?_ (by assumption)))
 ·rw [if_neg hk] at HU; have heq : (k1.toList == k2.toList) = false := bne_of hk; cases hl : Op.bytesLess k1.toList k2.toList
  ·have HV : Hid (u = false) := hid (by rw [← HU.out]; exact hl); go_enter Tryz.func108, Tryz.ntmps108
   go_wp2_with fail
   go_ret
   exact ⟨ret_b HV.out.symm, by (repeat (first | with_reducible exact Below.refl _ _ | with_reducible assumption | with_reducible refine Below.drew ?_ | with_reducible refine Below.al ?_ _ | with_reducible refine Below.setCell ?_ (by first | exact Nat.le_refl _ | simp <;> omega) _ | with_reducible refine Below.on ?_ (by assumption)))⟩
  ·have HV : Hid (u = true) := hid (by rw [← HU.out]; exact hl); go_enter Tryz.func108, Tryz.ntmps108
   go_wp2_with fail
   go_ret
   exact ⟨ret_b HV.out.symm, by (repeat (first | with_reducible exact Below.refl _ _ | with_reducible assumption | with_reducible refine Below.drew ?_ | with_reducible refine Below.al ?_ _ | with_reducible refine Below.setCell ?_ (by first | exact Nat.le_refl _ | simp <;> omega) _ | with_reducible refine Below.on ?_ (by assumption)))⟩
def svB (top : Int) (V : List Vs.Kv) (i : Nat) : Bool := wOk ⟨(Vs.nthK V i).1, (Vs.nthK V i).2.del, (Vs.nthK V i).2.val⟩ && decide ((Vs.nthK V i).2.s.a < top) && (decide (i = 0) || Vs.folB (Vs.nthK V (i - 1)) (Vs.nthK V i))
end Ig
end Go.Proofs.YtofpaldolcnmiaaGreat
