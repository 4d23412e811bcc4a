import Derived.Test.YtneojeidpfjpbaaGreatDoorB30
import Derived.Laws.IdiomCopy
import Derived.Laws.MakeOwn
set_option linter.unusedVariables false
set_option maxHeartbeats 1000000
namespace Go.Proofs.YtneojeidpfjpbaaGreatDoor.Ig
open Go.Proofs.YtneojeidpfjpbaaGreatDoor
def eP {α β : Type} (e : α → List Nat) (f : β → List Nat) (p : α × β) : List Nat := e p.1 ++ f p.2
def okP {α β : Type} (a : α → Prop) (b : β → Prop) (p : α × β) : Prop := a p.1 ∧ b p.2
def okL {α : Type} (a : α → Prop) (l : List α) : Prop := (∀ x ∈ l, a x) ∧ l.length < 18446744073709551616
def eU (v : Int) : List Nat := vb v.toNat
def okU (m : Nat) (v : Int) : Prop := 0 ≤ v ∧ v ≤ m
def eX (s : ByteArray) : List Nat := eText (nums s)
def okX (m : Nat) (s : ByteArray) : Prop := s.size ≤ m
def eFlag (b : Bool) : List Nat := [if b then 1 else 0]
def eB (v : Int) : List Nat := [(v % 256).toNat]
def okB (v : Int) : Prop := 0 ≤ v ∧ v < 256
def smOf (s : Vs.Sp) : Sm := ⟨s.a, s.b, s.c⟩
def eS (s : Vs.Sp) : List Nat := pkN (smOf s)
def okS (s : Vs.Sp) : Prop := (smOf s).ok
theorem eS_len (s : Vs.Sp) : (eS s).length = 16 := pkN_length _
def eSpan : T2 → List Nat := eP eX eX
def okSpan : T2 → Prop := okP (okX 33) (okX 33)
def eWrite (x : Wr) : List Nat := eP eX (eP eFlag eX) (x.key, x.del, x.val)
def okWrite (x : Wr) : Prop := okX 32 x.key ∧ okX 64 x.val
def eTxn (i : Lk.Ix × Int) : List Nat := eP eU (eP eU eU) (i.1.1, i.1.2, i.2)
def okTxn (i : Lk.Ix × Int) : Prop := okU 4294967295 i.1.1 ∧ okU 4294967295 i.1.2 ∧ okU 4294967295 i.2
def atHd (h : Lk.Hd) : Vs.Sp := ⟨h.w, h.l, h.n⟩
def eHeld (h : Lk.Hd) : List Nat := eP eTxn (eP eS (eP (eL eSpan) (eL eWrite))) ((h.id, h.home), atHd h, h.rs, h.ws)
def okHeld (h : Lk.Hd) : Prop := okTxn (h.id, h.home) ∧ okS (atHd h) ∧ okL okSpan h.rs ∧ okL okWrite h.ws
def atEn (e : Lg.En) : Vs.Sp := ⟨e.w, e.l, e.n⟩
def eEntry (e : Lg.En) : List Nat := eP eTxn (eP eB eS) ((e.id, e.home), e.oc, atEn e)
def okEntry (e : Lg.En) : Prop := okTxn (e.id, e.home) ∧ okB e.oc ∧ okS (atEn e)
def eVersion (v : Vs.Kv) : List Nat := eP eX (eP eS (eP eFlag eX)) (v.1, v.2.s, v.2.del, v.2.val)
def okVersion (v : Vs.Kv) : Prop := okX 32 v.1 ∧ okS v.2.s ∧ okX 64 v.2.val
abbrev Im := Int × Int × Vs.Sp × List Lk.Hd × List Lg.En × List Vs.Kv
def eImg : Im → List Nat := eP eU (eP eU (eP eS (eP (eL eHeld) (eP (eL eEntry) (eL eVersion)))))
end Go.Proofs.YtneojeidpfjpbaaGreatDoor.Ig
namespace Go.Proofs.YtneojeidpfjpbaaGreatDoor
open Go.RowKit Go.Sort
def vals (t : List Nat) : List Value := t.map fun (x : Nat) => .int .u8 x
theorem vals_length (t : List Nat) : (vals t).length = t.length := by simp [vals]
theorem text_cells {t : List Nat} (ht : B8 t) : (((ofNats t).extract 0 t.length).data.map fun (b : UInt8) => Value.int .u8 b.toNat).toList = vals t := by
 have e : (ofNats t).extract 0 t.length = ofNats t := by
  rw [ofNats_extract ht, List.take_of_length_le (Nat.le_refl _), List.drop_zero]
 rw [e]; have h := nums_ofNats ht; unfold nums at h; rw [Array.toList_map]; conv => rhs; rw [vals, ← h]
 rw [List.map_map]; rfl
theorem run_copy_text {P : Program} (w : World) (dT sT ty elem : TypeId) (b o dLen dCap : Nat) (t : List Nat) (ht : B8 t)
  (hu : P.underlying dT = some (.slice elem)) (hs : (P.info? elem).map (·.size) = some 1) (hn : t.length ≤ dLen)
  (hc : ∀ j, j < t.length → (w.cell? ⟨b, o + j, none⟩).isSome = true) (hf : ∀ j, j < t.length → w.frozen? ⟨b, o + j, none⟩ = false) :
  (Builtin.copy_ #[dT, sT] ty #[.slice (some ⟨b, o, none⟩) dLen dCap, .string (ofNats t)]).run P w = .ok (goInt t.length) (w.setCells b o (vals t)) := by
 have hst := run_storeCells_cells (P := P) b o (vals t) 0 w (by simpa [vals] using hc) (by simpa [vals] using hf) (fun v hv => by
  simp only [vals, List.mem_map] at hv; obtain ⟨x, _, rfl⟩ := hv; rfl)
 have hx := text_cells ht; have hm : Nat.min (ofNats t).size dLen = t.length := by rw [ofNats_size]; exact Nat.min_eq_left hn
 cases hq : P.info? elem with
 | none => simp [hq] at hs
 | some i =>
  simp [Builtin.copy_, run_underlying hu, Builtin.lenOf, Builtin.firstCells, sizeOf, typeInfo, hq, hm]; simp at hx; rw [hx, hst]; rfl
theorem below_setCells {B b : Nat} {w : World} (hB : B ≤ b) : ∀ (vs : List Value) (o : Nat) (w1 : World), Below B w w1 → Below B w (w1.setCells b o vs)
 | [], _, _, h => h
 | v :: r, o, w1, h => by
  rw [World.setCells]; exact below_setCells hB r (o + 1) _ (h.setCell hB v)
structure RoomAt (w wr : World) (n e : Nat) (bs : List Nat) : Prop where
 below : Below w.heap.size w wr
 some' : ∀ i, i < n → (wr.cell? ⟨w.heap.size, i, none⟩).isSome = true
 ins : ∀ i, e ≤ i → i < n → wr.cell? ⟨w.heap.size, i, none⟩ = some (.int .u8 ((bs.getD i 0 : Nat) : Int))
 loose : Loose wr w.heap.size
 lt : w.heap.size < wr.heap.size
theorem RoomAt.fill {w wr : World} {n e : Nat} {bs t p r : List Nat} (h : RoomAt w wr n e bs) (hbs : bs = p ++ (t ++ r)) (he : e = p.length + t.length) (hn : n = bs.length) :
  RoomAt w (wr.drew.setCells w.heap.size p.length (vals t)) n p.length bs := by
 have hlen : p.length + t.length ≤ n := by rw [hn, hbs]; simp
 refine ⟨below_setCells (Nat.le_refl _) _ _ _ h.below.drew, fun i hi => ?_, fun i h1 h2 => ?_, fun o => ?_, ?_⟩
 ·by_cases hx : i < p.length ∨ p.length + t.length ≤ i
  ·rw [World.cell?_setCells_out _ _ _ _ _ (fun _ _ => by rw [vals_length]; exact hx)]; exact h.some' i hi
  ·have := World.cell?_setCells_in w.heap.size (vals t) p.length wr.drew (fun j hj => h.some' _ (by rw [vals_length] at hj; omega)) (i - p.length) (by rw [vals_length]; omega); rw [show p.length + (i - p.length) = i by omega] at this; rw [this]; rfl
 ·by_cases hx : p.length + t.length ≤ i
  ·rw [World.cell?_setCells_out _ _ _ _ _ (fun _ _ => by rw [vals_length]; exact .inr hx)]; exact h.ins i (by omega) h2
  ·have := World.cell?_setCells_in w.heap.size (vals t) p.length wr.drew (fun j hj => h.some' _ (by rw [vals_length] at hj; omega)) (i - p.length) (by rw [vals_length]; omega); rw [show p.length + (i - p.length) = i by omega] at this; rw [this]; simp only [vals, List.getElem_map]; have hg : bs.getD i 0 = t[i - p.length]'(by omega) := by
    rw [hbs, List.getD, List.getElem?_append_right h1, List.getElem?_append_left (by omega), List.getElem?_eq_getElem (by omega)]; rfl
   rw [hg]
 ·rw [World.frozen?_setCells]; exact h.loose o
 ·exact Nat.lt_of_lt_of_le h.lt (below_setCells (B := 0) (Nat.zero_le _) (vals t) p.length wr.drew (Below.refl _ _).drew).size
theorem RoomAt.new (w : World) (bs : List Nat) (T : TypeId) : RoomAt w (w.alloc (.cells (madeCells (Value.int .u8 0).cells bs.length) T)) bs.length bs.length bs := by
 refine ⟨Below.al (Below.refl _ _) _, fun i hi => ?_, fun i h1 h2 => by omega, fun o => by simp [go_sem], by simp⟩; rw [World.cell?_alloc_at _ _ _ _ (by simp)]; simp [madeCells, hi]
theorem info_split {P : Program} {t : TypeId} {z : Value} {s n : Nat} (h : (P.info? t).map (fun i => (i.zero, i.size, i.bytes)) = some (some z, s, n)) :
  ∃ i, P.info? t = some i ∧ i.zero = some z ∧ i.size = s ∧ i.bytes = n := by
 obtain ⟨i0, hi, hz⟩ := Option.map_eq_some_iff.1 h; injection hz with hz0 hz
 injection hz with hz1 hz2
 exact ⟨i0, hi, hz0, hz1, hz2⟩
theorem Tryz.infoU8 : (Tryz.prog.info? 5).map (fun i => (i.zero, i.size, i.bytes)) = some (some (.int .u8 0), 1, 1) := by kernel_rfl
theorem make_u8 (w : World) (l n : Nat) (hl : l ≤ n) (h : n ≤ 281474976710656) : (Instr.makeSlice 130 (.int .i64 (l : Int)) (.int .i64 (n : Int))).run Tryz.prog w = .ok (.slice (some ⟨w.heap.size, 0, none⟩) l n) (w.alloc (.cells (madeCells (Value.int .u8 0).cells n) 5)) := by
 obtain ⟨i0, hi, hz0, hz1, hz2⟩ := info_split Tryz.infoU8; have := run_make (P := Tryz.prog) w 130 5 i0 (.int .u8 0) Tryz.underlying130 hi hz0 .i64 .i64 l n (by omega) (by omega) (by rw [hz2]; omega) (by omega); rw [this, hz1]; simp
theorem Tryz.sizeU8 : (Tryz.prog.info? 5).map (·.size) = some 1 := by kernel_rfl
theorem ptrOf_ptr (cs : List (Nat × List Nat)) : ∃ q, ptrOf cs = .pointer q := by
 cases cs with
 | nil => exact ⟨_, rfl⟩
 | cons x r => exact ⟨_, rfl⟩
theorem raw_any {w : World} {A : Nat → Prop} {b o : Nat} {bs t : List Nat} (h : EncAt w A b o bs) (ht : B8 t) (hA : ∀ k, A k → k < w.heap.size) (hl : bs.length + t.length ≤ 9223372036854775807) :
  Calls Tryz.prog 63 #[.pointer (some ⟨b, o, none⟩), .string (ofNats t)] w fun e w' => e = .returned (.tuple #[]) ∧ Cel b o 2 w w' ∧ EncAt w' A b o (bs ++ t) := by
 obtain ⟨hself, ⟨cs, rfl, hch, hcA, c0⟩, c1, lo⟩ := h; obtain ⟨q, hq⟩ := ptrOf_ptr cs; rw [hq] at c0; have HQ := hid hq; clear hq; obtain ⟨n, hn⟩ : ∃ n, n = (total cs).length := ⟨_, rfl⟩; rw [← hn] at c1 hl; have HN := hid hn; have HT := hid ht; have HS := hid hself; have HC := hid hcA; have HH := hid hch; have HAA := hid hA; have hbl : b < w.heap.size := World.block_lt_of_cell? _ _ c0; have f : ∀ i, w.frozen? ⟨b, i, none⟩ = false := lo; have hts : ((ofNats t).size : Int) = (t.length : Int) := by rw [ofNats_size]
 have hw : IntKind.i64.wrap ((n : Int) + (t.length : Int)) = (n : Int) + (t.length : Int) := by rw [IntKind.wrap_i64]; omega
 clear hn ht hself hcA hch hA; go_enter Tryz.func63, Tryz.ntmps63
 go_wp2_with fail
 go_end0
 have C := (((Cel.refl b o 2 w).set o ⟨Nat.le_refl _, by omega⟩ (.pointer (some ⟨w.heap.size, 0, none⟩))).set (o + 1) ⟨by omega, by omega⟩ (.int .i64 ((n : Int) + (t.length : Int)))).al (.cells #[.pointer q, .string (ofNats t)] 142); refine ⟨rfl, C, HS.out, ⟨(w.heap.size, t) :: cs, rfl, ⟨?_, ?_, HT.out, HH.out.keep HC.out (fun k i v hk hv => C.cell (.inl (fun e => hk (e ▸ HS.out))) hv)⟩, ?_, ?_⟩, ?_, C.loose hbl lo⟩
 ·rw [HQ.out]; simp [go_sem]
 ·simp [go_sem]
 ·intro x hx; rcases List.mem_cons.1 hx with h | h
  ·subst h; exact fun ha => absurd (HAA.out _ ha) (Nat.lt_irrefl _)
  ·exact HC.out x h
 ·rw [World.cell?_alloc_past _ _ _ (by simpa [World.setCell] using hbl)]; exact cell_setc (by simp) (World.cell?_setCell_same _ _ _ c0)
 ·rw [World.cell?_alloc_past _ _ _ (by simpa [World.setCell] using hbl), World.cell?_setCell_same _ _ _ (cell_setc (by simp) c1), List.length_append, ← HN.out]; rfl
theorem below_grown {w wa w1 : World} {row : Option Nat} (h : Below w.heap.size w wa) (k : wa.grownBy w1 row) (hr : ∀ g, row = some g → w.heap.size ≤ g) : Below w.heap.size w w1 :=
 ⟨k.os.trans h.os, k.tape.trans h.tape, k.output.trans h.output, Nat.le_trans h.size k.size, fun i hi => (k.block i (Nat.lt_of_lt_of_le hi h.size) (fun e => by have := hr i e.symm; omega)).trans (h.block i hi)⟩
theorem owns_al {w w' : World} {B size n : Nat} {e : TypeId} {v : Value} {xs : List Value} (h : w.ownsRow B e size v n xs) (hb : Below w.heap.size w w') : w'.ownsRow B e size v n xs := by
 obtain ⟨h1, h2 | ⟨g, cap, cur, hv, hg, hh, r⟩⟩ := h
 ·exact ⟨h1, .inl h2⟩
 ·refine ⟨h1, .inr ⟨g, cap, cur, hv, hg, ?_, r⟩⟩; rw [hb.block g (by
   rcases Nat.lt_or_ge g w.heap.size with h | h
   ·exact h
   ·rw [Array.getElem?_eq_none h] at hh; cases hh)]
  exact hh
theorem owns_cells {w : World} {B n g cap : Nat} {e : TypeId} {xs : List Value} (h : w.ownsRow B e 1 (.slice (some ⟨g, 0, none⟩) n cap) n xs) : ∀ i v, xs[i]? = some v → w.cell? ⟨g, i, none⟩ = some v := by
 intro i v hv; obtain ⟨h1, h2 | ⟨g', cap', cur, hs, hg, hh, hn, hc, hsz, hx⟩⟩ := h
 ·cases h2.1
 ·injection hs with e1 e2 e3
  injection e1 with e1
  injection e1 with e1
  subst e1; have hi : i < xs.length := by
   rcases Nat.lt_or_ge i xs.length with h | h
   ·exact h
   ·rw [List.getElem?_eq_none h] at hv; cases hv
  rw [← hx, List.getElem?_take] at hv; split at hv
  ·simp [World.cell?, hh]; simpa using hv
  ·cases hv
structure GrowAt (w wr : World) (g cap : Nat) (pre : List Nat) : Prop where
 below : Below w.heap.size w wr
 own : wr.ownsRow w.heap.size 5 1 (.slice (some ⟨g, 0, none⟩) pre.length cap) pre.length (vals pre)
set_option maxRecDepth 100000 in
theorem var_any {w : World} {A : Nat → Prop} {b o : Nat} {bs : List Nat} {v : Nat} (h : EncAt w A b o bs) (hv : v < 18446744073709551616) (hA : ∀ k, A k → k < w.heap.size) (hl : bs.length + 10 ≤ 9223372036854775807) :
  Calls Tryz.prog 27 #[.pointer (some ⟨b, o, none⟩), .int .u64 (v : Int)] w fun e w' => e = .returned (.tuple #[]) ∧ Cel b o 2 w w' ∧ EncAt w' A b o (bs ++ vb v) := by
 obtain ⟨i0, hi, hz0, hz1, hz2⟩ := info_split Tryz.infoU8; have H := hid h; have HA := hid hA; clear h hA; obtain ⟨w1, hmk, hown, hgr⟩ := run_make_own (P := Tryz.prog) w w.heap.size 130 5 i0 (.int .u8 0) 1 Tryz.underlying130 hi hz0 hz1 .i64 .i64 10 (by rw [hz2]; omega) (by unfold maxLen; omega) (Nat.le_refl _); have R0 : GrowAt w w1 w.heap.size 10 [] := ⟨below_grown (Below.refl _ _) hgr (fun g e => by cases e), hown⟩; replace hmk : (Instr.makeSlice 130 (.int .i64 0) (.int .i64 10)).run Tryz.prog w = .ok (.slice (some ⟨w.heap.size, 0, none⟩) 0 10) w1 := hmk; clear hown hgr; have HR := hid R0; clear R0; go_enter Tryz.func27, Tryz.ntmps27
 go_wp2_with fail
 go_loopg [1, 4] (vb v).length (fun n s1 s4 wr => ∃ (x g cap : Nat) (pre : List Nat), n = (vb x).length ∧ s1 = .int .u64 (x : Int) ∧ s4 = .slice (some ⟨g, 0, none⟩) pre.length cap ∧ Hid (vb v = pre ++ vb x ∧ x < 18446744073709551616 ∧ GrowAt w wr g cap pre))
 case atStart => exact ⟨v, w.heap.size, 10, [], rfl, rfl, rfl, rfl, hv, HR.out⟩
 case round =>
  obtain ⟨x, g, cap, pre, rfl, rfl, rfl, HH⟩ := hrel; clear hmk HR; obtain ⟨hpre, hx, hG⟩ := HH.out; by_cases hlt : 128 ≤ x
  ·have hvb : vb x = (x % 128 + 128) :: vb (x / 128) := vb_great (by omega); have hor := or128 (x % 256) (by omega); have hor2 : ((x % 256 % 128 + 128 : Nat) : Int) = ((x % 128 + 128 : Nat) : Int) := by congr 1; omega
   rw [hor2] at hor; have hwr : IntKind.u8.wrap (x : Int) = ((x % 256 : Nat) : Int) := by simp [IntKind.wrap, IntKind.bits, IntKind.signed]
   obtain ⟨y, hy⟩ : ∃ y : Nat, y = x % 128 + 128 := ⟨_, rfl⟩; rw [← hy] at hor hvb; have hy' : y < 256 := by omega
   obtain ⟨z, hz⟩ : ∃ z : Nat, z = x % 256 := ⟨_, rfl⟩; rw [← hz] at hor hwr; have HSH : Hid ((x : Int) / 128 = ((x / 128 : Nat) : Int)) := (by omega : (x : Int) / 128 = ((x / 128 : Nat) : Int)); have HV := hid hvb; have HG := hid hG; have HP := hid hpre; have HX := hid hx; have hn : pre.length + 1 ≤ 10 := by rw [hvb] at hpre; have := congrArg List.length hpre; simp at this; have := vb_len v 0 (by decide) (by unfold lim; omega); omega
   obtain ⟨wa, hwa⟩ : ∃ wa, wa = wr.alloc (.cells #[.int .u8 (y : Int)] 5) := ⟨_, rfl⟩; have hba : Below wr.heap.size wr wa := by rw [hwa]; exact Below.al (Below.refl _ _) _
   have n0 : wa.cell? ⟨wr.heap.size, 0, none⟩ = some (.int .u8 (y : Int)) := by rw [hwa]; simp [go_sem]
   have Hwa := hid hwa; have hsz : w.heap.size ≤ wa.heap.size := Nat.le_trans hG.below.size hba.size; have hge : decide ((128 : Int) ≤ (x : Int)) = true := by simp; omega
   have HL := hid hlt; clear hvb hG hpre HH hy hz hwa hor2 hlt hx; go_wp2_with (at_builtin; rw [← Hwa.out]; refine wpList_append_lies _ rfl _ _ 130 rfl w.heap.size 5 i0 (.int .u8 0) 1 1 Tryz.underlying130 hi hz0 hz1 hz2 rfl (by decide) _ pre.length (vals pre) rfl (owns_al HG.out.own hba) ⟨wr.heap.size, 0, none⟩ 1 1 [.int .u8 (y : Int)] rfl rfl ?c1 ?c2 (by decide) ?c3 ?c4 ?c5 wa.heap.size rfl ?_)
   case c1 =>
    intro j u hj; match j, hj with
    | 0, hj => simp at hj; subst hj; simpa [Addr.add] using n0
   case c2 => intro u hu; simp at hu; subst hu; rfl
   case c3 => unfold maxLen; omega
   case c4 => omega
   case c5 => exact hsz
   ·intro g' cap' w2 hown hgrow hat hgl; have hG' : GrowAt w w2 g' cap' (pre ++ [y]) := by
     refine ⟨below_grown (Below.on HG.out.below hba) hgrow (fun q e => ?_), ?_⟩
     ·injection e with e; subst e; exact (HG.out.own.lt g rfl).1
     ·rw [List.length_append]; simpa [vals] using hown
    have HG' := hid hG'; clear hown hgrow hat hgl hG'; go_wp2_with fail
    go_roundg (vb (x / 128)).length
    case measure => rw [HV.out]; simp
    case rel =>
     refine ⟨x / 128, g', cap', pre ++ [y], rfl, by rw [HSH.out], by simp, ?_, by have := HX.out; omega, HG'.out⟩; rw [HP.out, HV.out]; simp
  ·have hvb : vb x = [x] := vb_small (by omega); have hwr : IntKind.u8.wrap (x : Int) = (x : Int) := by simp [IntKind.wrap, IntKind.bits, IntKind.signed]; omega
   have HG := hid hG; have HP := hid hpre; have hn : pre.length + 1 ≤ 10 := by rw [hvb] at hpre; have := congrArg List.length hpre; simp at this; have := vb_len v 0 (by decide) (by unfold lim; omega); omega
   obtain ⟨wa, hwa⟩ : ∃ wa, wa = wr.alloc (.cells #[.int .u8 (x : Int)] 5) := ⟨_, rfl⟩; have hba : Below wr.heap.size wr wa := by rw [hwa]; exact Below.al (Below.refl _ _) _
   have n0 : wa.cell? ⟨wr.heap.size, 0, none⟩ = some (.int .u8 (x : Int)) := by rw [hwa]; simp [go_sem]
   have Hwa := hid hwa; have hsz : w.heap.size ≤ wa.heap.size := Nat.le_trans hG.below.size hba.size; have hge : decide ((128 : Int) ≤ (x : Int)) = false := by simp; omega
   have HX : Hid (x < 128) := (by omega : x < 128); have HV := hid hvb; clear hvb hG hpre HH hwa hlt hx; go_wp2_with (at_builtin; rw [← Hwa.out]; refine wpList_append_lies _ rfl _ _ 130 rfl w.heap.size 5 i0 (.int .u8 0) 1 1 Tryz.underlying130 hi hz0 hz1 hz2 rfl (by decide) _ pre.length (vals pre) rfl (owns_al HG.out.own hba) ⟨wr.heap.size, 0, none⟩ 1 1 [.int .u8 (x : Int)] rfl rfl ?c1 ?c2 (by decide) ?c3 ?c4 ?c5 wa.heap.size rfl ?_)
   case c1 =>
    intro j u hj; match j, hj with
    | 0, hj => simp at hj; subst hj; simpa [Addr.add] using n0
   case c2 => intro u hu; simp at hu; subst hu; rfl
   case c3 => unfold maxLen; omega
   case c4 => omega
   case c5 => exact hsz
   ·intro g' cap' w2 hown hgrow hat hgl; have hG' : GrowAt w w2 g' cap' (pre ++ [x]) := by
     refine ⟨below_grown (Below.on HG.out.below hba) hgrow (fun q e => ?_), ?_⟩
     ·injection e with e; subst e; exact (HG.out.own.lt g rfl).1
     ·rw [List.length_append]; simpa [vals] using hown
    have HP' : Hid (vb v = pre ++ [x]) := (by show vb v = pre ++ [x]; rw [HP.out, HV.out]); have hcv := run_convert_bytes_arg (P := Tryz.prog) w2 130 5 Tryz.underlying130 Tryz.underlying5 g' 0 (pre.length + 1) cap' ((vb v).map Int.ofNat) (by rw [HP'.out]; simp) (fun i hi => by
     rw [Nat.zero_add]; refine owns_cells hG'.own i _ ?_; have : i < (pre ++ [x]).length := by simpa using hi
     rw [HP'.out]; simp only [vals, List.getElem?_map, List.getD]; rw [List.getElem?_eq_getElem this]; rfl) 9 Tryz.underlying9
    rw [strOfNums_nats] at hcv; have HE : Hid (EncAt w2 A b o bs) := H.out.later hG'.below; have HAA : Hid (∀ k, A k → k < w2.heap.size) := fun k hk => Nat.lt_of_lt_of_le (HA.out k hk) hG'.below.size
    have HB := hid hG'.below; have HL : Hid (bs.length + (vb v).length ≤ 9223372036854775807) := (by have := vb_len v 0 (by decide) (by unfold lim; omega); show bs.length + (vb v).length ≤ 9223372036854775807; omega); clear hown hgrow hat hgl hG' HG HP HP' HV H HA hba n0 Hwa; go_wp2_with (go_at_call 63; refine (raw_any HE.out (vb_byte v) HAA.out HL.out).mono ?_; rintro e w3 ⟨rfl, hc3, he3⟩; have HC := hid hc3; have HE3 := hid he3; clear hc3 he3)
    go_end0
    exact ⟨rfl, (Cel.of_below HB.out).trans HC.out, HE3.out⟩
theorem byte_any {w : World} {A : Nat → Prop} {b o : Nat} {bs : List Nat} {v : Nat} (h : EncAt w A b o bs) (hv : v < 256) (hA : ∀ k, A k → k < w.heap.size) (hl : bs.length + 1 ≤ 9223372036854775807) :
  Calls Tryz.prog 72 #[.pointer (some ⟨b, o, none⟩), .int .u8 (v : Int)] w fun e w' => e = .returned (.tuple #[]) ∧ Cel b o 2 w w' ∧ EncAt w' A b o (bs ++ [v]) := by
 obtain ⟨wa, hwa⟩ : ∃ wa, wa = w.alloc (.cells #[.int .u8 (v : Int)] 5) := ⟨_, rfl⟩; have hba : Below w.heap.size w wa := by rw [hwa]; exact Below.al (Below.refl _ _) _
 have hcv := run_convert_bytes_arg (P := Tryz.prog) wa 130 5 Tryz.underlying130 Tryz.underlying5 w.heap.size 0 1 1 ([v].map Int.ofNat) rfl (fun i hi => by
  match i, hi with
  | 0, _ => rw [hwa]; simp [go_sem]) 9 Tryz.underlying9
 rw [strOfNums_nats] at hcv; rw [hwa] at hcv; have HE := hid (h.later hba); have HA : Hid (∀ k, A k → k < wa.heap.size) := fun k hk => Nat.lt_of_lt_of_le (hA k hk) hba.size
 have HB := hid hba; have HWA := hid hwa; clear h hA hba hwa; go_enter Tryz.func72, Tryz.ntmps72
 go_wp2_with (go_at_call 63; rw [← HWA.out]; refine (raw_any HE.out (B8.one hv) HA.out hl).mono ?_; rintro e w1 ⟨rfl, hc, he⟩)
 go_end0
 exact ⟨rfl, (Cel.of_below HB.out).trans hc, he⟩
theorem flag_any {w : World} {A : Nat → Prop} {b o : Nat} {bs : List Nat} {v : Bool} (h : EncAt w A b o bs) (hA : ∀ k, A k → k < w.heap.size) (hl : bs.length + 1 ≤ 9223372036854775807) :
  Calls Tryz.prog 75 #[.pointer (some ⟨b, o, none⟩), .bool v] w fun e w' => e = .returned (.tuple #[]) ∧ Cel b o 2 w w' ∧ EncAt w' A b o (bs ++ [if v then 1 else 0]) := by
 have H := hid h; have HA := hid hA; clear h hA; cases v
 ·go_enter Tryz.func75, Tryz.ntmps75
  go_wp2_with (go_at_call 72; refine (byte_any (v := 0) H.out (by decide) HA.out hl).mono ?_; rintro e w1 ⟨rfl, hc, he⟩)
  go_end0
  exact ⟨rfl, hc, he⟩
 ·go_enter Tryz.func75, Tryz.ntmps75
  go_wp2_with (go_at_call 72; refine (byte_any (v := 1) H.out (by decide) HA.out hl).mono ?_; rintro e w1 ⟨rfl, hc, he⟩)
  go_end0
  exact ⟨rfl, hc, he⟩
theorem text_any {w : World} {A : Nat → Prop} {b o : Nat} {bs t : List Nat} (h : EncAt w A b o bs) (ht : B8 t) (hA : ∀ k, A k → k < w.heap.size) (hl : bs.length + t.length + 10 ≤ 9223372036854775807) :
  Calls Tryz.prog 74 #[.pointer (some ⟨b, o, none⟩), .string (ofNats t)] w fun e w' => e = .returned (.tuple #[]) ∧ Cel b o 2 w w' ∧ EncAt w' A b o (bs ++ eText t) := by
 have H := hid h; have HA := hid hA; have HT := hid ht; have hsz : ((ofNats t).size : Int) = (t.length : Int) := by rw [ofNats_size]
 have hw : IntKind.u64.wrap (t.length : Int) = (t.length : Int) := by rw [IntKind.wrap_u64]; omega
 have hv := vb_len t.length 0 (by decide) (by unfold lim; omega); have HL : Hid (bs.length + 10 ≤ 9223372036854775807 ∧ t.length < 18446744073709551616 ∧ (bs ++ vb t.length).length + t.length ≤ 9223372036854775807) := ⟨by omega, by omega, by rw [List.length_append]; omega⟩; clear h hA ht hv; go_enter Tryz.func74, Tryz.ntmps74
 go_wp2_with fail
 refine (var_any H.out HL.out.2.1 HA.out HL.out.1).mono ?_; rintro e w1 ⟨rfl, hc1, he1⟩; have HC := hid hc1; have HE := hid he1; clear hc1 he1; go_wp2_with fail
 refine (raw_any HE.out HT.out (fun k hk => Nat.lt_of_lt_of_le (HA.out k hk) HC.out.size) HL.out.2.2).mono ?_; rintro e w2 ⟨rfl, hc2, he2⟩; go_wp2_with fail
 go_end0
 refine ⟨rfl, HC.out.trans hc2, ?_⟩; rw [eText, ← List.append_assoc]; exact he2
theorem stampE_any {w : World} {A : Nat → Prop} {b o : Nat} {bs : List Nat} {x : Sm} (h : EncAt w A b o bs) (hx : x.ok) (hA : ∀ k, A k → k < w.heap.size) (hl : bs.length + 16 ≤ 9223372036854775807) :
  Calls Tryz.prog 28 #[.pointer (some ⟨b, o, none⟩), stv x.w x.l x.n] w fun e w' => e = .returned (.tuple #[]) ∧ Cel b o 2 w w' ∧ EncAt w' A b o (bs ++ pkN x) := by
 obtain ⟨wa, hwa⟩ : ∃ wa, wa = w.alloc (.cells #[.int .u64 x.w, .int .u32 x.l, .int .u32 x.n] 28) := ⟨_, rfl⟩; have hba : Below w.heap.size w wa := by rw [hwa]; exact Below.al (Below.refl _ _) _
 have q0 : wa.cell? ⟨w.heap.size, 0, none⟩ = some (.int .u64 x.w) := by rw [hwa]; simp [go_sem]
 have q1 : wa.cell? ⟨w.heap.size, 1, none⟩ = some (.int .u32 x.l) := by rw [hwa]; simp [go_sem]
 have q2 : wa.cell? ⟨w.heap.size, 2, none⟩ = some (.int .u32 x.n) := by rw [hwa]; simp [go_sem]
 have H := hid h; have HA := hid hA; have HX := hid hx; have HB := hid hba; have HWA := hid hwa; clear h hA hx hba hwa; go_enter Tryz.func28, Tryz.ntmps28
 go_wp2_with fail
 rw [← HWA.out]; refine (pack_any x.w x.l x.n wa HX.out.1 HX.out.2.1 HX.out.2.2).mono ?_; rintro e w1 ⟨rfl, hb1⟩; have hs := str_pkN x; unfold pk at hs; rw [hs]; have HB1 := hid hb1; clear hs hb1; go_wp2_with fail
 refine (raw_any (H.out.later (Below.on HB.out HB1.out)) (pkN_b8 x) (fun k hk => Nat.lt_of_lt_of_le (HA.out k hk) (Below.on HB.out HB1.out).size) (by rw [pkN_length]; exact hl)).mono ?_; rintro e w2 ⟨rfl, hc2, he2⟩; go_wp2_with fail
 go_end0
 exact ⟨rfl, (Cel.of_below (Below.on HB.out HB1.out)).trans hc2, he2⟩
end Go.Proofs.YtneojeidpfjpbaaGreatDoor
