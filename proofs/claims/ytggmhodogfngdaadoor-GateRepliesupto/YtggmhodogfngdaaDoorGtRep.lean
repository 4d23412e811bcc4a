import Derived.Test.YtggmhodogfngdaaDoorGtSn
import Derived.Test.YtggmhodogfngdaaDoorGtVal
import Derived.Test.YtggmhodogfngdaaDoorGtPairs
/- The program's reply to an answer. -/
namespace Go.Proofs.YtggmhodogfngdaaDoor.Gt
open Go.Proofs.YtggmhodogfngdaaDoor Go.Proofs.YtggmhodogfngdaaDoor.Rt Go.RowKit Go.Sort
set_option linter.unusedVariables false

/-- an answer: its numbers, its texts, its pairs and where they lie -/
structure An where
  cl : Nat
  tc : Nat
  ts : Nat
  op : Og
  st : Int
  aw : Nat
  al : Nat
  an : Nat
  pr : List (List Nat × List Nat)
  pa : Option Addr
  pc : Nat
  tok : List Nat
def An.cells (a : An) : Array Value := #[.int .u32 (a.cl : Int), .int .u32 (a.tc : Int), .int .u32 (a.ts : Int), .int .i64 a.op.kd, .bool a.op.ro, .bool a.op.asof, .bool a.op.back, .string (ofNats a.op.tok), .string (ofNats a.op.key), .string (ofNats a.op.hi), .string (ofNats a.op.val), .int .i64 a.op.lim, .int .i64 a.st, .int .u64 (a.aw : Int), .int .u32 (a.al : Int), .int .u32 (a.an : Int), .slice a.pa a.pr.length a.pc, .string (ofNats a.tok)]
structure An.Ok (a : An) : Prop where
  tc : a.tc < 4294967296
  ts : a.ts < 4294967296
  st0 : -9223372036854775808 ≤ a.st
  st1 : a.st ≤ 9223372036854775807
  aw : a.aw < 18446744073709551616
  al : a.al < 4294967296
  an : a.an < 4294967296
  pr : OkP a.pr
  prn : a.pr.length ≤ 1099511627776
  t8 : B8 a.tok
  tl : a.tok.length ≤ 1099511627776
def errHd : List Nat := [101, 114, 114, 111, 114, 32]
def begHd : List Nat := [98, 101, 103, 117, 110, 32]
def comHd : List Nat := [99, 111, 109, 109, 105, 116, 116, 101, 100, 32]
def okL : List Nat := [111, 107]
def begL (a : An) : List Nat := begHd ++ (decN a.tc ++ 32 :: (decN a.ts ++ 32 :: stampL a.aw a.al a.an))
def comL (a : An) : List Nat := comHd ++ (stampL a.aw a.al a.an ++ 32 :: wordL a.tok)
/-- the reply's text -/
def repL (a : An) : List Nat :=
  if a.st ≠ 0 then errHd ++ nameL a.st
  else if a.op.kd = 1 then begL a
  else if a.op.kd = 2 then valL a.pr
  else if a.op.kd = 3 then prL a.pr
  else if a.op.kd = 6 then comL a
  else okL
theorem txt_nats (w l n : Nat) : txt (w : Int) (l : Int) (n : Int) = ofNats (stampL w l n) := by
  unfold txt stampL
  rw [show (dot : ByteArray) = ofNats [46] from rfl]
  simp only [Int.toNat_natCast, dec_nats, ofNats_append]
  simp
theorem stampL_len {w l n : Nat} (h1 : w < 18446744073709551616) (h2 : l < 4294967296) (h3 : n < 4294967296) : (stampL w l n).length ≤ 62 := by
  have := decN_le h1
  have := decN_le (u := l) (by omega)
  have := decN_le (u := n) (by omega)
  simp [stampL]; omega
/-- the cells that a reply reads out of the answer's box -/
theorem keepA {wb z : World} {h : Nat} {v1 v2 v3 v4 v5 v6 : Value} (q1 : wb.cell? ⟨h, 1, none⟩ = some v1) (q2 : wb.cell? ⟨h, 2, none⟩ = some v2) (q3 : wb.cell? ⟨h, 13, none⟩ = some v3) (q4 : wb.cell? ⟨h, 14, none⟩ = some v4) (q5 : wb.cell? ⟨h, 15, none⟩ = some v5) (q6 : wb.cell? ⟨h, 17, none⟩ = some v6) (hb : Below wb.heap.size wb z) :
    z.cell? ⟨h, 1, none⟩ = some v1 ∧ z.cell? ⟨h, 2, none⟩ = some v2 ∧ z.cell? ⟨h, 13, none⟩ = some v3 ∧ z.cell? ⟨h, 14, none⟩ = some v4 ∧ z.cell? ⟨h, 15, none⟩ = some v5 ∧ z.cell? ⟨h, 17, none⟩ = some v6 ∧ Below wb.heap.size wb z :=
  ⟨cell_on hb q1, cell_on hb q2, cell_on hb q3, cell_on hb q4, cell_on hb q5, cell_on hb q6, hb⟩

set_option maxHeartbeats 2000000 in
set_option maxRecDepth 100000 in
theorem prep_err {a : An} (hk : a.Ok) (h0 : a.st ≠ 0) (w : World) (ht : PowTab w) (hn : NmTab w) (hs : 0 < w.heap.size) :
    Calls Tryd.prog 6 #[.agg a.cells] w fun r w' => r = .returned (.string (ofNats (errHd ++ nameL a.st))) ∧ Below w.heap.size w w' := by
  obtain ⟨cl, tc, ts, ⟨kd, ro, asof, back, tok, key, hi, val, lim⟩, st, aw, al, an, pr, pa, pc, tk⟩ := a
  have C := hid (fun W (hW : Below w.heap.size w W) => sname_is hk.st0 hk.st1 W (ht.later hW) (hn.later hs hW))
  have hz : (ofNats (nameL st)).size ≤ 21 := by rw [ofNats_size]; exact name_le hk.st0 hk.st1
  have HR : Hid ((⟨#[101, 114, 114, 111, 114, 32]⟩ : ByteArray) ++ ofNats (nameL st) = ofNats (errHd ++ nameL st)) := hid (by
    rw [show (⟨#[101, 114, 114, 111, 114, 32]⟩ : ByteArray) = ofNats errHd from rfl, ofNats_append])
  obtain ⟨eh, heh⟩ : ∃ eh : ByteArray, eh = ⟨#[101, 114, 114, 111, 114, 32]⟩ := ⟨_, rfl⟩
  have zd : eh.size = 6 := by rw [heh]; rfl
  rw [← heh] at HR
  have heh' : (⟨#[101, 114, 114, 111, 114, 32]⟩ : ByteArray) = eh := heh.symm
  simp only [An.cells] at h0 C HR ⊢
  clear heh hk ht hn
  generalize ofNats (nameL st) = s0 at *
  have n0 : ¬ 9223372036854775807 < 6 + s0.size := by omega
  go_enter Tryd.func6, Tryd.ntmps6
  go_wp2_with fail
  refine (C.out _ (by (repeat (first | with_reducible exact Below.refl _ _ | with_reducible assumption | with_reducible refine Below.drew ?_ | with_reducible refine Below.al ?_ _ | with_reducible refine Below.setCell ?_ (by first | exact Nat.le_refl _ | (simp; omega) | (simp; done)) _ | with_reducible refine Below.on ?_ (by assumption))))).mono ?_
  rintro e w1 ⟨rfl, hb⟩
  have HB := hid (Below.on (Below.al (Below.refl w.heap.size w) _) hb)
  clear hb
  go_wp2_with fail
  rw [HR.out]
  go_ret
  exact ⟨rfl, HB.out⟩

set_option maxHeartbeats 2000000 in
set_option maxRecDepth 100000 in
theorem prep_begin {a : An} (hk : a.Ok) (h0 : a.st = 0) (h1 : a.op.kd = 1) (w : World) (ht : PowTab w) (hr : PrRow w a.pa a.pr) :
    Calls Tryd.prog 6 #[.agg a.cells] w fun r w' => r = .returned (.string (ofNats (begL a))) ∧ Below w.heap.size w w' := by
  obtain ⟨cl, tc, ts, ⟨kd, ro, asof, back, tok, key, hi, val, lim⟩, st, aw, al, an, pr, pa, pc, tk⟩ := a
  simp only at h0 h1
  subst h0 h1
  obtain ⟨ktc, kts, _, _, kaw, kal, kan, _, _, k8, kl⟩ := hk
  simp only at ktc kts kaw kal kan k8 kl
  have C1 := hid (fun W (hW : Below w.heap.size w W) => gdec_is ktc W (ht.later hW))
  have C2 := hid (fun W (hW : Below w.heap.size w W) => gdec_is kts W (ht.later hW))
  have C3 := hid (fun W (hW : Below w.heap.size w W) => text_any (aw : Int) (al : Int) (an : Int) W ⟨⟨by omega, by omega⟩, ⟨by omega, by omega⟩, by omega, by omega⟩ (ht.later hW))
  rw [txt_nats] at C3
  have z1 : (ofNats (decN tc)).size ≤ 20 := by rw [ofNats_size]; exact decN_le (by omega)
  have z2 : (ofNats (decN ts)).size ≤ 20 := by rw [ofNats_size]; exact decN_le (by omega)
  have z3 : (ofNats (stampL aw al an)).size ≤ 62 := by rw [ofNats_size]; exact stampL_len kaw kal kan
  obtain ⟨bh, hbh⟩ : ∃ bh : ByteArray, bh = ⟨#[98, 101, 103, 117, 110, 32]⟩ := ⟨_, rfl⟩
  have zd : bh.size = 6 := by rw [hbh]; rfl
  have HR : Hid (bh ++ ofNats (decN tc) ++ sp ++ ofNats (decN ts) ++ sp ++ ofNats (stampL aw al an) = ofNats (begL ⟨cl, tc, ts, ⟨1, ro, asof, back, tok, key, hi, val, lim⟩, 0, aw, al, an, pr, pa, pc, tk⟩)) := hid (by
    rw [hbh, show (⟨#[98, 101, 103, 117, 110, 32]⟩ : ByteArray) = ofNats begHd from rfl, show sp = ofNats [32] from rfl]
    simp only [ofNats_append, begL]
    simp)
  have hbh' : (⟨#[98, 101, 103, 117, 110, 32]⟩ : ByteArray) = bh := hbh.symm
  simp only [An.cells]
  clear hbh ht hr
  generalize ofNats (begL ⟨cl, tc, ts, ⟨1, ro, asof, back, tok, key, hi, val, lim⟩, 0, aw, al, an, pr, pa, pc, tk⟩) = res at *
  generalize ofNats (decN tc) = s1 at *
  generalize ofNats (decN ts) = s2 at *
  generalize ofNats (stampL aw al an) = s3 at *
  generalize ofNats tk = tkb at *
  have zs : sp.size = 1 := rfl
  have hsp : (⟨#[32]⟩ : ByteArray) = sp := rfl
  have n1 : ¬ 9223372036854775807 < 6 + s1.size := by omega
  have n2 : ¬ 9223372036854775807 < 6 + s1.size + 1 := by omega
  have n3 : ¬ 9223372036854775807 < 6 + s1.size + 1 + s2.size := by omega
  have n4 : ¬ 9223372036854775807 < 6 + s1.size + 1 + s2.size + 1 := by omega
  have n5 : ¬ 9223372036854775807 < 6 + s1.size + 1 + s2.size + 1 + s3.size := by omega
  obtain ⟨wb, hwb⟩ : ∃ wb, wb = w.alloc (.cells #[.int .u32 (cl : Int), .int .u32 (tc : Int), .int .u32 (ts : Int), .int .i64 1, .bool ro, .bool asof, .bool back, .string (ofNats tok), .string (ofNats key), .string (ofNats hi), .string (ofNats val), .int .i64 lim, .int .i64 0, .int .u64 (aw : Int), .int .u32 (al : Int), .int .u32 (an : Int), .slice pa pr.length pc, .string tkb] 34) := ⟨_, rfl⟩
  have hB : Below w.heap.size w wb := by rw [hwb]; (repeat (first | with_reducible exact Below.refl _ _ | with_reducible assumption | with_reducible refine Below.drew ?_ | with_reducible refine Below.al ?_ _ | with_reducible refine Below.setCell ?_ (by first | exact Nat.le_refl _ | (simp; omega) | (simp; done)) _ | with_reducible refine Below.on ?_ (by assumption)))
  have q1 : wb.cell? ⟨w.heap.size, 1, none⟩ = some (.int .u32 (tc : Int)) := by rw [hwb]; simp [go_sem]
  have q2 : wb.cell? ⟨w.heap.size, 2, none⟩ = some (.int .u32 (ts : Int)) := by rw [hwb]; simp [go_sem]
  have q3 : wb.cell? ⟨w.heap.size, 13, none⟩ = some (.int .u64 (aw : Int)) := by rw [hwb]; simp [go_sem]
  have q4 : wb.cell? ⟨w.heap.size, 14, none⟩ = some (.int .u32 (al : Int)) := by rw [hwb]; simp [go_sem]
  have q5 : wb.cell? ⟨w.heap.size, 15, none⟩ = some (.int .u32 (an : Int)) := by rw [hwb]; simp [go_sem]
  have q6 : wb.cell? ⟨w.heap.size, 17, none⟩ = some (.string tkb) := by rw [hwb]; simp [go_sem]
  have D1 : Hid (∀ W, Below wb.heap.size wb W → Calls Tryd.prog 13 #[.int .u32 (tc : Int)] W fun r w' => r = .returned (.string s1) ∧ Below W.heap.size W w') := hid (fun W hW => C1.out W (Below.on hB hW))
  have D2 : Hid (∀ W, Below wb.heap.size wb W → Calls Tryd.prog 13 #[.int .u32 (ts : Int)] W fun r w' => r = .returned (.string s2) ∧ Below W.heap.size W w') := hid (fun W hW => C2.out W (Below.on hB hW))
  have D3 : Hid (∀ W, Below wb.heap.size wb W → Calls Tryd.prog 14 #[.agg #[.int .u64 (aw : Int), .int .u32 (al : Int), .int .u32 (an : Int)]] W fun r w' => r = .returned (.string s3) ∧ Below W.heap.size W w') := hid (fun W hW => C3.out W (Below.on hB hW))
  clear C1 C2 C3
  go_enter Tryd.func6, Tryd.ntmps6
  go_wp2_with fail
  rw [← hwb]
  have HB := hid hB
  clear hwb hB
  go_region_held3 (fun z => z.cell? ⟨w.heap.size, 1, none⟩ = some (.int .u32 (tc : Int)) ∧ z.cell? ⟨w.heap.size, 2, none⟩ = some (.int .u32 (ts : Int)) ∧ z.cell? ⟨w.heap.size, 13, none⟩ = some (.int .u64 (aw : Int)) ∧ z.cell? ⟨w.heap.size, 14, none⟩ = some (.int .u32 (al : Int)) ∧ z.cell? ⟨w.heap.size, 15, none⟩ = some (.int .u32 (an : Int)) ∧ z.cell? ⟨w.heap.size, 17, none⟩ = some (.string tkb) ∧ Below wb.heap.size wb z)
    ((refine keepA q1 q2 q3 q4 q5 q6 ?_; ((repeat (first | with_reducible exact Below.refl _ _ | with_reducible assumption | with_reducible refine Below.drew ?_ | with_reducible refine Below.al ?_ _ | with_reducible refine Below.setCell ?_ (by first | exact Nat.le_refl _ | (simp; omega) | (simp; done)) _ | with_reducible refine Below.on ?_ (by assumption))))))
    (first
      | (go_at_call 13; with_reducible refine (D1.out _ ?_).mono ?_; ((repeat (first | with_reducible exact Below.refl _ _ | with_reducible assumption | with_reducible refine Below.drew ?_ | with_reducible refine Below.al ?_ _ | with_reducible refine Below.setCell ?_ (by first | exact Nat.le_refl _ | (simp; omega) | (simp; done)) _ | with_reducible refine Below.on ?_ (by assumption)))); rintro e w1 ⟨rfl, hb1⟩)
      | (go_at_call 13; with_reducible refine (D2.out _ ?_).mono ?_; ((repeat (first | with_reducible exact Below.refl _ _ | with_reducible assumption | with_reducible refine Below.drew ?_ | with_reducible refine Below.al ?_ _ | with_reducible refine Below.setCell ?_ (by first | exact Nat.le_refl _ | (simp; omega) | (simp; done)) _ | with_reducible refine Below.on ?_ (by assumption)))); rintro e w2 ⟨rfl, hb2⟩)
      | (go_at_call 14; with_reducible refine (D3.out _ ?_).mono ?_; ((repeat (first | with_reducible exact Below.refl _ _ | with_reducible assumption | with_reducible refine Below.drew ?_ | with_reducible refine Below.al ?_ _ | with_reducible refine Below.setCell ?_ (by first | exact Nat.le_refl _ | (simp; omega) | (simp; done)) _ | with_reducible refine Below.on ?_ (by assumption)))); rintro e w3 ⟨rfl, hb3⟩))
  all_goals rw [HR.out]
  all_goals go_wp2_with fail
  all_goals go_ret
  all_goals refine ⟨rfl, Below.on HB.out ?_⟩
  all_goals (repeat (first | with_reducible exact Below.refl _ _ | with_reducible assumption | with_reducible refine Below.drew ?_ | with_reducible refine Below.al ?_ _ | with_reducible refine Below.setCell ?_ (by first | exact Nat.le_refl _ | (simp; omega) | (simp; done)) _ | with_reducible refine Below.on ?_ (by assumption)))
end Go.Proofs.YtggmhodogfngdaaDoor.Gt
