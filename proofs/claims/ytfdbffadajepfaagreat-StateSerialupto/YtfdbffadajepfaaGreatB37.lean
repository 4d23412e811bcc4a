import Derived.Test.YtfdbffadajepfaaGreatB36
/- The law's head; begun. -/
namespace Go.Proofs.YtfdbffadajepfaaGreat.Ys
open Go.RowKit Go.Sort
set_option linter.unusedVariables false

abbrev kv : Wr := ⟨⟨#[107]⟩, false, ⟨#[118]⟩⟩
/-- the head's records; h: the block of its write -/
def hdR (h : Nat) : Nat → Rg
  | 0 => ⟨1, 8, 0, 0, 0, 0, 0, 0, 0, none, [], 0, none, [], 0, ⟨#[]⟩⟩
  | 1 => ⟨2, 0, 4294967295, 1, 0, 0, 1, 0, 0, none, [], 0, some ⟨h, 0, none⟩, [kv], 1, ⟨#[]⟩⟩
  | _ => ⟨3, 0, 4294967295, 1, 0, 1, 2, 0, 0, none, [], 0, none, [], 0, ⟨#[]⟩⟩
/-- a record among others -/
structure BoxO (w : World) (q o : Nat) (m : Rg) : Prop where
  c0 : w.cell? ⟨q, o, none⟩ = some (.int .i64 m.k)
  c1 : w.cell? ⟨q, o + 1, none⟩ = some (.int .u64 m.x)
  c2 : w.cell? ⟨q, o + 2, none⟩ = some (.int .u32 m.c)
  c3 : w.cell? ⟨q, o + 3, none⟩ = some (.int .u32 m.s)
  c4 : w.cell? ⟨q, o + 4, none⟩ = some (.int .u32 m.h)
  c5 : w.cell? ⟨q, o + 5, none⟩ = some (.int .i64 m.oc)
  c6 : w.cell? ⟨q, o + 6, none⟩ = some (.int .u64 m.w)
  c7 : w.cell? ⟨q, o + 7, none⟩ = some (.int .u32 m.l)
  c8 : w.cell? ⟨q, o + 8, none⟩ = some (.int .u32 m.n)
  c9 : w.cell? ⟨q, o + 9, none⟩ = some (.slice m.ra m.rs.length m.rc)
  c10 : w.cell? ⟨q, o + 10, none⟩ = some (.slice m.wa m.ws.length m.wc)
  c11 : w.cell? ⟨q, o + 11, none⟩ = some (.string m.im)
theorem BoxO.later {w w' : World} {q o : Nat} {m : Rg} (h : BoxO w q o m) (hb : Below w.heap.size w w') : BoxO w' q o m :=
  ⟨cell_later hb h.c0, cell_later hb h.c1, cell_later hb h.c2, cell_later hb h.c3, cell_later hb h.c4, cell_later hb h.c5, cell_later hb h.c6, cell_later hb h.c7, cell_later hb h.c8, cell_later hb h.c9, cell_later hb h.c10, cell_later hb h.c11⟩
structure HeadAt (w : World) (g h : Nat) : Prop where
  box : ∀ k, k < 3 → BoxO w g (k * 12) (hdR h k)
  row : RowW w (some ⟨h, 0, none⟩) [kv]
  typ : w.heap[h]? = some (.cells #[.string ⟨#[107]⟩, .bool false, .string ⟨#[118]⟩] 97 (0, 0))
  blk : ∃ cs, w.heap[g]? = some (.cells cs 48 (0, 0))
theorem cell_same {w w' : World} {b o : Nat} (h : w'.heap[b]? = w.heap[b]?) {v : Value} (k : w.cell? ⟨b, o, none⟩ = some v) : w'.cell? ⟨b, o, none⟩ = some v := by simp only [World.cell?, h] at k ⊢; exact k
theorem BoxO.same {w w' : World} {q o : Nat} {m : Rg} (h : BoxO w q o m) (hb : w'.heap[q]? = w.heap[q]?) : BoxO w' q o m :=
  ⟨cell_same hb h.c0, cell_same hb h.c1, cell_same hb h.c2, cell_same hb h.c3, cell_same hb h.c4, cell_same hb h.c5, cell_same hb h.c6, cell_same hb h.c7, cell_same hb h.c8, cell_same hb h.c9, cell_same hb h.c10, cell_same hb h.c11⟩
theorem HeadAt.chg {B : Nat} {w w' : World} {g h : Nat} (H : HeadAt w g h) (C : Chg B w w') : HeadAt w' g h := by
  obtain ⟨cs, hc⟩ := H.blk
  have e1 := C.block hc (by decide) (by decide)
  have e2 := C.block H.typ (by decide) (by decide)
  refine ⟨fun k hk => (H.box k hk).same e1, fun i hi => ?_, e2.trans H.typ, cs, e1.trans hc⟩
  obtain ⟨b, off, e, c0, c1, c2⟩ := H.row i hi
  injection e with e
  injection e with ea eo
  subst ea eo
  exact ⟨_, _, rfl, cell_same e2 c0, cell_same e2 c1, cell_same e2 c2⟩
theorem HeadAt.later {w w' : World} {g h : Nat} (H : HeadAt w g h) (hb : Below w.heap.size w w') : HeadAt w' g h :=
  ⟨fun k hk => (H.box k hk).later hb, H.row.later hb, (hb.block h (Array.getElem?_eq_some_iff.1 H.typ).1).trans H.typ, by obtain ⟨cs, hc⟩ := H.blk; exact ⟨cs, (hb.block g (Array.getElem?_eq_some_iff.1 hc).1).trans hc⟩⟩
theorem head_at {w : World} {g h : Nat} (h1 : w.heap[g]? = some (.cells #[.int .i64 1, .int .u64 8, .int .u32 0, .int .u32 0, .int .u32 0, .int .i64 0, .int .u64 0, .int .u32 0, .int .u32 0, .slice none 0 0, .slice none 0 0, .string ⟨#[]⟩, .int .i64 2, .int .u64 0, .int .u32 4294967295, .int .u32 1, .int .u32 0, .int .i64 0, .int .u64 1, .int .u32 0, .int .u32 0, .slice none 0 0, .slice (some ⟨h, 0, none⟩) 1 1, .string ⟨#[]⟩, .int .i64 3, .int .u64 0, .int .u32 4294967295, .int .u32 1, .int .u32 0, .int .i64 1, .int .u64 2, .int .u32 0, .int .u32 0, .slice none 0 0, .slice none 0 0, .string ⟨#[]⟩] 48 (0, 0)))
    (h2 : w.heap[h]? = some (.cells #[.string ⟨#[107]⟩, .bool false, .string ⟨#[118]⟩] 97 (0, 0))) : HeadAt w g h := by
  refine ⟨fun k hk => ?_, fun i hi => ?_, h2, _, h1⟩
  · match k, hk with
    | 0, _ => exact ⟨Vs.cell_of_obj h1 rfl, Vs.cell_of_obj h1 rfl, Vs.cell_of_obj h1 rfl, Vs.cell_of_obj h1 rfl, Vs.cell_of_obj h1 rfl, Vs.cell_of_obj h1 rfl, Vs.cell_of_obj h1 rfl, Vs.cell_of_obj h1 rfl, Vs.cell_of_obj h1 rfl, Vs.cell_of_obj h1 rfl, Vs.cell_of_obj h1 rfl, Vs.cell_of_obj h1 rfl⟩
    | 1, _ => exact ⟨Vs.cell_of_obj h1 rfl, Vs.cell_of_obj h1 rfl, Vs.cell_of_obj h1 rfl, Vs.cell_of_obj h1 rfl, Vs.cell_of_obj h1 rfl, Vs.cell_of_obj h1 rfl, Vs.cell_of_obj h1 rfl, Vs.cell_of_obj h1 rfl, Vs.cell_of_obj h1 rfl, Vs.cell_of_obj h1 rfl, Vs.cell_of_obj h1 rfl, Vs.cell_of_obj h1 rfl⟩
    | 2, _ => exact ⟨Vs.cell_of_obj h1 rfl, Vs.cell_of_obj h1 rfl, Vs.cell_of_obj h1 rfl, Vs.cell_of_obj h1 rfl, Vs.cell_of_obj h1 rfl, Vs.cell_of_obj h1 rfl, Vs.cell_of_obj h1 rfl, Vs.cell_of_obj h1 rfl, Vs.cell_of_obj h1 rfl, Vs.cell_of_obj h1 rfl, Vs.cell_of_obj h1 rfl, Vs.cell_of_obj h1 rfl⟩
  · simp at hi
    subst hi
    exact ⟨h, 0, rfl, Vs.cell_of_obj h2 rfl, Vs.cell_of_obj h2 rfl, Vs.cell_of_obj h2 rfl⟩
theorem Head_is (w : World) : Calls Tryz.prog 21 #[] w fun e w' => ∃ g h : Nat, e = .returned (.slice (some ⟨g, 0, none⟩) 3 3) ∧ Hid (HeadAt w' g h ∧ w.heap.size ≤ h) ∧ Below w.heap.size w w' := by
  obtain ⟨w1, hw1⟩ : ∃ w1, w1 = w.alloc (.cells #[.int .u32 4294967295, .int .u32 1] 43) := ⟨_, rfl⟩
  obtain ⟨w2, hw2⟩ : ∃ w2, w2 = w1.alloc (.cells #[.string ⟨#[107]⟩, .bool false, .string ⟨#[118]⟩] 97) := ⟨_, rfl⟩
  have s1 : w1.heap.size = w.heap.size + 1 := by rw [hw1]; simp
  have s2 : w2.heap.size = w.heap.size + 1 + 1 := by rw [hw2]; simp [s1]
  obtain ⟨w3, hw3⟩ : ∃ w3, w3 = w2.alloc (.cells #[.int .i64 1, .int .u64 8, .int .u32 0, .int .u32 0, .int .u32 0, .int .i64 0, .int .u64 0, .int .u32 0, .int .u32 0, .slice none 0 0, .slice none 0 0, .string ⟨#[]⟩, .int .i64 2, .int .u64 0, .int .u32 4294967295, .int .u32 1, .int .u32 0, .int .i64 0, .int .u64 1, .int .u32 0, .int .u32 0, .slice none 0 0, .slice (some ⟨w.heap.size + 1, 0, none⟩) 1 1, .string ⟨#[]⟩, .int .i64 3, .int .u64 0, .int .u32 4294967295, .int .u32 1, .int .u32 0, .int .i64 1, .int .u64 2, .int .u32 0, .int .u32 0, .slice none 0 0, .slice none 0 0, .string ⟨#[]⟩] 48) := ⟨_, rfl⟩
  have hb2 : Below w2.heap.size w2 w3 := by rw [hw3]; exact Below.al (Below.refl _ _) _
  have k2 : w2.heap[w.heap.size + 1]? = some (.cells #[.string ⟨#[107]⟩, .bool false, .string ⟨#[118]⟩] 97 (0, 0)) := by rw [← s1, hw2]; exact World.alloc_heap_new _ _
  have HA : Hid (HeadAt w3 (w.heap.size + 1 + 1) (w.heap.size + 1) ∧ w.heap.size ≤ w.heap.size + 1) := by
    refine hid ⟨head_at ?_ ((hb2.block _ (by omega)).trans k2), by omega⟩
    rw [← s2, hw3]; exact World.alloc_heap_new _ _
  have hb : Below w.heap.size w w3 := by rw [hw3, hw2, hw1]; exact Below.al (Below.al (Below.al (Below.refl _ _) _) _) _
  subst hw1
  subst hw2
  have HB := hid hb
  clear hb hb2 k2 s1 s2
  go_enter Tryz.func21, Tryz.ntmps21
  go_wp2_with fail
  go_ret
  rw [← hw3]
  exact ⟨_, rfl, ⟨_, HA⟩, HB.out⟩
/-- the state behind k of the head's records -/
def hdS (n : Int) : Nat → Ps
  | 0 => zero n
  | 1 => ⟨n, 8, [], [], [], ⟨0, 0, 0⟩, false, ⟨0, 0, 0⟩⟩
  | 2 => ⟨n, 8, [⟨(4294967295, 1), 0, 1, 0, 0, [], [kv]⟩], [], [], ⟨0, 0, 0⟩, false, ⟨0, 0, 0⟩⟩
  | _ => ⟨n, 8, [], [⟨(4294967295, 1), 0, 1, 2, 0, 0⟩], [(⟨#[107]⟩, [⟨⟨2, 0, 0⟩, false, ⟨#[118]⟩⟩])], ⟨0, 0, 0⟩, true, ⟨2, 0, 0⟩⟩
theorem list_k : (⟨#[107]⟩ : ByteArray).toList = [107] := by rw [ByteArray.toList_eq]
theorem list_v : (⟨#[118]⟩ : ByteArray).toList = [118] := by rw [ByteArray.toList_eq]
theorem writes_kv : writesOk [kv] = true := by
  have h1 : ltS ⟨#[]⟩ ⟨#[107]⟩ = true := by unfold ltS; rw [toList_empty, list_k]; rfl
  unfold writesOk
  simp [allB, writeAt, keyOk, prevW, nthW, h1, ByteArray.size]
theorem hd_err (h : Nat) : (hdR h 0).err = 0 ∧ (hdR h 1).err = 0 ∧ (hdR h 2).err = 0 := by
  refine ⟨?_, ?_, ?_⟩
  · simp [Rg.err, Rg.valid, Rg.named, Rg.rules, sameR, hdR, sameT, sameB, Rg.zero]
  · have hw := writes_kv
    simp only [kv] at hw
    simp [Rg.err, Rg.valid, Rg.named, Rg.rules, sameR, hdR, sameT, sameB, hw, topW, readsOk, allB]
  · simp [Rg.err, Rg.valid, Rg.named, Rg.rules, sameR, hdR, sameT, sameB, Rg.zero, topW]
theorem inst_kv : Vs.instR [] [kv] ⟨2, 0, 0⟩ = [(⟨#[107]⟩, [⟨⟨2, 0, 0⟩, false, ⟨#[118]⟩⟩])] := by
  rw [(Vs.inst_ok (M := []) writes_kv (t := ⟨2, 0, 0⟩) (by decide) (by simp [Vs.freeB, Vs.getX])).2]
  rfl
theorem hd_step (n : Int) (h k : Nat) (hk : k < 3) : apE (hdS n k) (hdR h k) = 0 ∧ apS (hdS n k) (hdR h k) = hdS n (k + 1) := by
  obtain ⟨e0, e1, e2⟩ := hd_err h
  match k, hk with
  | 0, _ =>
    rw [(ap_1 e0 rfl).1, (ap_1 e0 rfl).2]
    exact ⟨rfl, rfl⟩
  | 1, _ =>
    rw [(ap_2 e1 rfl).1, (ap_2 e1 rfl).2]
    have ho : ovA (hdS n 1) (hdR h 1) = false := by simp [ovA, ovB, Vs.abB, Vs.rangeX, hdS, hdR]
    have hg : hldG (hdS n 1) (hvR (hdR h 1)).h = false := by simp [hldG, hdS, hdR, Lg.outM]
    have hc : Lk.holdC (hdS n 1).H (hvR (hdR h 1)).h = 0 := by simp [Lk.holdC, hdS, hdR, Lk.confl]
    have hm : Lk.holdM (hdS n 1).H (hvR (hdR h 1)).h = [⟨(4294967295, 1), 0, 1, 0, 0, [], [kv]⟩] := by simp [Lk.holdM, hdS, hdR, Lk.confl]
    have ha : acB (hdS n 1) (at' (hdR h 1)) = true := rfl
    constructor
    · unfold prpE hldB
      rw [ho, hg, hc, ha]; rfl
    · unfold prpS hldS
      rw [ho, hg, hm, ha]; rfl
  | 2, _ =>
    rw [(ap_3 e2 rfl).1, (ap_3 e2 rfl).2]
    have ho : (Lg.outM (hdS n 2).E ((hdR h 2).c, (hdR h 2).s)).isSome = false := rfl
    have hg : getH (hdS n 2).H ((hdR h 2).c, (hdR h 2).s) = some ⟨(4294967295, 1), 0, 1, 0, 0, [], [kv]⟩ := rfl
    have hb : cmtB (hdS n 2) (hdR h 2) ⟨(4294967295, 1), 0, 1, 0, 0, [], [kv]⟩ = true := rfl
    have hx : mxS ⟨0, 0, 0⟩ ⟨2, 0, 0⟩ = ⟨2, 0, 0⟩ := rfl
    constructor
    · unfold dcdE cmtE
      rw [ho, hg]
      simp only [hb]
      rfl
    · unfold dcdS cmtS
      rw [ho, hg]
      simp only [hb]
      have hi : Vs.instR (hdS n 2).M [kv] (at' (hdR h 2)) = [(⟨#[107]⟩, [⟨⟨2, 0, 0⟩, false, ⟨#[118]⟩⟩])] := inst_kv
      show setS { hdS n 2 with M := Vs.instR (hdS n 2).M [kv] (at' (hdR h 2)) } (hdR h 2) = hdS n 3
      rw [hi]
      rfl
theorem hd_rgr (h k : Nat) : RgR (hdR h k) := by
  match k with
  | 0 => exact ⟨by simp [hdR], ⟨by simp [hdR], by simp [hdR], by simp [hdR]⟩⟩
  | 1 => exact ⟨by simp [hdR], ⟨by simp [hdR], by simp [hdR], by simp [hdR]⟩⟩
  | k + 2 => exact ⟨by simp [hdR], ⟨by simp [hdR], by simp [hdR], by simp [hdR]⟩⟩
theorem hd_ok {w : World} {g h : Nat} (H : HeadAt w g h) (k : Nat) : (hdR h k).ok w := by
  match k with
  | 0 => exact ⟨fun i hi => by simp [hdR] at hi, fun i hi => by simp [hdR] at hi, by simp [hdR], by simp [hdR], by simp [hdR]⟩
  | 1 => exact ⟨fun i hi => by simp [hdR] at hi, H.row, by simp [hdR], by simp [hdR], by simp [hdR]⟩
  | k + 2 => exact ⟨fun i hi => by simp [hdR] at hi, fun i hi => by simp [hdR] at hi, by simp [hdR], by simp [hdR], by simp [hdR]⟩
theorem hd_k (h k : Nat) : (hdR h k).k ≠ 5 := by
  match k with
  | 0 => simp [hdR]
  | 1 => simp [hdR]
  | k + 2 => simp [hdR]
theorem hd_jb (n : Int) (h k : Nat) : (hdR h k).k = 2 → acB (hdS n k) (at' (hdR h k)) = true → jbB (at' (hdR h k)) = true := by
  match k with
  | 0 => intro e; simp [hdR] at e
  | 1 => exact fun _ _ => rfl
  | k + 2 => exact fun _ _ => rfl
theorem hd_cnt (n : Int) (k : Nat) : Vs.countM (hdS n k).M ≤ 268435456 := by
  match k with
  | 0 => simp [hdS, Vs.countM]
  | 1 => simp [hdS, Vs.countM]
  | 2 => simp [hdS, Vs.countM]
  | k + 3 => simp [hdS, Vs.countM]
theorem hist_hd (n : Int) : Hist (hdS n 3) [⟨⟨2, 0, 0⟩, [kv]⟩] [] := by
  have hM : (hdS n 3).M = Vs.instM [] [kv] ⟨2, 0, 0⟩ := rfl
  refine ⟨rfl, by simp [Ord], ⟨_, rfl, rfl⟩, by simp [hdS], by simp [hdS], by simp [hdS], ?_, ?_, by simp [hdS], by simp [hdS], by simp [hdS], ?_, by simp [hdS, Vs.countM], by simp [hdS]⟩
  · intro c hc
    rw [List.mem_singleton] at hc
    subst hc
    exact ⟨⟨by simp, by simp, by simp⟩, by simp, writes_kv⟩
  · intro k v hv
    rw [hM] at hv
    rcases inst_dump List.Pairwise.nil ⟨2, 0, 0⟩ [kv] _ hv with ⟨x, hx, ex⟩ | hv
    · injection ex with e1 e2
      subst e1 e2
      exact ⟨_, List.mem_singleton.2 rfl, rfl, x, hx, rfl⟩
    · simp [Vs.dumpM] at hv
  · intro t ht
    rw [hM]
    cases hl : t.lt ⟨2, 0, 0⟩ with
    | true => rw [read_above List.Pairwise.nil hl]; simp [ser, hl, Vs.readAll, layC]
    | false => rw [read_from List.Pairwise.nil hl]; simp [ser, hl, Vs.readAll, layC]

set_option maxHeartbeats 1000000 in
theorem begun_is (w : World) (n : Int) : Calls Tryz.prog 20 #[.int .u32 n] w fun e w' => ∃ p, e = .returned (sp p) ∧ Hid (Sta w.heap.size w' p (hdS n 3)) ∧ Below w.heap.size w w' := by
  have NW := hid (new_is w n)
  have HD := hid Head_is
  go_enter Tryz.func20, Tryz.ntmps20
  go_wp2_with fail
  refine NW.out.mono ?_
  rintro e w1 ⟨rfl, T, hb1⟩
  have T1 : Sta w.heap.size w1 w.heap.size (hdS n 0) := ⟨_, none, none, none, [], [], T, fun b hb => by
    rcases hb with hb | hb | hb | hb | hb
    · exact Nat.le_of_eq hb.symm
    · exact Nat.le_of_eq hb.symm
    · cases hb
    · cases hb
    · cases hb⟩
  have HT1 := hid T1
  have HB1 := hid hb1
  clear T T1 hb1 NW
  go_wp2_with fail
  refine (HD.out _).mono ?_
  rintro e w2 ⟨g, h, rfl, HA, hb2⟩
  have HT2 := hid (HT1.out.later hb2)
  have HB2 := hid (Below.on HB1.out hb2)
  have HH := hid HA.out.1
  clear hb2 HA HT1 HB1 HD
  go_wp2_with fail
  go_loopg [5] 3 (fun gg s5 wr => ∃ k : Nat, k ≤ 3 ∧ gg = 3 - k ∧ s5 = .int .i64 k ∧ Hid (Sta w.heap.size wr w.heap.size (hdS n k)) ∧ Hid (HeadAt wr g h) ∧ Hid (Below w.heap.size w wr))
  case atStart => exact ⟨0, by omega, by omega, rfl, HT2, HH, HB2⟩
  case round =>
    obtain ⟨k, hk, rfl, rfl, HT, HA, HB⟩ := hrel
    clear HT2 HH HB2
    by_cases hlt : k < 3
    · have bx := HA.out.box k hlt
      have b0 := bx.c0; have b1 := bx.c1; have b2 := bx.c2; have b3 := bx.c3; have b4 := bx.c4; have b5 := bx.c5; have b6 := bx.c6; have b7 := bx.c7; have b8 := bx.c8; have b9 := bx.c9; have b10 := bx.c10; have b11 := bx.c11
      have hs := hd_step n h k hlt
      have AP : Hid (Calls Tryz.prog 10 #[sp w.heap.size, (hdR h k).val] wr fun e w' => e = .returned (.int .i64 0) ∧ Hid (Sta w.heap.size w' w.heap.size (hdS n (k + 1)) ∧ Chg w.heap.size wr w')) := by
        have := HT.out.apply HB.out.size (hdR h k) (hd_ok HA.out k) (hd_rgr h k) (hd_k h k) (hd_cnt n k) (hd_jb n h k)
        rw [hs.1, hs.2] at this
        exact hid this
      clear bx hs
      go_wp2_with fail
      refine AP.out.mono ?_
      rintro e w3 ⟨rfl, HP⟩
      have HA3 := hid (HA.out.chg HP.out.2)
      have HB3 := hid (HB.out.trans (HP.out.2.below HB.out.size))
      clear b0 b1 b2 b3 b4 b5 b6 b7 b8 b9 b10 b11 AP
      go_wp2_with fail
      go_roundg (3 - (k + 1))
      case measure => omega
      case rel => exact ⟨k + 1, by omega, rfl, by go_num, hid HP.out.1, HA3, HB3⟩
    · obtain rfl : k = 3 := by omega
      go_wp2_with fail
      go_ret
      exact ⟨_, rfl, HT, HB.out⟩
end Go.Proofs.YtfdbffadajepfaaGreat.Ys
