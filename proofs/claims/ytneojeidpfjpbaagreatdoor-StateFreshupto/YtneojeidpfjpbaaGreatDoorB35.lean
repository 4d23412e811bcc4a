import Derived.Test.YtneojeidpfjpbaaGreatDoorB34
set_option linter.unusedVariables false
namespace Go.Proofs.YtneojeidpfjpbaaGreatDoor.Ig
open Go.Proofs.YtneojeidpfjpbaaGreatDoor
abbrev Ix := Lk.Ix
def ltX (i j : Ix) : Bool := decide (i.1 < j.1) || (decide (i.1 = j.1) && decide (i.2 < j.2))
theorem ltX_iff {i j : Ix} : ltX i j = true ↔ i.1 < j.1 ∨ (i.1 = j.1 ∧ i.2 < j.2) := by simp [ltX]
theorem ltX_no {i j : Ix} : ltX i j = false ↔ ¬ (i.1 < j.1 ∨ (i.1 = j.1 ∧ i.2 < j.2)) := by rw [← ltX_iff]; simp
theorem ltX_irr (i : Ix) : ltX i i = false := by rw [ltX_no]; omega
theorem ltX_trans {i j k : Ix} (h : ltX i j = true) (h' : ltX j k = true) : ltX i k = true := by rw [ltX_iff] at *; omega
theorem ltX_tri {i j : Ix} (h : ltX i j = false) (hne : i ≠ j) : ltX j i = true := by
 rw [ltX_no] at h; rw [ltX_iff]; have : ¬ (i.1 = j.1 ∧ i.2 = j.2) := fun e => hne (Prod.ext e.1 e.2)
 omega
section
variable {α : Type} (f : α → Ix)
def Up (l : List α) : Prop := l.Pairwise fun x y => ltX (f x) (f y) = true
def insX (x : α) : List α → List α
 | [] => [x]
 | y :: l => if ltX (f y) (f x) then y :: insX x l else x :: y :: l
def srt (l : List α) : List α := l.foldr (insX f) []
variable {f}
theorem up_ext : ∀ {l m : List α}, Up f l → Up f m → (∀ e, e ∈ l ↔ e ∈ m) → l = m
 | [], [], _, _, _ => rfl
 | [], y :: m, _, _, h => absurd ((h y).2 (List.mem_cons_self ..)) (by simp)
 | x :: l, [], _, _, h => absurd ((h x).1 (List.mem_cons_self ..)) (by simp)
 | x :: l, y :: m, hl, hm, h => by
  have hl' := List.pairwise_cons.1 hl; have hm' := List.pairwise_cons.1 hm; have hxy : x = y := by
   rcases List.mem_cons.1 ((h x).1 (List.mem_cons_self ..)) with e | e
   ·exact e
   ·rcases List.mem_cons.1 ((h y).2 (List.mem_cons_self ..)) with e' | e'
    ·exact e'.symm
    ·exact absurd (ltX_trans (hm'.1 x e) (hl'.1 y e')) (by rw [ltX_irr]; decide)
  subst hxy; congr 1
  refine up_ext hl'.2 hm'.2 fun e => ⟨fun he => ?_, fun he => ?_⟩
  ·rcases List.mem_cons.1 ((h e).1 (List.mem_cons_of_mem _ he)) with e1 | e1
   ·subst e1; exact absurd (hl'.1 _ he) (by rw [ltX_irr]; decide)
   ·exact e1
  ·rcases List.mem_cons.1 ((h e).2 (List.mem_cons_of_mem _ he)) with e1 | e1
   ·subst e1; exact absurd (hm'.1 _ he) (by rw [ltX_irr]; decide)
   ·exact e1
theorem insX_perm (x : α) : ∀ l : List α, (insX f x l).Perm (x :: l)
 | [] => List.Perm.refl _
 | y :: l => by
  rw [insX]; split
  ·exact ((insX_perm x l).cons y).trans (List.Perm.swap x y l)
  ·exact List.Perm.refl _
theorem srt_perm : ∀ l : List α, (srt f l).Perm l
 | [] => List.Perm.refl _
 | x :: l => (insX_perm x (srt f l)).trans ((srt_perm l).cons x)
theorem insX_up {x : α} : ∀ {l : List α}, Up f l → f x ∉ l.map f → Up f (insX f x l)
 | [], _, _ => List.pairwise_singleton _ _
 | y :: l, h, hn => by
  have h' := List.pairwise_cons.1 h; rw [List.map_cons, List.mem_cons] at hn; rw [insX]; split
  ·rename_i hlt; refine List.pairwise_cons.2 ⟨fun z hz => ?_, insX_up h'.2 fun hm => hn (.inr hm)⟩; rcases List.mem_cons.1 ((insX_perm x l).mem_iff.1 hz) with rfl | hz
   ·exact hlt
   ·exact h'.1 z hz
  ·rename_i hlt; have hxy : ltX (f x) (f y) = true := ltX_tri (by simpa using hlt) (fun e => hn (.inl e.symm)); refine List.pairwise_cons.2 ⟨fun z hz => ?_, h⟩; rcases List.mem_cons.1 hz with rfl | hz
   ·exact hxy
   ·exact ltX_trans hxy (h'.1 z hz)
theorem srt_up : ∀ {l : List α}, (l.map f).Nodup → Up f (srt f l)
 | [], _ => List.Pairwise.nil
 | x :: l, hn => by
  rw [List.map_cons, List.nodup_cons] at hn; exact insX_up (srt_up hn.2) fun hm => hn.1 (((srt_perm l).map f).mem_iff.1 hm)
theorem srt_eq {l U : List α} (hn : (l.map f).Nodup) (hp : U.Perm l) (hs : U.Pairwise fun x y => ltX (f y) (f x) = false) : U = srt f l := by
 have hnU : (U.map f).Nodup := ((hp.map f).nodup_iff).2 hn; have hne : U.Pairwise fun x y => f x ≠ f y := List.pairwise_map.1 hnU
 have hup : Up f U := by
  have := hs.and hne; exact this.imp fun {x y} h => ltX_tri h.1 (fun e => h.2 e.symm)
 exact up_ext hup (srt_up hn) fun e => by rw [hp.mem_iff, (srt_perm l).mem_iff]
theorem srt_same {l m : List α} (hn : (l.map f).Nodup) (hp : l.Perm m) : srt f l = srt f m :=
 srt_eq (((hp.map f).nodup_iff).1 hn) ((srt_perm l).trans hp) ((srt_up hn).imp fun {x y} h => by
  rw [ltX_iff] at h; rw [ltX_no]; omega)
theorem srt_mem {l : List α} {x : α} : x ∈ srt f l ↔ x ∈ l := (srt_perm l).mem_iff
theorem srt_len (l : List α) : (srt f l).length = l.length := (srt_perm l).length_eq
end
def imgOf (s : Ys.Ps) : Im := (s.node, s.ceil, s.wm, srt Lk.Hd.id s.H, srt Lg.En.id s.E, Vs.dumpM s.M)
def imgB (s : Ys.Ps) : List Nat := eImg (imgOf s)
structure ImOk (s : Ys.Ps) : Prop where
 node : okU 4294967295 s.node
 ceil : okU 18446744073709551615 s.ceil
 wm : okS s.wm
 H : ∀ h ∈ s.H, okHeld h
 E : ∀ e ∈ s.E, okEntry e
 D : ∀ v ∈ Vs.dumpM s.M, okVersion v
 hn : s.H.length ≤ 1099511627776
 en : s.E.length ≤ 1099511627776
 dn : Vs.countM s.M ≤ 1500000
end Go.Proofs.YtneojeidpfjpbaaGreatDoor.Ig
namespace Go.Proofs.YtneojeidpfjpbaaGreatDoor.Ys
open Go.RowKit Go.Sort
abbrev kv : Wr := ⟨⟨#[107]⟩, false, ⟨#[118]⟩⟩
def hdR (h : Nat) : Nat → Rg
 | 0 => ⟨1, 8, 0, 0, 0, 0, 0, 0, 0, none, [], 0, none, [], 0, ⟨#[]⟩⟩
 | 1 => ⟨2, 0, 4294967295, 1, 0, 0, 1, 0, 0, none, [], 0, some ⟨h, 0, none⟩, [kv], 1, ⟨#[]⟩⟩
 | _ => ⟨3, 0, 4294967295, 1, 0, 1, 2, 0, 0, none, [], 0, none, [], 0, ⟨#[]⟩⟩
structure BoxO (w : World) (q o : Nat) (m : Rg) : Prop where
 c0 : w.cell? ⟨q, o, none⟩ = some (.int .i64 m.k)
 c1 : w.cell? ⟨q, o + 1, none⟩ = some (.int .u64 m.x)
 c2 : w.cell? ⟨q, o + 2, none⟩ = some (.int .u32 m.c)
 c3 : w.cell? ⟨q, o + 3, none⟩ = some (.int .u32 m.s)
 c4 : w.cell? ⟨q, o + 4, none⟩ = some (.int .u32 m.h)
 c5 : w.cell? ⟨q, o + 5, none⟩ = some (.int .i64 m.oc)
 c6 : w.cell? ⟨q, o + 6, none⟩ = some (.int .u64 m.w)
 c7 : w.cell? ⟨q, o + 7, none⟩ = some (.int .u32 m.l)
 c8 : w.cell? ⟨q, o + 8, none⟩ = some (.int .u32 m.n)
 c9 : w.cell? ⟨q, o + 9, none⟩ = some (.slice m.ra m.rs.length m.rc)
 c10 : w.cell? ⟨q, o + 10, none⟩ = some (.slice m.wa m.ws.length m.wc)
 c11 : w.cell? ⟨q, o + 11, none⟩ = some (.string m.im)
theorem BoxO.later {w w' : World} {q o : Nat} {m : Rg} (h : BoxO w q o m) (hb : Below w.heap.size w w') : BoxO w' q o m :=
 ⟨cell_later hb h.c0, cell_later hb h.c1, cell_later hb h.c2, cell_later hb h.c3, cell_later hb h.c4, cell_later hb h.c5, cell_later hb h.c6, cell_later hb h.c7, cell_later hb h.c8, cell_later hb h.c9, cell_later hb h.c10, cell_later hb h.c11⟩
structure HeadAt (w : World) (g h : Nat) : Prop where
 box : ∀ k, k < 3 → BoxO w g (k * 12) (hdR h k)
 row : RowW w (some ⟨h, 0, none⟩) [kv]
 typ : w.heap[h]? = some (.cells #[.string ⟨#[107]⟩, .bool false, .string ⟨#[118]⟩] 103 (0, 0))
 blk : ∃ cs, w.heap[g]? = some (.cells cs 43 (0, 0))
theorem cell_same {w w' : World} {b o : Nat} (h : w'.heap[b]? = w.heap[b]?) {v : Value} (k : w.cell? ⟨b, o, none⟩ = some v) : w'.cell? ⟨b, o, none⟩ = some v := by simp only [World.cell?, h] at k ⊢; exact k
theorem BoxO.same {w w' : World} {q o : Nat} {m : Rg} (h : BoxO w q o m) (hb : w'.heap[q]? = w.heap[q]?) : BoxO w' q o m :=
 ⟨cell_same hb h.c0, cell_same hb h.c1, cell_same hb h.c2, cell_same hb h.c3, cell_same hb h.c4, cell_same hb h.c5, cell_same hb h.c6, cell_same hb h.c7, cell_same hb h.c8, cell_same hb h.c9, cell_same hb h.c10, cell_same hb h.c11⟩
theorem HeadAt.chg {B : Nat} {w w' : World} {g h : Nat} (H : HeadAt w g h) (C : Chg B w w') : HeadAt w' g h := by
 obtain ⟨cs, hc⟩ := H.blk; have e1 := C.block hc (by decide) (by decide); have e2 := C.block H.typ (by decide) (by decide); refine ⟨fun k hk => (H.box k hk).same e1, fun i hi => ?_, e2.trans H.typ, cs, e1.trans hc⟩; obtain ⟨b, off, e, c0, c1, c2⟩ := H.row i hi; injection e with e
 injection e with ea eo
 subst ea eo; exact ⟨_, _, rfl, cell_same e2 c0, cell_same e2 c1, cell_same e2 c2⟩
theorem head_at {w : World} {g h : Nat} (h1 : w.heap[g]? = some (.cells #[.int .i64 1, .int .u64 8, .int .u32 0, .int .u32 0, .int .u32 0, .int .i64 0, .int .u64 0, .int .u32 0, .int .u32 0, .slice none 0 0, .slice none 0 0, .string ⟨#[]⟩, .int .i64 2, .int .u64 0, .int .u32 4294967295, .int .u32 1, .int .u32 0, .int .i64 0, .int .u64 1, .int .u32 0, .int .u32 0, .slice none 0 0, .slice (some ⟨h, 0, none⟩) 1 1, .string ⟨#[]⟩, .int .i64 3, .int .u64 0, .int .u32 4294967295, .int .u32 1, .int .u32 0, .int .i64 1, .int .u64 2, .int .u32 0, .int .u32 0, .slice none 0 0, .slice none 0 0, .string ⟨#[]⟩] 43 (0, 0)))
  (h2 : w.heap[h]? = some (.cells #[.string ⟨#[107]⟩, .bool false, .string ⟨#[118]⟩] 103 (0, 0))) : HeadAt w g h := by
 refine ⟨fun k hk => ?_, fun i hi => ?_, h2, _, h1⟩
 ·match k, hk with
  | 0, _ => exact ⟨Vs.cell_of_obj h1 rfl, Vs.cell_of_obj h1 rfl, Vs.cell_of_obj h1 rfl, Vs.cell_of_obj h1 rfl, Vs.cell_of_obj h1 rfl, Vs.cell_of_obj h1 rfl, Vs.cell_of_obj h1 rfl, Vs.cell_of_obj h1 rfl, Vs.cell_of_obj h1 rfl, Vs.cell_of_obj h1 rfl, Vs.cell_of_obj h1 rfl, Vs.cell_of_obj h1 rfl⟩
  | 1, _ => exact ⟨Vs.cell_of_obj h1 rfl, Vs.cell_of_obj h1 rfl, Vs.cell_of_obj h1 rfl, Vs.cell_of_obj h1 rfl, Vs.cell_of_obj h1 rfl, Vs.cell_of_obj h1 rfl, Vs.cell_of_obj h1 rfl, Vs.cell_of_obj h1 rfl, Vs.cell_of_obj h1 rfl, Vs.cell_of_obj h1 rfl, Vs.cell_of_obj h1 rfl, Vs.cell_of_obj h1 rfl⟩
  | 2, _ => exact ⟨Vs.cell_of_obj h1 rfl, Vs.cell_of_obj h1 rfl, Vs.cell_of_obj h1 rfl, Vs.cell_of_obj h1 rfl, Vs.cell_of_obj h1 rfl, Vs.cell_of_obj h1 rfl, Vs.cell_of_obj h1 rfl, Vs.cell_of_obj h1 rfl, Vs.cell_of_obj h1 rfl, Vs.cell_of_obj h1 rfl, Vs.cell_of_obj h1 rfl, Vs.cell_of_obj h1 rfl⟩
 ·simp at hi; subst hi; exact ⟨h, 0, rfl, Vs.cell_of_obj h2 rfl, Vs.cell_of_obj h2 rfl, Vs.cell_of_obj h2 rfl⟩
def hdS (n : Int) : Nat → Ps
 | 0 => zero n
 | 1 => ⟨n, 8, [], [], [], ⟨0, 0, 0⟩, false, ⟨0, 0, 0⟩, 0⟩
 | 2 => ⟨n, 8, [⟨(4294967295, 1), 0, 1, 0, 0, [], [kv]⟩], [], [], ⟨0, 0, 0⟩, false, ⟨0, 0, 0⟩, 0⟩
 | _ => ⟨n, 8, [], [⟨(4294967295, 1), 0, 1, 2, 0, 0⟩], [(⟨#[107]⟩, [⟨⟨2, 0, 0⟩, false, ⟨#[118]⟩⟩])], ⟨0, 0, 0⟩, true, ⟨2, 0, 0⟩, 0⟩
theorem list_k : (⟨#[107]⟩ : ByteArray).toList = [107] := by rw [ByteArray.toList_eq]
theorem writes_kv : writesOk [kv] = true := by
 have h1 : ltS ⟨#[]⟩ ⟨#[107]⟩ = true := by unfold ltS; rw [toList_empty, list_k]; rfl
 unfold writesOk; simp [allB, writeAt, keyOk, prevW, nthW, h1, ByteArray.size]
theorem hd_err (h : Nat) : (hdR h 0).err = 0 ∧ (hdR h 1).err = 0 ∧ (hdR h 2).err = 0 := by
 refine ⟨?_, ?_, ?_⟩
 ·simp [Rg.err, Rg.valid, Rg.named, Rg.rules, sameR, hdR, sameT, sameB, Rg.zero]
 ·have hw := writes_kv; simp only [kv] at hw; simp [Rg.err, Rg.valid, Rg.named, Rg.rules, sameR, hdR, sameT, sameB, hw, topW, readsOk, allB]
 ·simp [Rg.err, Rg.valid, Rg.named, Rg.rules, sameR, hdR, sameT, sameB, Rg.zero, topW]
theorem inst_kv : Vs.instR [] [kv] ⟨2, 0, 0⟩ = [(⟨#[107]⟩, [⟨⟨2, 0, 0⟩, false, ⟨#[118]⟩⟩])] := by
 rw [(Vs.inst_ok (M := []) writes_kv (t := ⟨2, 0, 0⟩) (by decide) (by simp [Vs.freeB, Vs.getX])).2]; rfl
theorem hd_step (n : Int) (h k : Nat) (hk : k < 3) : apE (hdS n k) (hdR h k) = 0 ∧ apS (hdS n k) (hdR h k) = hdS n (k + 1) := by
 obtain ⟨e0, e1, e2⟩ := hd_err h; match k, hk with
 | 0, _ =>
  rw [(ap_1 e0 rfl).1, (ap_1 e0 rfl).2]; exact ⟨rfl, rfl⟩
 | 1, _ =>
  rw [(ap_2 e1 rfl).1, (ap_2 e1 rfl).2]; have ho : ovA (hdS n 1) (hdR h 1) = false := by simp [ovA, ovB, Vs.abB, Vs.rangeX, hdS, hdR]
  have hg : hldG (hdS n 1) (hvR (hdR h 1)).h = false := by simp [hldG, hdS, hdR, Lg.outM]
  have hc : Lk.holdC (hdS n 1).H (hvR (hdR h 1)).h = 0 := by simp [Lk.holdC, hdS, hdR, Lk.confl]
  have hm : Lk.holdM (hdS n 1).H (hvR (hdR h 1)).h = [⟨(4294967295, 1), 0, 1, 0, 0, [], [kv]⟩] := by simp [Lk.holdM, hdS, hdR, Lk.confl]
  have ha : acB (hdS n 1) (at' (hdR h 1)) = true := rfl; constructor
  ·unfold prpE hldB; rw [ho, hg, hc, ha]; rfl
  ·unfold prpS hldS; rw [ho, hg, hm, ha]; rfl
 | 2, _ =>
  rw [(ap_3 e2 rfl).1, (ap_3 e2 rfl).2]; have ho : (Lg.outM (hdS n 2).E ((hdR h 2).c, (hdR h 2).s)).isSome = false := rfl; have hg : getH (hdS n 2).H ((hdR h 2).c, (hdR h 2).s) = some ⟨(4294967295, 1), 0, 1, 0, 0, [], [kv]⟩ := rfl; have hb : cmtB (hdS n 2) (hdR h 2) ⟨(4294967295, 1), 0, 1, 0, 0, [], [kv]⟩ = true := rfl; have hx : mxS ⟨0, 0, 0⟩ ⟨2, 0, 0⟩ = ⟨2, 0, 0⟩ := rfl; constructor
  ·unfold dcdE cmtE; rw [ho, hg]; simp only [hb]; rfl
  ·unfold dcdS cmtS; rw [ho, hg]; simp only [hb]; have hi : Vs.instR (hdS n 2).M [kv] (at' (hdR h 2)) = [(⟨#[107]⟩, [⟨⟨2, 0, 0⟩, false, ⟨#[118]⟩⟩])] := inst_kv; show setS { hdS n 2 with M := Vs.instR (hdS n 2).M [kv] (at' (hdR h 2)) } (hdR h 2) = hdS n 3
   rw [hi]; rfl
theorem hd_rgr (h k : Nat) : RgR (hdR h k) := by
 match k with
 | 0 => exact ⟨by simp [hdR], ⟨by simp [hdR], by simp [hdR], by simp [hdR]⟩⟩
 | 1 => exact ⟨by simp [hdR], ⟨by simp [hdR], by simp [hdR], by simp [hdR]⟩⟩
 | k + 2 => exact ⟨by simp [hdR], ⟨by simp [hdR], by simp [hdR], by simp [hdR]⟩⟩
theorem hd_ok {w : World} {g h : Nat} (H : HeadAt w g h) (k : Nat) : (hdR h k).ok w := by
 match k with
 | 0 => exact ⟨fun i hi => by simp [hdR] at hi, fun i hi => by simp [hdR] at hi, by simp [hdR], by simp [hdR], by simp [hdR]⟩
 | 1 => exact ⟨fun i hi => by simp [hdR] at hi, H.row, by simp [hdR], by simp [hdR], by simp [hdR]⟩
 | k + 2 => exact ⟨fun i hi => by simp [hdR] at hi, fun i hi => by simp [hdR] at hi, by simp [hdR], by simp [hdR], by simp [hdR]⟩
theorem hd_k (h k : Nat) : (hdR h k).k ≠ 5 := by
 match k with
 | 0 => simp [hdR]
 | 1 => simp [hdR]
 | k + 2 => simp [hdR]
theorem hd_jb (n : Int) (h k : Nat) : (hdR h k).k = 2 → acB (hdS n k) (at' (hdR h k)) = true → jbB (at' (hdR h k)) = true := by
 match k with
 | 0 => intro e; simp [hdR] at e
 | 1 => exact fun _ _ => rfl
 | k + 2 => exact fun _ _ => rfl
theorem hd_cnt (n : Int) (k : Nat) : Vs.countM (hdS n k).M ≤ 268435456 := by
 match k with
 | 0 => simp [hdS, Vs.countM]
 | 1 => simp [hdS, Vs.countM]
 | 2 => simp [hdS, Vs.countM]
 | k + 3 => simp [hdS, Vs.countM]
theorem hist_hd (n : Int) : Hist (hdS n 3) [⟨⟨2, 0, 0⟩, [kv]⟩] [] := by
 have hM : (hdS n 3).M = Vs.instM [] [kv] ⟨2, 0, 0⟩ := rfl; refine ⟨rfl, by simp [Ord], ⟨_, rfl, rfl⟩, by simp [hdS], by simp [hdS], by simp [hdS], ?_, ?_, by simp [hdS], by simp [hdS], by simp [hdS], ?_, by simp [hdS, Vs.countM], by simp [hdS]⟩
 ·intro c hc; rw [List.mem_singleton] at hc; subst hc; exact ⟨⟨by simp, by simp, by simp⟩, by simp, writes_kv⟩
 ·intro k v hv; rw [hM] at hv; rcases inst_dump List.Pairwise.nil ⟨2, 0, 0⟩ [kv] _ hv with ⟨x, hx, ex⟩ | hv
  ·injection ex with e1 e2
   subst e1 e2; exact ⟨_, List.mem_singleton.2 rfl, rfl, x, hx, rfl⟩
  ·simp [Vs.dumpM] at hv
 ·intro t ht; rw [hM]; cases hl : t.lt ⟨2, 0, 0⟩ with
  | true => rw [read_above List.Pairwise.nil hl]; simp [ser, hl, Vs.readAll, layC]
  | false => rw [read_from List.Pairwise.nil hl]; simp [ser, hl, Vs.readAll, layC]
end Go.Proofs.YtneojeidpfjpbaaGreatDoor.Ys
namespace Go.Proofs.YtneojeidpfjpbaaGreatDoor.Ig
open Go.Proofs.YtneojeidpfjpbaaGreatDoor Ys
def cmOf (E : List Lg.En) : Bool := E.any fun e => e.oc == 1
def lcOf (E : List Lg.En) : Vs.Sp := E.foldl (fun a e => if e.oc = 1 then mxS a (atE e) else a) ⟨0, 0, 0⟩
structure Tw (s : Ps) : Prop where
 ceil : 0 < s.ceil ∧ s.ceil ≤ 18446744073709551615
 node : okU 4294967295 s.node
 wm : okS s.wm ∧ s.wm.a < 18446744073709551615
 vr : ∀ e ∈ Vs.dumpM s.M, e.2.s.a < s.ceil ∧ okS e.2.s ∧ Vs.okV e = true
 en : ∀ e ∈ s.E, okEntry e ∧ (rgE e).err = 0 ∧ (e.oc = 1 → e.w < s.ceil)
 hd : ∀ h ∈ s.H, okHeld h ∧ (rgP h).err = 0 ∧ h.w < s.ceil ∧ h.id ∉ s.E.map Lg.En.id
 nd : (s.E.map Lg.En.id).Nodup
 lc : s.cm = cmOf s.E ∧ s.lc = lcOf s.E
theorem lcOf_snoc (E : List Lg.En) (e : Lg.En) : lcOf (E ++ [e]) = if e.oc = 1 then mxS (lcOf E) (atE e) else lcOf E := by simp [lcOf]
theorem cmOf_snoc (E : List Lg.En) (e : Lg.En) : cmOf (E ++ [e]) = (cmOf E || e.oc == 1) := by simp [cmOf]
theorem oks_iff {t : Vs.Sp} : OkS t ↔ okS t := ⟨fun h => ⟨h.a, h.b, h.c⟩, fun h => ⟨h.1, h.2.1, h.2.2⟩⟩
theorem lc_ok : ∀ (E : List Lg.En), (∀ e ∈ E, okEntry e) → OkS (lcOf E) := by
 intro E; induction E using snoc_ind with
 | nil => intro _; exact ⟨⟨by decide, by decide⟩, ⟨by decide, by decide⟩, by decide, by decide⟩
 | snoc E e ih =>
  intro h; have h1 := ih fun x hx => h x (by simp [hx])
  rw [lcOf_snoc]; split
  ·rw [mxS_is h1]; split
   ·exact oks_iff.2 (h e (by simp)).2.2
   ·exact h1
  ·exact h1
theorem may_of {e : Lg.En} (h : (rgE e).err = 0) : Lg.mayB e = true := by
 have hr := err_valid h; have h3 : (rgE e).k = 3 := rfl; unfold Rg.rules at hr; rw [if_neg (by rw [h3]; decide), if_neg (by rw [h3]; decide), if_pos h3, Bool.and_eq_true, Bool.or_eq_true] at hr; unfold Lg.mayB; rcases hr.2 with h1 | h1
 ·rw [Bool.and_eq_true] at h1; rw [show (e.oc == 1) = true from h1.1]; rfl
 ·rw [Bool.and_eq_true, Bool.and_eq_true, Bool.and_eq_true] at h1; have q1 : e.w = 0 := by simpa [rgE] using h1.2.1.1
  have q2 : e.l = 0 := by simpa [rgE] using h1.2.1.2
  have q3 : e.n = 0 := by simpa [rgE] using h1.2.2
  rw [show (e.oc == 2) = true from h1.1, q1, q2, q3, sameB_self]; simp
structure Eqv (s t : Ps) : Prop where
 node : t.node = s.node
 ceil : t.ceil = s.ceil
 M : t.M = s.M
 wm : t.wm = s.wm
 cm : t.cm = s.cm
 lc : t.lc = s.lc
 H : t.H.Perm s.H
 E : t.E.Perm s.E
 hn : (s.H.map Lk.Hd.id).Nodup
 en : (s.E.map Lg.En.id).Nodup
section
variable {s t : Ps}
theorem out_perm {E E' : List Lg.En} (hp : E'.Perm E) (i : Lk.Ix) : (Lg.outM E' i).isSome = (Lg.outM E i).isSome := by
 have key : ∀ F : List Lg.En, (Lg.outM F i).isSome = decide (i ∈ F.map Lg.En.id) := fun F => by
  cases h : Lg.outM F i with
  | none => rw [decide_eq_false (Lg.outM_none.1 h)]; rfl
  | some e => rw [decide_eq_true (List.mem_map.2 ⟨e, Lg.outM_some h⟩)]; rfl
 rw [key, key, Bool.eq_iff_iff]; simp only [decide_eq_true_eq]; exact (hp.map _).mem_iff
theorem get_perm {H H' : List Lk.Hd} (hp : H'.Perm H) (hn : (H.map Lk.Hd.id).Nodup) (i : Lk.Ix) : getH H' i = getH H i := by
 unfold getH; cases h : H.find? (fun h => decide (h.id = i)) with
 | none =>
  rw [List.find?_eq_none] at h ⊢; exact fun x hx => h x (hp.mem_iff.1 hx)
 | some g =>
  have h1 := List.find?_some h; have h2 := List.mem_of_find?_eq_some h; cases h' : H'.find? (fun h => decide (h.id = i)) with
  | none => exact absurd h1 (List.find?_eq_none.1 h' g (hp.mem_iff.2 h2))
  | some g' =>
   have g1 := List.find?_some h'; have g2 := List.mem_of_find?_eq_some h'; rw [Lk.nodup_inj hn (hp.mem_iff.1 g2) h2 (by rw [show g'.id = i by simpa using g1, show g.id = i by simpa using h1])]
theorem any_perm {α : Type} {l l' : List α} (hp : l'.Perm l) (f : α → Bool) : l'.any f = l.any f := by
 rw [Bool.eq_iff_iff, List.any_eq_true, List.any_eq_true]; constructor
 ·rintro ⟨e, he, h⟩; exact ⟨e, hp.mem_iff.1 he, h⟩
 ·rintro ⟨e, he, h⟩; exact ⟨e, hp.mem_iff.2 he, h⟩
theorem holdC_perm {H H' : List Lk.Hd} (hp : H'.Perm H) (h : Lk.Hd) : Lk.holdC H' h = Lk.holdC H h := by
 have h1 : Lk.confl H' h.id h.rs h.ws = Lk.confl H h.id h.rs h.ws := any_perm hp _; unfold Lk.holdC; by_cases hm : h.id ∈ H.map Lk.Hd.id
 ·rw [if_pos hm, if_pos ((hp.map _).mem_iff.2 hm)]
 ·rw [if_neg hm, if_neg (fun h9 => hm ((hp.map _).mem_iff.1 h9)), h1]
theorem holdM_perm {H H' : List Lk.Hd} (hp : H'.Perm H) (h : Lk.Hd) : (Lk.holdM H' h).Perm (Lk.holdM H h) := by
 have h1 : Lk.confl H' h.id h.rs h.ws = Lk.confl H h.id h.rs h.ws := any_perm hp _; unfold Lk.holdM; by_cases hm : h.id ∈ H.map Lk.Hd.id
 ·rw [if_pos hm, if_pos ((hp.map _).mem_iff.2 hm)]; exact hp
 ·rw [if_neg hm, if_neg (fun h9 => hm ((hp.map _).mem_iff.1 h9)), h1]; split
  ·exact hp
  ·exact hp.append_right _
theorem holdM_nodup {H : List Lk.Hd} (hn : (H.map Lk.Hd.id).Nodup) (h : Lk.Hd) : ((Lk.holdM H h).map Lk.Hd.id).Nodup := by
 unfold Lk.holdM; split
 ·exact hn
 ·rename_i hm; split
  ·exact hn
  ·rw [List.map_append, List.nodup_append]; refine ⟨hn, by simp, fun a ha b hb => ?_⟩; simp only [List.map_cons, List.map_nil, List.mem_singleton] at hb; subst hb; exact fun e => hm (e ▸ ha)
theorem dropM_nodup {H : List Lk.Hd} (hn : (H.map Lk.Hd.id).Nodup) (i : Lk.Ix) : ((Lk.dropM H i).map Lk.Hd.id).Nodup := hn.sublist (List.filter_sublist.map _)
theorem decM_perm {E E' : List Lg.En} (hp : E'.Perm E) (e : Lg.En) : (Lg.decM E' e).Perm (Lg.decM E e) := by
 have h1 := out_perm hp e.id; unfold Lg.decM; split
 ·cases h : Lg.outM E e.id with
  | none =>
   rw [h] at h1; cases h' : Lg.outM E' e.id with
   | none => exact hp.append_right _
   | some x => rw [h'] at h1; cases h1
  | some x =>
   rw [h] at h1; cases h' : Lg.outM E' e.id with
   | none => rw [h'] at h1; cases h1
   | some y => exact hp
 ·exact hp
theorem Eqv.lay (h : Eqv s t) (e : Lg.En) : Eqv (layS s e) (layS t e) := by
 have h1 := decM_perm h.E e; have h2 := Lg.decM_nodup h.en e; unfold layS; split
 ·exact ⟨h.node, h.ceil, h.M, h.wm, rfl, by show mxS t.lc _ = mxS s.lc _; rw [h.lc], h.H, h1, h.hn, h2⟩
 ·exact ⟨h.node, h.ceil, h.M, h.wm, h.cm, h.lc, h.H, h1, h.hn, h2⟩
theorem Eqv.set (h : Eqv s t) (r : Rg) : Eqv (setS s r) (setS t r) := by
 have h1 := h.lay (enR r); exact ⟨h1.node, h1.ceil, h1.M, h1.wm, h1.cm, h1.lc, h.H.filter _, h1.E, dropM_nodup h.hn _, h1.en⟩
theorem Eqv.hold (h : Eqv s t) (g : Lk.Hd) : hldB t g = hldB s g ∧ Eqv (hldS s g) (hldS t g) := by
 have hg : hldG t g = hldG s g := by unfold hldG; rw [out_perm h.E, h.ceil]
 refine ⟨by unfold hldB; rw [hg, holdC_perm h.H], ?_⟩; unfold hldS; rw [hg]; split
 ·exact h
 ·exact ⟨h.node, h.ceil, h.M, h.wm, h.cm, h.lc, holdM_perm h.H g, h.E, holdM_nodup h.hn g, h.en⟩
theorem Eqv.ap (h : Eqv s t) (r : Rg) : apE t r = apE s r ∧ Eqv (apS s r) (apS t r) := by
 unfold apE apS; split
 ·split
  ·unfold resE resS; rw [h.ceil]; split
   ·exact ⟨rfl, h⟩
   ·exact ⟨rfl, h.node, rfl, h.M, h.wm, h.cm, h.lc, h.H, h.E, h.hn, h.en⟩
  ·split
   ·have ha : acB t (at' r) = acB s (at' r) := by unfold acB; rw [h.cm, h.lc]
    have ho : ovA t r = ovA s r := by unfold ovA ovB; rw [h.M]
    obtain ⟨h1, h2⟩ := h.hold (hvR r).h; unfold prpE prpS; rw [ha, ho, h1]; refine ⟨rfl, ?_⟩; split
    ·exact h2
    ·exact h
   ·split
    ·unfold dcdE dcdS; rw [out_perm h.E]; split
     ·exact ⟨rfl, h⟩
     ·split
      ·unfold cmtE cmtS; rw [get_perm h.H h.hn]; cases hg : getH s.H (r.c, r.s) with
       | none => exact ⟨rfl, h⟩
       | some g =>
        have hb : cmtB t r g = cmtB s r g := by unfold cmtB; rw [h.ceil]
        simp only [hb]; split
        ·refine ⟨trivial, ?_⟩; have h3 : Eqv { s with M := Vs.instR s.M g.ws (at' r) } { t with M := Vs.instR t.M g.ws (at' r) } := ⟨h.node, h.ceil, by show Vs.instR t.M _ _ = Vs.instR s.M _ _; rw [h.M], h.wm, h.cm, h.lc, h.H, h.E, h.hn, h.en⟩; exact h3.set r
        ·exact ⟨trivial, h⟩
      ·exact ⟨rfl, h.set r⟩
    ·unfold mrkE mrkS; rw [h.wm, h.M]; refine ⟨rfl, ?_⟩; split
     ·exact ⟨h.node, h.ceil, rfl, rfl, h.cm, h.lc, h.H, h.E, h.hn, h.en⟩
     ·exact h
 ·exact ⟨rfl, h⟩
theorem Eqv.img (h : Eqv s t) : imgB t = imgB s := by
 have h1 : srt Lk.Hd.id t.H = srt Lk.Hd.id s.H := (srt_same h.hn h.H.symm).symm; have h2 : srt Lg.En.id t.E = srt Lg.En.id s.E := (srt_same h.en h.E.symm).symm; unfold imgB imgOf; rw [h.node, h.ceil, h.wm, h1, h2, h.M]
theorem Eqv.imOk (h : Eqv s t) (hi : ImOk s) : ImOk t := ⟨by rw [h.node]; exact hi.node, by rw [h.ceil]; exact hi.ceil, by rw [h.wm]; exact hi.wm, fun x hx => hi.H x (h.H.mem_iff.1 hx), fun x hx => hi.E x (h.E.mem_iff.1 hx), by rw [h.M]; exact hi.D, by rw [h.H.length_eq]; exact hi.hn, by rw [h.E.length_eq]; exact hi.en, by rw [h.M]; exact hi.dn⟩
end
end Go.Proofs.YtneojeidpfjpbaaGreatDoor.Ig
