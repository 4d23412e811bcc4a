import Derived.Test.YtofpaldolcnmiaaGreatB31
import Derived.Test.YtofpaldolcnmiaaGreatB14
import Derived.Test.YtofpaldolcnmiaaGreatB32
import Derived.Test.YtofpaldolcnmiaaGreatB27
import Derived.Test.YtofpaldolcnmiaaGreatB34
import Derived.Test.YtofpaldolcnmiaaGreatB26
set_option linter.unusedVariables false
namespace Go.Proofs.YtofpaldolcnmiaaGreat.Ig
open Go.Proofs.YtofpaldolcnmiaaGreat
abbrev Ix := Lk.Ix
def ltX (i j : Ix) : Bool := decide (i.1 < j.1) || (decide (i.1 = j.1) && decide (i.2 < j.2))
theorem ltX_iff {i j : Ix} : ltX i j = true ↔ i.1 < j.1 ∨ (i.1 = j.1 ∧ i.2 < j.2) := by simp [ltX]
theorem ltX_no {i j : Ix} : ltX i j = false ↔ ¬ (i.1 < j.1 ∨ (i.1 = j.1 ∧ i.2 < j.2)) := by rw [← ltX_iff]; simp
theorem ltX_irr (i : Ix) : ltX i i = false := by rw [ltX_no]; omega
theorem ltX_trans {i j k : Ix} (h : ltX i j = true) (h' : ltX j k = true) : ltX i k = true := by rw [ltX_iff] at *; omega
theorem ltX_tri {i j : Ix} (h : ltX i j = false) (hne : i ≠ j) : ltX j i = true := by
  rw [ltX_no] at h
  rw [ltX_iff]
  have : ¬ (i.1 = j.1 ∧ i.2 = j.2) := fun e => hne (Prod.ext e.1 e.2)
  omega
section
variable {α : Type} (f : α → Ix)
def Up (l : List α) : Prop := l.Pairwise fun x y => ltX (f x) (f y) = true
def insX (x : α) : List α → List α
  | [] => [x]
  | y :: l => if ltX (f y) (f x) then y :: insX x l else x :: y :: l
def srt (l : List α) : List α := l.foldr (insX f) []
variable {f}
theorem up_ext : ∀ {l m : List α}, Up f l → Up f m → (∀ e, e ∈ l ↔ e ∈ m) → l = m
  | [], [], _, _, _ => rfl
  | [], y :: m, _, _, h => absurd ((h y).2 (List.mem_cons_self ..)) (by simp)
  | x :: l, [], _, _, h => absurd ((h x).1 (List.mem_cons_self ..)) (by simp)
  | x :: l, y :: m, hl, hm, h => by
    have hl' := List.pairwise_cons.1 hl
    have hm' := List.pairwise_cons.1 hm
    have hxy : x = y := by
      rcases List.mem_cons.1 ((h x).1 (List.mem_cons_self ..)) with e | e
      · exact e
      · rcases List.mem_cons.1 ((h y).2 (List.mem_cons_self ..)) with e' | e'
        · exact e'.symm
        · exact absurd (ltX_trans (hm'.1 x e) (hl'.1 y e')) (by rw [ltX_irr]; decide)
    subst hxy
    congr 1
    refine up_ext hl'.2 hm'.2 fun e => ⟨fun he => ?_, fun he => ?_⟩
    · rcases List.mem_cons.1 ((h e).1 (List.mem_cons_of_mem _ he)) with e1 | e1
      · subst e1; exact absurd (hl'.1 _ he) (by rw [ltX_irr]; decide)
      · exact e1
    · rcases List.mem_cons.1 ((h e).2 (List.mem_cons_of_mem _ he)) with e1 | e1
      · subst e1; exact absurd (hm'.1 _ he) (by rw [ltX_irr]; decide)
      · exact e1
theorem insX_perm (x : α) : ∀ l : List α, (insX f x l).Perm (x :: l)
  | [] => List.Perm.refl _
  | y :: l => by
    rw [insX]
    split
    · exact ((insX_perm x l).cons y).trans (List.Perm.swap x y l)
    · exact List.Perm.refl _
theorem srt_perm : ∀ l : List α, (srt f l).Perm l
  | [] => List.Perm.refl _
  | x :: l => (insX_perm x (srt f l)).trans ((srt_perm l).cons x)
theorem insX_up {x : α} : ∀ {l : List α}, Up f l → f x ∉ l.map f → Up f (insX f x l)
  | [], _, _ => List.pairwise_singleton _ _
  | y :: l, h, hn => by
    have h' := List.pairwise_cons.1 h
    rw [List.map_cons, List.mem_cons] at hn
    rw [insX]
    split
    · rename_i hlt
      refine List.pairwise_cons.2 ⟨fun z hz => ?_, insX_up h'.2 fun hm => hn (.inr hm)⟩
      rcases List.mem_cons.1 ((insX_perm x l).mem_iff.1 hz) with rfl | hz
      · exact hlt
      · exact h'.1 z hz
    · rename_i hlt
      have hxy : ltX (f x) (f y) = true := ltX_tri (by simpa using hlt) (fun e => hn (.inl e.symm))
      refine List.pairwise_cons.2 ⟨fun z hz => ?_, h⟩
      rcases List.mem_cons.1 hz with rfl | hz
      · exact hxy
      · exact ltX_trans hxy (h'.1 z hz)
theorem srt_up : ∀ {l : List α}, (l.map f).Nodup → Up f (srt f l)
  | [], _ => List.Pairwise.nil
  | x :: l, hn => by
    rw [List.map_cons, List.nodup_cons] at hn
    exact insX_up (srt_up hn.2) fun hm => hn.1 (((srt_perm l).map f).mem_iff.1 hm)
theorem srt_eq {l U : List α} (hn : (l.map f).Nodup) (hp : U.Perm l) (hs : U.Pairwise fun x y => ltX (f y) (f x) = false) : U = srt f l := by
  have hnU : (U.map f).Nodup := ((hp.map f).nodup_iff).2 hn
  have hne : U.Pairwise fun x y => f x ≠ f y := List.pairwise_map.1 hnU
  have hup : Up f U := by
    have := hs.and hne
    exact this.imp fun {x y} h => ltX_tri h.1 (fun e => h.2 e.symm)
  exact up_ext hup (srt_up hn) fun e => by rw [hp.mem_iff, (srt_perm l).mem_iff]
theorem srt_same {l m : List α} (hn : (l.map f).Nodup) (hp : l.Perm m) : srt f l = srt f m :=
  srt_eq (((hp.map f).nodup_iff).1 hn) ((srt_perm l).trans hp) ((srt_up hn).imp fun {x y} h => by
    rw [ltX_iff] at h
    rw [ltX_no]; omega)
theorem srt_mem {l : List α} {x : α} : x ∈ srt f l ↔ x ∈ l := (srt_perm l).mem_iff
theorem srt_len (l : List α) : (srt f l).length = l.length := (srt_perm l).length_eq
end
def imgOf (s : Ys.Ps) : Im := (s.node, s.ceil, s.wm, srt Lk.Hd.id s.H, srt Lg.En.id s.E, Vs.dumpM s.M)
def imgB (s : Ys.Ps) : List Nat := eImg (imgOf s)
structure ImOk (s : Ys.Ps) : Prop where
  node : okU 4294967295 s.node
  ceil : okU 18446744073709551615 s.ceil
  wm : okS s.wm
  H : ∀ h ∈ s.H, okHeld h
  E : ∀ e ∈ s.E, okEntry e
  D : ∀ v ∈ Vs.dumpM s.M, okVersion v
  hn : s.H.length ≤ 1099511627776
  en : s.E.length ≤ 1099511627776
  dn : Vs.countM s.M ≤ 1500000
theorem ImOk.okI {s : Ys.Ps} (h : ImOk s) : okImg (imgOf s) := by
  have hd := Vs.dump_len s.M
  have h1 := h.hn
  have h2 := h.en
  have h3 := h.dn
  refine ⟨h.node, h.ceil, h.wm, ⟨fun x hx => h.H x (srt_mem.1 hx), ?_⟩, ⟨fun x hx => h.E x (srt_mem.1 hx), ?_⟩, fun x hx => h.D x hx, ?_⟩
  · show (srt Lk.Hd.id s.H).length < _; rw [srt_len]; omega
  · show (srt Lg.En.id s.E).length < _; rw [srt_len]; omega
  · show (Vs.dumpM s.M).length < _; omega
theorem ImOk.b8 {s : Ys.Ps} (h : ImOk s) : B8 (imgB s) := img_codec.byte _ h.okI
end Go.Proofs.YtofpaldolcnmiaaGreat.Ig
namespace Go.Proofs.YtofpaldolcnmiaaGreat.Ys
open Go.RowKit Go.Sort
abbrev kv : Wr := ⟨⟨#[107]⟩, false, ⟨#[118]⟩⟩
def hdR (h : Nat) : Nat → Rg
  | 0 => ⟨1, 8, 0, 0, 0, 0, 0, 0, 0, none, [], 0, none, [], 0, ⟨#[]⟩⟩
  | 1 => ⟨2, 0, 4294967295, 1, 0, 0, 1, 0, 0, none, [], 0, some ⟨h, 0, none⟩, [kv], 1, ⟨#[]⟩⟩
  | _ => ⟨3, 0, 4294967295, 1, 0, 1, 2, 0, 0, none, [], 0, none, [], 0, ⟨#[]⟩⟩
structure BoxO (w : World) (q o : Nat) (m : Rg) : Prop where
  c0 : w.cell? ⟨q, o, none⟩ = some (.int .i64 m.k)
  c1 : w.cell? ⟨q, o + 1, none⟩ = some (.int .u64 m.x)
  c2 : w.cell? ⟨q, o + 2, none⟩ = some (.int .u32 m.c)
  c3 : w.cell? ⟨q, o + 3, none⟩ = some (.int .u32 m.s)
  c4 : w.cell? ⟨q, o + 4, none⟩ = some (.int .u32 m.h)
  c5 : w.cell? ⟨q, o + 5, none⟩ = some (.int .i64 m.oc)
  c6 : w.cell? ⟨q, o + 6, none⟩ = some (.int .u64 m.w)
  c7 : w.cell? ⟨q, o + 7, none⟩ = some (.int .u32 m.l)
  c8 : w.cell? ⟨q, o + 8, none⟩ = some (.int .u32 m.n)
  c9 : w.cell? ⟨q, o + 9, none⟩ = some (.slice m.ra m.rs.length m.rc)
  c10 : w.cell? ⟨q, o + 10, none⟩ = some (.slice m.wa m.ws.length m.wc)
  c11 : w.cell? ⟨q, o + 11, none⟩ = some (.string m.im)
theorem BoxO.later {w w' : World} {q o : Nat} {m : Rg} (h : BoxO w q o m) (hb : Below w.heap.size w w') : BoxO w' q o m :=
  ⟨cell_later hb h.c0, cell_later hb h.c1, cell_later hb h.c2, cell_later hb h.c3, cell_later hb h.c4, cell_later hb h.c5, cell_later hb h.c6, cell_later hb h.c7, cell_later hb h.c8, cell_later hb h.c9, cell_later hb h.c10, cell_later hb h.c11⟩
structure HeadAt (w : World) (g h : Nat) : Prop where
  box : ∀ k, k < 3 → BoxO w g (k * 12) (hdR h k)
  row : RowW w (some ⟨h, 0, none⟩) [kv]
  typ : w.heap[h]? = some (.cells #[.string ⟨#[107]⟩, .bool false, .string ⟨#[118]⟩] 117 (0, 0))
  blk : ∃ cs, w.heap[g]? = some (.cells cs 40 (0, 0))
theorem cell_same {w w' : World} {b o : Nat} (h : w'.heap[b]? = w.heap[b]?) {v : Value} (k : w.cell? ⟨b, o, none⟩ = some v) : w'.cell? ⟨b, o, none⟩ = some v := by simp only [World.cell?, h] at k ⊢; exact k
theorem BoxO.same {w w' : World} {q o : Nat} {m : Rg} (h : BoxO w q o m) (hb : w'.heap[q]? = w.heap[q]?) : BoxO w' q o m :=
  ⟨cell_same hb h.c0, cell_same hb h.c1, cell_same hb h.c2, cell_same hb h.c3, cell_same hb h.c4, cell_same hb h.c5, cell_same hb h.c6, cell_same hb h.c7, cell_same hb h.c8, cell_same hb h.c9, cell_same hb h.c10, cell_same hb h.c11⟩
theorem HeadAt.chg {B : Nat} {w w' : World} {g h : Nat} (H : HeadAt w g h) (C : Chg B w w') : HeadAt w' g h := by
  obtain ⟨cs, hc⟩ := H.blk
  have e1 := C.block hc (by decide) (by decide)
  have e2 := C.block H.typ (by decide) (by decide)
  refine ⟨fun k hk => (H.box k hk).same e1, fun i hi => ?_, e2.trans H.typ, cs, e1.trans hc⟩
  obtain ⟨b, off, e, c0, c1, c2⟩ := H.row i hi
  injection e with e
  injection e with ea eo
  subst ea eo
  exact ⟨_, _, rfl, cell_same e2 c0, cell_same e2 c1, cell_same e2 c2⟩
theorem head_at {w : World} {g h : Nat} (h1 : w.heap[g]? = some (.cells #[.int .i64 1, .int .u64 8, .int .u32 0, .int .u32 0, .int .u32 0, .int .i64 0, .int .u64 0, .int .u32 0, .int .u32 0, .slice none 0 0, .slice none 0 0, .string ⟨#[]⟩, .int .i64 2, .int .u64 0, .int .u32 4294967295, .int .u32 1, .int .u32 0, .int .i64 0, .int .u64 1, .int .u32 0, .int .u32 0, .slice none 0 0, .slice (some ⟨h, 0, none⟩) 1 1, .string ⟨#[]⟩, .int .i64 3, .int .u64 0, .int .u32 4294967295, .int .u32 1, .int .u32 0, .int .i64 1, .int .u64 2, .int .u32 0, .int .u32 0, .slice none 0 0, .slice none 0 0, .string ⟨#[]⟩] 40 (0, 0)))
    (h2 : w.heap[h]? = some (.cells #[.string ⟨#[107]⟩, .bool false, .string ⟨#[118]⟩] 117 (0, 0))) : HeadAt w g h := by
  refine ⟨fun k hk => ?_, fun i hi => ?_, h2, _, h1⟩
  · match k, hk with
    | 0, _ => exact ⟨Vs.cell_of_obj h1 rfl, Vs.cell_of_obj h1 rfl, Vs.cell_of_obj h1 rfl, Vs.cell_of_obj h1 rfl, Vs.cell_of_obj h1 rfl, Vs.cell_of_obj h1 rfl, Vs.cell_of_obj h1 rfl, Vs.cell_of_obj h1 rfl, Vs.cell_of_obj h1 rfl, Vs.cell_of_obj h1 rfl, Vs.cell_of_obj h1 rfl, Vs.cell_of_obj h1 rfl⟩
    | 1, _ => exact ⟨Vs.cell_of_obj h1 rfl, Vs.cell_of_obj h1 rfl, Vs.cell_of_obj h1 rfl, Vs.cell_of_obj h1 rfl, Vs.cell_of_obj h1 rfl, Vs.cell_of_obj h1 rfl, Vs.cell_of_obj h1 rfl, Vs.cell_of_obj h1 rfl, Vs.cell_of_obj h1 rfl, Vs.cell_of_obj h1 rfl, Vs.cell_of_obj h1 rfl, Vs.cell_of_obj h1 rfl⟩
    | 2, _ => exact ⟨Vs.cell_of_obj h1 rfl, Vs.cell_of_obj h1 rfl, Vs.cell_of_obj h1 rfl, Vs.cell_of_obj h1 rfl, Vs.cell_of_obj h1 rfl, Vs.cell_of_obj h1 rfl, Vs.cell_of_obj h1 rfl, Vs.cell_of_obj h1 rfl, Vs.cell_of_obj h1 rfl, Vs.cell_of_obj h1 rfl, Vs.cell_of_obj h1 rfl, Vs.cell_of_obj h1 rfl⟩
  · simp at hi
    subst hi
    exact ⟨h, 0, rfl, Vs.cell_of_obj h2 rfl, Vs.cell_of_obj h2 rfl, Vs.cell_of_obj h2 rfl⟩
theorem Head_is (w : World) : Calls Tryz.prog 29 #[] w fun e w' => ∃ g h : Nat, e = .returned (.slice (some ⟨g, 0, none⟩) 3 3) ∧ Hid (HeadAt w' g h ∧ w.heap.size ≤ h) ∧ Below w.heap.size w w' := by
  obtain ⟨w1, hw1⟩ : ∃ w1, w1 = w.alloc (.cells #[.int .u32 4294967295, .int .u32 1] 33) := ⟨_, rfl⟩
  obtain ⟨w2, hw2⟩ : ∃ w2, w2 = w1.alloc (.cells #[.string ⟨#[107]⟩, .bool false, .string ⟨#[118]⟩] 117) := ⟨_, rfl⟩
  have s1 : w1.heap.size = w.heap.size + 1 := by rw [hw1]; simp
  have s2 : w2.heap.size = w.heap.size + 1 + 1 := by rw [hw2]; simp [s1]
  obtain ⟨w3, hw3⟩ : ∃ w3, w3 = w2.alloc (.cells #[.int .i64 1, .int .u64 8, .int .u32 0, .int .u32 0, .int .u32 0, .int .i64 0, .int .u64 0, .int .u32 0, .int .u32 0, .slice none 0 0, .slice none 0 0, .string ⟨#[]⟩, .int .i64 2, .int .u64 0, .int .u32 4294967295, .int .u32 1, .int .u32 0, .int .i64 0, .int .u64 1, .int .u32 0, .int .u32 0, .slice none 0 0, .slice (some ⟨w.heap.size + 1, 0, none⟩) 1 1, .string ⟨#[]⟩, .int .i64 3, .int .u64 0, .int .u32 4294967295, .int .u32 1, .int .u32 0, .int .i64 1, .int .u64 2, .int .u32 0, .int .u32 0, .slice none 0 0, .slice none 0 0, .string ⟨#[]⟩] 40) := ⟨_, rfl⟩
  have hb2 : Below w2.heap.size w2 w3 := by rw [hw3]; exact Below.al (Below.refl _ _) _
  have k2 : w2.heap[w.heap.size + 1]? = some (.cells #[.string ⟨#[107]⟩, .bool false, .string ⟨#[118]⟩] 117 (0, 0)) := by rw [← s1, hw2]; exact World.alloc_heap_new _ _
  have HA : Hid (HeadAt w3 (w.heap.size + 1 + 1) (w.heap.size + 1) ∧ w.heap.size ≤ w.heap.size + 1) := by
    refine hid ⟨head_at ?_ ((hb2.block _ (by omega)).trans k2), by omega⟩
    rw [← s2, hw3]; exact World.alloc_heap_new _ _
  have hb : Below w.heap.size w w3 := by rw [hw3, hw2, hw1]; exact Below.al (Below.al (Below.al (Below.refl _ _) _) _) _
  subst hw1
  subst hw2
  have HB := hid hb
  clear hb hb2 k2 s1 s2
  go_enter Tryz.func29, Tryz.ntmps29
  go_wp2_with fail
  go_ret
  rw [← hw3]
  exact ⟨_, rfl, ⟨_, HA⟩, HB.out⟩
def hdS (n : Int) : Nat → Ps
  | 0 => zero n
  | 1 => ⟨n, 8, [], [], [], ⟨0, 0, 0⟩, false, ⟨0, 0, 0⟩⟩
  | 2 => ⟨n, 8, [⟨(4294967295, 1), 0, 1, 0, 0, [], [kv]⟩], [], [], ⟨0, 0, 0⟩, false, ⟨0, 0, 0⟩⟩
  | _ => ⟨n, 8, [], [⟨(4294967295, 1), 0, 1, 2, 0, 0⟩], [(⟨#[107]⟩, [⟨⟨2, 0, 0⟩, false, ⟨#[118]⟩⟩])], ⟨0, 0, 0⟩, true, ⟨2, 0, 0⟩⟩
theorem list_k : (⟨#[107]⟩ : ByteArray).toList = [107] := by rw [ByteArray.toList_eq]
theorem writes_kv : writesOk [kv] = true := by
  have h1 : ltS ⟨#[]⟩ ⟨#[107]⟩ = true := by unfold ltS; rw [toList_empty, list_k]; rfl
  unfold writesOk
  simp [allB, writeAt, keyOk, prevW, nthW, h1, ByteArray.size]
theorem hd_err (h : Nat) : (hdR h 0).err = 0 ∧ (hdR h 1).err = 0 ∧ (hdR h 2).err = 0 := by
  refine ⟨?_, ?_, ?_⟩
  · simp [Rg.err, Rg.valid, Rg.named, Rg.rules, sameR, hdR, sameT, sameB, Rg.zero]
  · have hw := writes_kv
    simp only [kv] at hw
    simp [Rg.err, Rg.valid, Rg.named, Rg.rules, sameR, hdR, sameT, sameB, hw, topW, readsOk, allB]
  · simp [Rg.err, Rg.valid, Rg.named, Rg.rules, sameR, hdR, sameT, sameB, Rg.zero, topW]
theorem inst_kv : Vs.instR [] [kv] ⟨2, 0, 0⟩ = [(⟨#[107]⟩, [⟨⟨2, 0, 0⟩, false, ⟨#[118]⟩⟩])] := by
  rw [(Vs.inst_ok (M := []) writes_kv (t := ⟨2, 0, 0⟩) (by decide) (by simp [Vs.freeB, Vs.getX])).2]
  rfl
theorem hd_step (n : Int) (h k : Nat) (hk : k < 3) : apE (hdS n k) (hdR h k) = 0 ∧ apS (hdS n k) (hdR h k) = hdS n (k + 1) := by
  obtain ⟨e0, e1, e2⟩ := hd_err h
  match k, hk with
  | 0, _ =>
    rw [(ap_1 e0 rfl).1, (ap_1 e0 rfl).2]
    exact ⟨rfl, rfl⟩
  | 1, _ =>
    rw [(ap_2 e1 rfl).1, (ap_2 e1 rfl).2]
    have ho : ovA (hdS n 1) (hdR h 1) = false := by simp [ovA, ovB, Vs.abB, Vs.rangeX, hdS, hdR]
    have hg : hldG (hdS n 1) (hvR (hdR h 1)).h = false := by simp [hldG, hdS, hdR, Lg.outM]
    have hc : Lk.holdC (hdS n 1).H (hvR (hdR h 1)).h = 0 := by simp [Lk.holdC, hdS, hdR, Lk.confl]
    have hm : Lk.holdM (hdS n 1).H (hvR (hdR h 1)).h = [⟨(4294967295, 1), 0, 1, 0, 0, [], [kv]⟩] := by simp [Lk.holdM, hdS, hdR, Lk.confl]
    have ha : acB (hdS n 1) (at' (hdR h 1)) = true := rfl
    constructor
    · unfold prpE hldB
      rw [ho, hg, hc, ha]; rfl
    · unfold prpS hldS
      rw [ho, hg, hm, ha]; rfl
  | 2, _ =>
    rw [(ap_3 e2 rfl).1, (ap_3 e2 rfl).2]
    have ho : (Lg.outM (hdS n 2).E ((hdR h 2).c, (hdR h 2).s)).isSome = false := rfl
    have hg : getH (hdS n 2).H ((hdR h 2).c, (hdR h 2).s) = some ⟨(4294967295, 1), 0, 1, 0, 0, [], [kv]⟩ := rfl
    have hb : cmtB (hdS n 2) (hdR h 2) ⟨(4294967295, 1), 0, 1, 0, 0, [], [kv]⟩ = true := rfl
    have hx : mxS ⟨0, 0, 0⟩ ⟨2, 0, 0⟩ = ⟨2, 0, 0⟩ := rfl
    constructor
    · unfold dcdE cmtE
      rw [ho, hg]
      simp only [hb]
      rfl
    · unfold dcdS cmtS
      rw [ho, hg]
      simp only [hb]
      have hi : Vs.instR (hdS n 2).M [kv] (at' (hdR h 2)) = [(⟨#[107]⟩, [⟨⟨2, 0, 0⟩, false, ⟨#[118]⟩⟩])] := inst_kv
      show setS { hdS n 2 with M := Vs.instR (hdS n 2).M [kv] (at' (hdR h 2)) } (hdR h 2) = hdS n 3
      rw [hi]
      rfl
theorem hd_rgr (h k : Nat) : RgR (hdR h k) := by
  match k with
  | 0 => exact ⟨by simp [hdR], ⟨by simp [hdR], by simp [hdR], by simp [hdR]⟩⟩
  | 1 => exact ⟨by simp [hdR], ⟨by simp [hdR], by simp [hdR], by simp [hdR]⟩⟩
  | k + 2 => exact ⟨by simp [hdR], ⟨by simp [hdR], by simp [hdR], by simp [hdR]⟩⟩
theorem hd_ok {w : World} {g h : Nat} (H : HeadAt w g h) (k : Nat) : (hdR h k).ok w := by
  match k with
  | 0 => exact ⟨fun i hi => by simp [hdR] at hi, fun i hi => by simp [hdR] at hi, by simp [hdR], by simp [hdR], by simp [hdR]⟩
  | 1 => exact ⟨fun i hi => by simp [hdR] at hi, H.row, by simp [hdR], by simp [hdR], by simp [hdR]⟩
  | k + 2 => exact ⟨fun i hi => by simp [hdR] at hi, fun i hi => by simp [hdR] at hi, by simp [hdR], by simp [hdR], by simp [hdR]⟩
theorem hd_k (h k : Nat) : (hdR h k).k ≠ 5 := by
  match k with
  | 0 => simp [hdR]
  | 1 => simp [hdR]
  | k + 2 => simp [hdR]
theorem hd_jb (n : Int) (h k : Nat) : (hdR h k).k = 2 → acB (hdS n k) (at' (hdR h k)) = true → jbB (at' (hdR h k)) = true := by
  match k with
  | 0 => intro e; simp [hdR] at e
  | 1 => exact fun _ _ => rfl
  | k + 2 => exact fun _ _ => rfl
theorem hd_cnt (n : Int) (k : Nat) : Vs.countM (hdS n k).M ≤ 268435456 := by
  match k with
  | 0 => simp [hdS, Vs.countM]
  | 1 => simp [hdS, Vs.countM]
  | 2 => simp [hdS, Vs.countM]
  | k + 3 => simp [hdS, Vs.countM]
theorem hist_hd (n : Int) : Hist (hdS n 3) [⟨⟨2, 0, 0⟩, [kv]⟩] [] := by
  have hM : (hdS n 3).M = Vs.instM [] [kv] ⟨2, 0, 0⟩ := rfl
  refine ⟨rfl, by simp [Ord], ⟨_, rfl, rfl⟩, by simp [hdS], by simp [hdS], by simp [hdS], ?_, ?_, by simp [hdS], by simp [hdS], by simp [hdS], ?_, by simp [hdS, Vs.countM], by simp [hdS]⟩
  · intro c hc
    rw [List.mem_singleton] at hc
    subst hc
    exact ⟨⟨by simp, by simp, by simp⟩, by simp, writes_kv⟩
  · intro k v hv
    rw [hM] at hv
    rcases inst_dump List.Pairwise.nil ⟨2, 0, 0⟩ [kv] _ hv with ⟨x, hx, ex⟩ | hv
    · injection ex with e1 e2
      subst e1 e2
      exact ⟨_, List.mem_singleton.2 rfl, rfl, x, hx, rfl⟩
    · simp [Vs.dumpM] at hv
  · intro t ht
    rw [hM]
    cases hl : t.lt ⟨2, 0, 0⟩ with
    | true => rw [read_above List.Pairwise.nil hl]; simp [ser, hl, Vs.readAll, layC]
    | false => rw [read_from List.Pairwise.nil hl]; simp [ser, hl, Vs.readAll, layC]
set_option maxHeartbeats 1000000 in
theorem begun_is (w : World) (n : Int) : Calls Tryz.prog 6 #[.int .u32 n] w fun e w' => ∃ p, e = .returned (sp p) ∧ Hid (Sta w.heap.size w' p (hdS n 3)) ∧ Below w.heap.size w w' := by
  have NW := hid (new_is w n)
  have HD := hid Head_is
  go_enter Tryz.func6, Tryz.ntmps6
  go_wp2_with fail
  refine NW.out.mono ?_
  rintro e w1 ⟨rfl, T, hb1⟩
  have T1 : Sta w.heap.size w1 w.heap.size (hdS n 0) := ⟨_, none, none, none, [], [], T, fun b hb => by
    rcases hb with hb | hb | hb | hb | hb
    · exact Nat.le_of_eq hb.symm
    · exact Nat.le_of_eq hb.symm
    · cases hb
    · cases hb
    · cases hb⟩
  have HT1 := hid T1
  have HB1 := hid hb1
  clear T T1 hb1 NW
  go_wp2_with fail
  refine (HD.out _).mono ?_
  rintro e w2 ⟨g, h, rfl, HA, hb2⟩
  have HT2 := hid (HT1.out.later hb2)
  have HB2 := hid (Below.on HB1.out hb2)
  have HH := hid HA.out.1
  clear hb2 HA HT1 HB1 HD
  go_wp2_with fail
  go_loopg [5] 3 (fun gg s5 wr => ∃ k : Nat, k ≤ 3 ∧ gg = 3 - k ∧ s5 = .int .i64 k ∧ Hid (Sta w.heap.size wr w.heap.size (hdS n k)) ∧ Hid (HeadAt wr g h) ∧ Hid (Below w.heap.size w wr))
  case atStart => exact ⟨0, by omega, by omega, rfl, HT2, HH, HB2⟩
  case round =>
    obtain ⟨k, hk, rfl, rfl, HT, HA, HB⟩ := hrel
    clear HT2 HH HB2
    by_cases hlt : k < 3
    · have bx := HA.out.box k hlt
      have b0 := bx.c0; have b1 := bx.c1; have b2 := bx.c2; have b3 := bx.c3; have b4 := bx.c4; have b5 := bx.c5; have b6 := bx.c6; have b7 := bx.c7; have b8 := bx.c8; have b9 := bx.c9; have b10 := bx.c10; have b11 := bx.c11
      have hs := hd_step n h k hlt
      have AP : Hid (Calls Tryz.prog 7 #[sp w.heap.size, (hdR h k).val] wr fun e w' => e = .returned (.int .i64 0) ∧ Hid (Sta w.heap.size w' w.heap.size (hdS n (k + 1)) ∧ Chg w.heap.size wr w')) := by
        have := HT.out.apply HB.out.size (hdR h k) (hd_ok HA.out k) (hd_rgr h k) (hd_k h k) (hd_cnt n k) (hd_jb n h k)
        rw [hs.1, hs.2] at this
        exact hid this
      clear bx hs
      go_wp2_with fail
      refine AP.out.mono ?_
      rintro e w3 ⟨rfl, HP⟩
      have HA3 := hid (HA.out.chg HP.out.2)
      have HB3 := hid (HB.out.trans (HP.out.2.below HB.out.size))
      clear b0 b1 b2 b3 b4 b5 b6 b7 b8 b9 b10 b11 AP
      go_wp2_with fail
      go_roundg (3 - (k + 1))
      case measure => omega
      case rel => exact ⟨k + 1, by omega, rfl, by go_num, hid HP.out.1, HA3, HB3⟩
    · obtain rfl : k = 3 := by omega
      go_wp2_with fail
      go_ret
      exact ⟨_, rfl, HT, HB.out⟩
end Go.Proofs.YtofpaldolcnmiaaGreat.Ys
namespace Go.Proofs.YtofpaldolcnmiaaGreat.Ig
open Go.Proofs.YtofpaldolcnmiaaGreat Ys
def cmOf (E : List Lg.En) : Bool := E.any fun e => e.oc == 1
def lcOf (E : List Lg.En) : Vs.Sp := E.foldl (fun a e => if e.oc = 1 then mxS a (atE e) else a) ⟨0, 0, 0⟩
structure Tw (s : Ps) : Prop where
  ceil : 0 < s.ceil ∧ s.ceil ≤ 18446744073709551615
  node : okU 4294967295 s.node
  wm : okS s.wm ∧ s.wm.a < 18446744073709551615
  vr : ∀ e ∈ Vs.dumpM s.M, e.2.s.a < s.ceil ∧ okS e.2.s ∧ Vs.okV e = true
  en : ∀ e ∈ s.E, okEntry e ∧ (rgE e).err = 0 ∧ (e.oc = 1 → e.w < s.ceil)
  hd : ∀ h ∈ s.H, okHeld h ∧ (rgP h).err = 0 ∧ h.w < s.ceil ∧ h.id ∉ s.E.map Lg.En.id
  nd : (s.E.map Lg.En.id).Nodup
  lc : s.cm = cmOf s.E ∧ s.lc = lcOf s.E
def Und (s : Ps) : Prop := ∀ h ∈ s.H, ∀ x ∈ h.ws, ∀ e ∈ Vs.dumpM s.M, e.1 = x.key → e.2.s.lt (atHd h) = true
theorem und_of {s : Ps} {C : List Cm} {R : List Rg} (H : Hist s C R) : Und s := fun h hh x hx e he ek => by
  obtain ⟨k, v⟩ := e
  obtain ⟨c, hc, e1, y, hy, e2⟩ := H.ver k v he
  have := H.held h hh c hc y hy x hx (e2.trans ek)
  rw [e1] at this
  exact this
theorem lcOf_snoc (E : List Lg.En) (e : Lg.En) : lcOf (E ++ [e]) = if e.oc = 1 then mxS (lcOf E) (atE e) else lcOf E := by simp [lcOf]
theorem cmOf_snoc (E : List Lg.En) (e : Lg.En) : cmOf (E ++ [e]) = (cmOf E || e.oc == 1) := by simp [cmOf]
theorem oks_iff {t : Vs.Sp} : OkS t ↔ okS t := ⟨fun h => ⟨h.a, h.b, h.c⟩, fun h => ⟨h.1, h.2.1, h.2.2⟩⟩
theorem lc_ok : ∀ (E : List Lg.En), (∀ e ∈ E, okEntry e) → OkS (lcOf E) := by
  intro E
  induction E using snoc_ind with
  | nil => intro _; exact ⟨⟨by decide, by decide⟩, ⟨by decide, by decide⟩, by decide, by decide⟩
  | snoc E e ih =>
    intro h
    have h1 := ih fun x hx => h x (by simp [hx])
    rw [lcOf_snoc]
    split
    · rw [mxS_is h1]
      split
      · exact oks_iff.2 (h e (by simp)).2.2
      · exact h1
    · exact h1
theorem lc_max : ∀ (E : List Lg.En), (∀ e ∈ E, okEntry e) → (∀ e ∈ E, e.oc = 1 → (lcOf E).lt (atE e) = false) ∧ (lcOf E = ⟨0, 0, 0⟩ ∨ ∃ e ∈ E, e.oc = 1 ∧ lcOf E = atE e) := by
  intro E
  induction E using snoc_ind with
  | nil => intro _; exact ⟨fun e he => (by cases he), .inl rfl⟩
  | snoc E e ih =>
    intro h
    have hE : ∀ x ∈ E, okEntry x := fun x hx => h x (by simp [hx])
    obtain ⟨h1, h2⟩ := ih hE
    have hk := lc_ok E hE
    rw [lcOf_snoc]
    by_cases ho : e.oc = 1
    · rw [if_pos ho, mxS_is hk]
      cases hl : (lcOf E).lt (atE e) with
      | true =>
        rw [if_pos rfl]
        refine ⟨fun x hx hx1 => ?_, .inr ⟨e, by simp, ho, rfl⟩⟩
        rcases List.mem_append.1 hx with hx | hx
        · exact Vs.Sp.lt_asymm (Vs.Sp.le_lt (h1 x hx hx1) hl)
        · rw [List.mem_singleton] at hx; subst hx; exact Vs.Sp.irr _
      | false =>
        rw [if_neg (by decide)]
        refine ⟨fun x hx hx1 => ?_, ?_⟩
        · rcases List.mem_append.1 hx with hx | hx
          · exact h1 x hx hx1
          · rw [List.mem_singleton] at hx; subst hx; exact hl
        · rcases h2 with h2 | ⟨x, hx, h3, h4⟩
          · exact .inl h2
          · exact .inr ⟨x, by simp [hx], h3, h4⟩
    · rw [if_neg ho]
      refine ⟨fun x hx hx1 => ?_, ?_⟩
      · rcases List.mem_append.1 hx with hx | hx
        · exact h1 x hx hx1
        · rw [List.mem_singleton] at hx; subst hx; exact absurd hx1 ho
      · rcases h2 with h2 | ⟨x, hx, h3, h4⟩
        · exact .inl h2
        · exact .inr ⟨x, by simp [hx], h3, h4⟩
theorem lt_zero {t : Vs.Sp} (h : OkS t) : t.lt ⟨0, 0, 0⟩ = false := Vs.Sp.nn_lt ⟨h.a.1, h.b.1, h.c.1⟩
theorem lc_perm {E E' : List Lg.En} (hE : ∀ e ∈ E, okEntry e) (hp : E.Perm E') : lcOf E = lcOf E' := by
  have hE' : ∀ e ∈ E', okEntry e := fun e he => hE e (hp.mem_iff.2 he)
  obtain ⟨h1, h2⟩ := lc_max E hE
  obtain ⟨g1, g2⟩ := lc_max E' hE'
  refine sp_eq ?_ ?_
  · rcases g2 with g2 | ⟨e, he, ho, g2⟩
    · rw [g2]; exact lt_zero (lc_ok E hE)
    · rw [g2]; exact h1 e (hp.mem_iff.2 he) ho
  · rcases h2 with h2 | ⟨e, he, ho, h2⟩
    · rw [h2]; exact lt_zero (lc_ok E' hE')
    · rw [h2]; exact g1 e (hp.mem_iff.1 he) ho
theorem cm_perm {E E' : List Lg.En} (hp : E.Perm E') : cmOf E = cmOf E' := by
  unfold cmOf
  rw [Bool.eq_iff_iff, List.any_eq_true, List.any_eq_true]
  constructor
  · rintro ⟨e, he, h⟩; exact ⟨e, hp.mem_iff.1 he, h⟩
  · rintro ⟨e, he, h⟩; exact ⟨e, hp.mem_iff.2 he, h⟩
theorem may_of {e : Lg.En} (h : (rgE e).err = 0) : Lg.mayB e = true := by
  have hr := err_valid h
  have h3 : (rgE e).k = 3 := rfl
  unfold Rg.rules at hr
  rw [if_neg (by rw [h3]; decide), if_neg (by rw [h3]; decide), if_pos h3, Bool.and_eq_true, Bool.or_eq_true] at hr
  unfold Lg.mayB
  rcases hr.2 with h1 | h1
  · rw [Bool.and_eq_true] at h1
    rw [show (e.oc == 1) = true from h1.1]; rfl
  · rw [Bool.and_eq_true, Bool.and_eq_true, Bool.and_eq_true] at h1
    have q1 : e.w = 0 := by simpa [rgE] using h1.2.1.1
    have q2 : e.l = 0 := by simpa [rgE] using h1.2.1.2
    have q3 : e.n = 0 := by simpa [rgE] using h1.2.2
    rw [show (e.oc == 2) = true from h1.1, q1, q2, q3, sameB_self]
    simp
theorem feS_all (c : Int) : ∀ (l pre : List Lg.En) (s : Ps), s.ceil = c → s.E = pre → s.cm = cmOf pre → s.lc = lcOf pre → ((pre ++ l).map Lg.En.id).Nodup → (∀ e ∈ l, (rgE e).err = 0 ∧ (e.oc = 1 → e.w < c)) →
    feS s l = some { s with E := pre ++ l, cm := cmOf (pre ++ l), lc := lcOf (pre ++ l) }
  | [], pre, s, hc, hE, h1, h2, hn, hl => by
    rw [List.append_nil, ← h1, ← h2, ← hE]; rfl
  | e :: l, pre, s, hc, hE, h1, h2, hn, hl => by
    obtain ⟨he, hw⟩ := hl e (by simp)
    have hid : e.id ∉ pre.map Lg.En.id := by
      rw [List.map_append, List.map_cons, List.nodup_append] at hn
      exact fun hm => hn.2.2 _ hm _ (by simp) rfl
    have ho : Lg.outM s.E e.id = none := by rw [hE]; exact Lg.outM_none.2 hid
    have hb : feB s e = true := by
      unfold feB
      rw [he, ho, hc]
      by_cases h9 : e.oc = 1
      · simp [h9, hw h9]
      · simp [h9]
    have hdm : Lg.decM s.E e = pre ++ [e] := by unfold Lg.decM; rw [may_of he, ho, hE]; rfl
    have hS : layS s e = { s with E := pre ++ [e], cm := cmOf (pre ++ [e]), lc := lcOf (pre ++ [e]) } := by
      unfold layS
      rw [hdm, cmOf_snoc, lcOf_snoc, ← h1, ← h2]
      by_cases h9 : e.oc = 1
      · rw [if_pos h9, if_pos h9]; simp [h9]
      · rw [if_neg h9, if_neg h9]; simp [h9]
    rw [feS, if_pos hb, hS, feS_all c l (pre ++ [e]) { s with E := pre ++ [e], cm := cmOf (pre ++ [e]), lc := lcOf (pre ++ [e]) } hc rfl rfl rfl (by simpa using hn) (fun x hx => hl x (by simp [hx]))]
    simp
theorem fhS_all (c : Int) (E : List Lg.En) : ∀ (l pre : List Lk.Hd) (s : Ps), s.ceil = c → s.E = E → s.H = pre → ((pre ++ l).map Lk.Hd.id).Nodup → (pre ++ l).Pairwise (fun a b => Lk.meetB a.rs a.ws b = false) → (∀ h ∈ l, (rgP h).err = 0 ∧ h.w < c ∧ h.id ∉ E.map Lg.En.id) →
    fhS s l = some { s with H := pre ++ l }
  | [], pre, s, hc, hE, h1, hn, hp, hl => by rw [List.append_nil, ← h1]; rfl
  | h :: l, pre, s, hc, hE, h1, hn, hp, hl => by
    obtain ⟨he, hw, hi⟩ := hl h (by simp)
    have hid : h.id ∉ pre.map Lk.Hd.id := by
      rw [List.map_append, List.map_cons, List.nodup_append] at hn
      exact fun hm => hn.2.2 _ hm _ (by simp) rfl
    have hcf : Lk.confl s.H h.id h.rs h.ws = false := by
      unfold Lk.confl
      rw [List.any_eq_false]
      intro x hx
      rw [h1] at hx
      have := (List.pairwise_append.1 hp).2.2 x hx h (by simp)
      rw [Lk.meet_symm, this]
      simp
    have hg : hldG s h = false := by
      unfold hldG
      rw [hE, Lg.outM_none.2 hi, hc]
      simp [hw]
    have hC : Lk.holdC s.H h = 0 := by unfold Lk.holdC; rw [if_neg (by rw [h1]; exact hid), if_neg (by rw [hcf]; decide)]
    have hM : Lk.holdM s.H h = pre ++ [h] := by unfold Lk.holdM; rw [if_neg (by rw [h1]; exact hid), if_neg (by rw [hcf]; decide), h1]
    have hb : fhB s h = true := by unfold fhB hldB; rw [he, hg, hC]; rfl
    have hS : hldS s h = { s with H := pre ++ [h] } := by unfold hldS; rw [hg, if_neg (by decide), hM]
    rw [fhS, if_pos hb, hS, fhS_all c E l (pre ++ [h]) { s with H := pre ++ [h] } hc hE rfl (by simpa using hn) (by simpa using hp) (fun x hx => hl x (by simp [hx]))]
    simp
theorem ovW_mem (t : Vs.Sp) : ∀ (ws : List Wr) (J : Jt) (k : ByteArray) (u : Vs.Sp), (k, u) ∈ ovW J t ws → ((∃ x ∈ ws, x.key = k) ∧ u = t) ∨ (k, u) ∈ J
  | [], J, k, u, h => .inr h
  | x :: ws, J, k, u, h => by
    rcases ovW_mem t ws (Lk.putA J x.key t) k u h with ⟨⟨y, hy, e⟩, e2⟩ | h
    · exact .inl ⟨⟨y, by simp [hy], e⟩, e2⟩
    · rcases (Lk.putA_mem x.key t k u).1 h with ⟨e1, e2⟩ | ⟨_, h⟩
      · exact .inl ⟨⟨x, by simp, e1.symm⟩, e2⟩
      · exact .inr h
theorem ovJ_mem : ∀ (l : List Lk.Hd) (J : Jt) (k : ByteArray) (u : Vs.Sp), (k, u) ∈ l.foldl (fun J h => ovW J (atHd h) h.ws) J → (∃ h ∈ l, (∃ x ∈ h.ws, x.key = k) ∧ u = atHd h) ∨ (k, u) ∈ J
  | [], J, k, u, h => .inr h
  | g :: l, J, k, u, h => by
    rcases ovJ_mem l (ovW J (atHd g) g.ws) k u h with ⟨h', hh, e⟩ | h
    · exact .inl ⟨h', by simp [hh], e⟩
    · rcases ovW_mem _ _ _ _ _ h with ⟨e1, e2⟩ | h
      · exact .inl ⟨g, by simp, e1, e2⟩
      · exact .inr h
theorem getJ_mem {J : Jt} {k : ByteArray} {u : Vs.Sp} (h : getJ J k = some u) : (k, u) ∈ J := by
  unfold getJ at h
  obtain ⟨q, hq, e⟩ := Option.map_eq_some_iff.1 h
  have h1 := List.find?_some hq
  have h2 := List.mem_of_find?_eq_some hq
  have h3 : q.1 = k := by simpa using h1
  rw [← h3, ← e]
  exact h2
def twin (s : Ps) : Ps := { s with H := srt Lk.Hd.id s.H, E := srt Lg.En.id s.E }
theorem up_nodup {α : Type} {f : α → Ix} {l : List α} (h : (l.map f).Nodup) : ((srt f l).map f).Nodup := (((srt_perm l).map f).nodup_iff).2 h
theorem take_twin {s : Ps} (T : Tw s) (U : Und s) (hg : Vs.Good s.M) {I : Lk.It} (hk : Lk.Ok s.H I) (hi : ImOk s) : takeP s.node (.at (imgB s)) = some (twin s) := by
  have hE : tImg (.at (imgB s)) = (imgOf s, .at []) := by
    have := img_codec.app (imgOf s) hi.okI []
    rw [List.append_nil] at this
    exact this
  have hfv : fvB s.ceil (Vs.dumpM s.M) s.wm = true := by
    unfold fvB
    rw [List.all_eq_true.2 (fun v hv => by simpa using (T.vr v hv).1), Vs.ld_ok (Vs.dump_sorted hg) (fun e he => (T.vr e he).2.2)]
    simp [T.wm.2]
  have hfe := feS_all s.ceil (srt Lg.En.id s.E) [] ⟨s.node, s.ceil, [], [], Vs.loadM (Vs.dumpM s.M), s.wm, false, ⟨0, 0, 0⟩⟩ rfl rfl rfl rfl (by simpa using up_nodup T.nd) (fun e he => (T.en e (srt_mem.1 he)).2)
  have hlc : lcOf (srt Lg.En.id s.E) = s.lc := by rw [T.lc.2]; exact lc_perm (fun e he => (T.en e (srt_mem.1 he)).1) (srt_perm _)
  have hcm : cmOf (srt Lg.En.id s.E) = s.cm := by rw [T.lc.1]; exact cm_perm (srt_perm _)
  rw [List.nil_append, hlc, hcm, Vs.load_dump hg] at hfe
  have hap : (srt Lk.Hd.id s.H).Pairwise (fun a b => Lk.meetB a.rs a.ws b = false) := ((srt_perm s.H).pairwise_iff (fun {a b} h => by rw [Lk.meet_symm]; exact h)).2 hk.apart
  have hfh := fhS_all s.ceil (srt Lg.En.id s.E) (srt Lk.Hd.id s.H) [] ⟨s.node, s.ceil, [], srt Lg.En.id s.E, s.M, s.wm, s.cm, s.lc⟩ rfl rfl rfl (by simpa using up_nodup hk.ids) (by simpa using hap) (fun h hh => by
    have := T.hd h (srt_mem.1 hh)
    exact ⟨this.2.1, this.2.2.1, fun hm => this.2.2.2 (((srt_perm s.E).map _).mem_iff.1 hm)⟩)
  have hov : ovT (Vs.dumpM s.M) (srt Lk.Hd.id s.H) = false := by
    unfold ovT
    rw [List.any_eq_false]
    intro v hv
    unfold ovV
    cases hj : getJ (ovJ (srt Lk.Hd.id s.H)) v.1 with
    | none => simp
    | some t =>
      rcases ovJ_mem _ _ _ _ (getJ_mem hj) with ⟨h, hh, ⟨x, hx, ek⟩, e2⟩ | h9
      · have := U h (srt_mem.1 hh) x hx v hv ek.symm
        rw [e2]
        simp [this]
      · cases h9
  unfold takeP
  rw [hE]
  show (if s.node = s.node then fillP s.node s.ceil s.wm (srt Lk.Hd.id s.H) (srt Lg.En.id s.E) (Vs.dumpM s.M) else none) = _
  rw [if_pos rfl]
  unfold fillP
  rw [hfv, if_pos rfl, Vs.load_dump hg, hfe]
  simp only
  rw [hfh]
  simp only
  rw [hov]
  rfl
end Go.Proofs.YtofpaldolcnmiaaGreat.Ig
