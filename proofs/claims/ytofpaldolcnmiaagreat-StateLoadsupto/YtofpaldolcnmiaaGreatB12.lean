import Derived.Test.YtofpaldolcnmiaaGreatB11
import Derived.Test.YtofpaldolcnmiaaGreatB03
set_option linter.unusedVariables false
namespace Go.Proofs.YtofpaldolcnmiaaGreat
namespace Vs
open Go.RowKit Go.Sort
theorem writes_len {ws : List Wr} (h : writesOk ws = true) : ws.length ≤ 16 := by
 unfold writesOk at h; rw [Bool.and_eq_true] at h; simpa using h.1
abbrev Kv := ByteArray × Ver
def folB (d e : Kv) : Bool := if d.1 = e.1 then d.2.s.lt e.2.s else lt d.1 e.1
theorem fol_irr (d : Kv) : folB d d = false := by unfold folB; rw [if_pos rfl]; exact Sp.irr _
theorem fol_trans {c d e : Kv} (h : folB c d = true) (k : folB d e = true) : folB c e = true := by
 unfold folB at *; split at h
 ·rename_i e1; split at k
  ·rename_i e2; rw [if_pos (e1.trans e2)]; exact Sp.trans h k
  ·rename_i e2; rw [if_neg (by rw [e1]; exact e2), e1]; exact k
 ·rename_i e1; split at k
  ·rename_i e2; rw [if_neg (by rw [← e2]; exact e1), ← e2]; exact h
  ·have := lt_trans h k; rw [if_neg (lt_ne this)]; exact this
theorem fol_ext : ∀ {l m : List Kv}, l.Pairwise (fun x y => folB x y = true) → m.Pairwise (fun x y => folB x y = true) → (∀ e, e ∈ l ↔ e ∈ m) → l = m
 | [], [], _, _, _ => rfl
 | [], y :: m, _, _, h => absurd ((h y).2 (List.mem_cons_self ..)) (by simp)
 | x :: l, [], _, _, h => absurd ((h x).1 (List.mem_cons_self ..)) (by simp)
 | x :: l, y :: m, hl, hm, h => by
  have hl' := List.pairwise_cons.1 hl; have hm' := List.pairwise_cons.1 hm; have hxy : x = y := by
   rcases List.mem_cons.1 ((h x).1 (List.mem_cons_self ..)) with e | e
   ·exact e
   ·rcases List.mem_cons.1 ((h y).2 (List.mem_cons_self ..)) with e' | e'
    ·exact e'.symm
    ·exact absurd (fol_trans (hm'.1 x e) (hl'.1 y e')) (by rw [fol_irr]; decide)
  subst hxy; congr 1
  refine fol_ext hl'.2 hm'.2 fun e => ⟨fun he => ?_, fun he => ?_⟩
  ·rcases List.mem_cons.1 ((h e).1 (List.mem_cons_of_mem _ he)) with e1 | e1
   ·subst e1; exact absurd (hl'.1 _ he) (by rw [fol_irr]; decide)
   ·exact e1
  ·rcases List.mem_cons.1 ((h e).2 (List.mem_cons_of_mem _ he)) with e1 | e1
   ·subst e1; exact absurd (hm'.1 _ he) (by rw [fol_irr]; decide)
   ·exact e1
def dumpM (M : Mst) : List Kv := M.flatMap fun e => e.2.map fun v => (e.1, v)
theorem dump_len (M : Mst) : (dumpM M).length = countM M := by
 induction M with
 | nil => rfl
 | cons x M ih => simp only [dumpM, List.flatMap_cons, List.length_append, List.length_map, countM, List.map_cons, List.sum_cons] at ih ⊢; omega
theorem dump_mem {M : Mst} {k : ByteArray} {v : Ver} : (k, v) ∈ dumpM M ↔ ∃ cs, (k, cs) ∈ M ∧ v ∈ cs := by
 unfold dumpM; rw [List.mem_flatMap]; constructor
 ·rintro ⟨⟨k', cs⟩, h, e⟩; obtain ⟨u, hu, e⟩ := List.mem_map.1 e; injection e with e1 e2
  subst e1 e2; exact ⟨cs, h, hu⟩
 ·rintro ⟨cs, h, hv⟩; exact ⟨(k, cs), h, List.mem_map.2 ⟨v, hv, rfl⟩⟩
theorem dump_sorted {M : Mst} (h : Good M) : (dumpM M).Pairwise fun x y => folB x y = true := by
 obtain ⟨hr, hc⟩ := h; induction M with
 | nil => exact List.Pairwise.nil
 | cons x M ih =>
  have h' := List.pairwise_cons.1 hr; show (x.2.map (fun v => (x.1, v)) ++ dumpM M).Pairwise _
  refine List.pairwise_append.2 ⟨?_, ih h'.2 (fun e he => hc e (by simp [he])), ?_⟩
  ·rw [List.pairwise_map]; refine (hc x (by simp)).2.imp fun {a b} hab => ?_
   unfold folB; rw [if_pos rfl]; exact hab
  ·intro a ha b hb; obtain ⟨u, _, rfl⟩ := List.mem_map.1 ha; obtain ⟨k, v⟩ := b; obtain ⟨cs, hcs, _⟩ := dump_mem.1 hb; have := h'.1 _ hcs; unfold folB; rw [if_neg (lt_ne this)]; exact this
theorem add_dump_mem {M : Mst} (h : Rising M) {k : ByteArray} {v : Ver} (e : Kv) : e ∈ dumpM (addM M k v) ↔ e = (k, v) ∨ e ∈ dumpM M := by
 obtain ⟨k', u⟩ := e; rw [dump_mem, dump_mem]; have hmem : ∀ cs, (k', cs) ∈ addM M k v ↔ (k', cs) = (k, (getX M k).getD [] ++ [v]) ∨ ((k', cs) ∈ M ∧ k' ≠ k) := fun cs => setX_mem h _ _ _
 constructor
 ·rintro ⟨cs, hc, hu⟩; rcases (hmem cs).1 hc with e | ⟨hc, _⟩
  ·injection e with e1 e2
   subst e1 e2; rcases List.mem_append.1 hu with hu | hu
   ·cases hg : getX M k' with
    | none => rw [hg] at hu; cases hu
    | some cs => rw [hg] at hu; exact .inr ⟨cs, (getX_some h).1 hg, hu⟩
   ·simp at hu; subst hu; exact .inl rfl
  ·exact .inr ⟨cs, hc, hu⟩
 ·rintro (e | ⟨cs, hc, hu⟩)
  ·injection e with e1 e2
   subst e1 e2; exact ⟨_, (hmem _).2 (.inl rfl), by simp⟩
  ·by_cases hk : k' = k
   ·subst hk; refine ⟨_, (hmem _).2 (.inl rfl), ?_⟩; rw [(getX_some h).2 hc]; simp [hu]
   ·exact ⟨cs, (hmem cs).2 (.inr ⟨hc, hk⟩), hu⟩
theorem over_fol {M : Mst} (h : Rising M) {e : Kv} (ha : ∀ d ∈ dumpM M, folB d e = true) : Over M e.1 e.2.s := fun cs hg u hu => by
 have := ha (e.1, u) (dump_mem.2 ⟨cs, (getX_some h).1 hg, hu⟩); unfold folB at this; rw [if_pos rfl] at this; exact this
theorem add_last {M : Mst} (h : Good M) {e : Kv} (ha : ∀ d ∈ dumpM M, folB d e = true) : dumpM (addM M e.1 e.2) = dumpM M ++ [e] := by
 have ho := over_fol h.rising ha; refine fol_ext (dump_sorted (h.add ho)) ?_ fun x => ?_
 ·exact List.pairwise_append.2 ⟨dump_sorted h, List.pairwise_singleton _ _, fun a ha' b hb => by simp at hb; subst hb; exact ha a ha'⟩
 ·rw [add_dump_mem h.rising, List.mem_append, List.mem_singleton]; exact ⟨fun h => h.elim .inr .inl, fun h => h.elim .inr .inl⟩
def okV (e : Kv) : Bool := decide (e.2.s.a < 18446744073709551615) && wOk ⟨e.1, e.2.del, e.2.val⟩
def nthK (l : List Kv) (i : Nat) : Kv := (l[i]?).getD (⟨#[]⟩, ⟨⟨0, 0, 0⟩, false, ⟨#[]⟩⟩)
theorem nthK_get {l : List Kv} {i : Nat} (h : i < l.length) : nthK l i = l[i] := by simp [nthK, h]
theorem nthK_mem {l : List Kv} {i : Nat} (h : i < l.length) : nthK l i ∈ l := by rw [nthK_get h]; exact List.getElem_mem h
theorem nthK_take {l : List Kv} {i : Nat} (h : i < l.length) : l.take (i + 1) = l.take i ++ [nthK l i] := by rw [List.take_succ_eq_append_getElem h, nthK_get h]
def ldS (l : List Kv) (i : Nat) : Int := if okV (nthK l i) then (if i = 0 ∨ folB (nthK l (i - 1)) (nthK l i) = true then 0 else 91) else 1
def ldF (l : List Kv) : Nat → Int
 | 0 => 0
 | k + 1 => if ldF l k = 0 then ldS l k else ldF l k
def ldE (l : List Kv) : Int := ldF l l.length
def loadM (l : List Kv) : Mst := l.foldl (fun M e => addM M e.1 e.2) []
theorem loadM_snoc (l : List Kv) (e : Kv) : loadM (l ++ [e]) = addM (loadM l) e.1 e.2 := by simp [loadM]
theorem ldS_ok {l : List Kv} {i : Nat} (h : ldS l i = 0) : okV (nthK l i) = true ∧ (i = 0 ∨ folB (nthK l (i - 1)) (nthK l i) = true) := by
 unfold ldS at h; split at h
 ·split at h
  ·exact ⟨by assumption, by assumption⟩
  ·cases h
 ·cases h
theorem ld_stay {l : List Kv} {k : Nat} (h : ldF l k ≠ 0) : ∀ n, k ≤ n → ldF l n = ldF l k := by
 intro n hn; induction n with
 | zero => obtain rfl : k = 0 := by omega
           rfl
 | succ n ih =>
  by_cases e : k = n + 1
  ·rw [e]
  ·have := ih (by omega); rw [ldF, this, if_neg h]
theorem ld_last {l : List Kv} {k : Nat} (h0 : ldF l k = 0) (h : ldS l k ≠ 0) (hk : k < l.length) : ldE l = ldS l k := by
 have e : ldF l (k + 1) = ldS l k := by rw [ldF, if_pos h0]
 unfold ldE; rw [ld_stay (by rw [e]; exact h) _ (by omega : k + 1 ≤ l.length), e]
theorem sorted_snoc {l : List Kv} {d e : Kv} (h : (l ++ [d]).Pairwise fun x y => folB x y = true) (k : folB d e = true) : (l ++ [d] ++ [e]).Pairwise fun x y => folB x y = true :=
 List.pairwise_append.2 ⟨h, List.pairwise_singleton _ _, fun a ha b hb => by
  simp only [List.mem_singleton] at hb; subst hb; rcases List.mem_append.1 ha with ha | ha
  ·exact fol_trans ((List.pairwise_append.1 h).2.2 a ha d (by simp)) k
  ·simp only [List.mem_singleton] at ha; subst ha; exact k⟩
theorem ld_sorted {l : List Kv} : ∀ k, k ≤ l.length → ldF l k = 0 → (l.take k).Pairwise fun x y => folB x y = true
 | 0, _, _ => by simp
 | k + 1, hk, h => by
  have h0 : ldF l k = 0 := by
   rw [ldF] at h; by_cases e : ldF l k = 0
   ·exact e
   ·rw [if_neg e] at h; exact h
  rw [ldF, if_pos h0] at h; have ih := ld_sorted k (by omega) h0; rw [nthK_take (by omega : k < l.length)]; rcases (ldS_ok h).2 with rfl | hf
  ·simp
  ·cases k with
   | zero => simp
   | succ k =>
    rw [nthK_take (by omega : k < l.length)] at ih ⊢; exact sorted_snoc ih hf
theorem load_is (l : List Kv) (h : l.Pairwise fun x y => folB x y = true) : Good (loadM l) ∧ dumpM (loadM l) = l := by
 induction l using snoc_ind with
 | nil => exact ⟨Good.nil, rfl⟩
 | snoc l e ih =>
  have h' := List.pairwise_append.1 h; obtain ⟨ih1, ih2⟩ := ih h'.1; have ha : ∀ d ∈ dumpM (loadM l), folB d e = true := fun d hd => by rw [ih2] at hd; exact h'.2.2 d hd e (by simp)
  rw [loadM_snoc]; exact ⟨ih1.add (over_fol ih1.rising ha), by rw [add_last ih1 ha, ih2]⟩
theorem load_over {l : List Kv} {e : Kv} (h : (l ++ [e]).Pairwise fun x y => folB x y = true) : Over (loadM l) e.1 e.2.s := by
 have h' := List.pairwise_append.1 h; obtain ⟨ih1, ih2⟩ := load_is l h'.1; exact over_fol ih1.rising fun d hd => by rw [ih2] at hd; exact h'.2.2 d hd e (by simp)
theorem load_count {l : List Kv} (h : l.Pairwise fun x y => folB x y = true) : countM (loadM l) = l.length := by rw [← dump_len, (load_is l h).2]
theorem sorted_at {l : List Kv} (h : l.Pairwise fun x y => folB x y = true) {i j : Nat} (hij : i < j) (hj : j < l.length) : folB (nthK l i) (nthK l j) = true := by
 rw [nthK_get hj, nthK_get (by omega)]; exact List.pairwise_iff_getElem.1 h i j (by omega) hj hij
theorem ld_ok {l : List Kv} (h : l.Pairwise fun x y => folB x y = true) (hk : ∀ e ∈ l, okV e = true) : ldE l = 0 := by
 have : ∀ k, k ≤ l.length → ldF l k = 0 := by
  intro k; induction k with
  | zero => intro _; rfl
  | succ k ih =>
   intro hk'; rw [ldF, if_pos (ih (by omega)), ldS, if_pos (hk _ (nthK_mem (by omega))), if_pos]; by_cases e : k = 0
   ·exact .inl e
   ·exact .inr (sorted_at h (by omega) (by omega))
 exact this _ (Nat.le_refl _)
end Vs
namespace Ig
open Go.Proofs.YtofpaldolcnmiaaGreat
def tP {α β : Type} (t : Ds → α × Ds) (u : Ds → β × Ds) (d : Ds) : (α × β) × Ds := (((t d).1, (u (t d).2).1), (u (t d).2).2)
def tM {α β : Type} (g : α → β) (t : Ds → α × Ds) (d : Ds) : β × Ds := (g (t d).1, (t d).2)
def eP {α β : Type} (e : α → List Nat) (f : β → List Nat) (p : α × β) : List Nat := e p.1 ++ f p.2
def okP {α β : Type} (a : α → Prop) (b : β → Prop) (p : α × β) : Prop := a p.1 ∧ b p.2
def okL {α : Type} (a : α → Prop) (l : List α) : Prop := (∀ x ∈ l, a x) ∧ l.length < 18446744073709551616
theorem Codec.pair {α β : Type} {t : Ds → α × Ds} {u : Ds → β × Ds} {e : α → List Nat} {f : β → List Nat} {a : α → Prop} {b : β → Prop} (h : Codec t e a) (k : Codec u f b) : Codec (tP t u) (eP e f) (okP a b) := pair_codec h k
theorem Codec.list {α : Type} {t : Ds → α × Ds} {e : α → List Nat} {a : α → Prop} (h : Codec t e a) : Codec (tL t) (eL e) (okL a) := eL_codec h
theorem Codec.told {α β : Type} {t : Ds → α × Ds} {e : α → List Nat} {ok : α → Prop} (h : Codec t e ok) (g : α → β) (g' : β → α) (ok' : β → Prop) (h1 : ∀ y, ok' y → ok (g' y)) (h2 : ∀ y, ok' y → g (g' y) = y) : Codec (tM g t) (fun y => e (g' y)) ok' :=
 ⟨fun y hy r => by unfold tM; rw [h.app _ (h1 y hy), h2 y hy], fun y hy => h.pos _ (h1 y hy), fun y hy => h.byte _ (h1 y hy)⟩
def tU (m : Nat) : Ds → Int × Ds := tM (fun v : Nat => (v : Int)) (tVar m)
def eU (v : Int) : List Nat := vb v.toNat
def okU (m : Nat) (v : Int) : Prop := 0 ≤ v ∧ v ≤ m
theorem u_codec (m : Nat) (hm : m ≤ 18446744073709551615) : Codec (tU m) eU (okU m) :=
 (var_codec m hm).told _ _ _ (fun y hy => by have := hy.1; have := hy.2; show y.toNat ≤ m; omega) (fun y hy => by have := hy.1; show ((y.toNat : Nat) : Int) = y; omega)
def tX (m : Nat) : Ds → ByteArray × Ds := tM ofNats (tText m)
def eX (s : ByteArray) : List Nat := eText (nums s)
def okX (m : Nat) (s : ByteArray) : Prop := s.size ≤ m
theorem x_codec (m : Nat) (hm : m ≤ 18446744073709551615) : Codec (tX m) eX (okX m) :=
 (text_codec m hm).told _ _ _ (fun y hy => ⟨by rw [nln]; exact hy, nums_b8 y⟩) (fun y _ => ofNats_nums y)
def eFlag (b : Bool) : List Nat := [if b then 1 else 0]
theorem f_codec : Codec tFlag eFlag (fun _ => True) := flag_codec
def tB : Ds → Int × Ds := tM (fun v : Nat => (v : Int)) tByte
def eB (v : Int) : List Nat := [(v % 256).toNat]
def okB (v : Int) : Prop := 0 ≤ v ∧ v < 256
theorem b_codec : Codec tB eB okB :=
 byte_codec.told _ (fun v : Int => (v % 256).toNat) _ (fun y hy => by show (y % 256).toNat < 256; omega) (fun y hy => by have := hy.1; have := hy.2; show (((y % 256).toNat : Nat) : Int) = y; omega)
def tS : Ds → Vs.Sp × Ds := tM (fun x : Sm => (⟨x.w, x.l, x.n⟩ : Vs.Sp)) tStamp
def smOf (s : Vs.Sp) : Sm := ⟨s.a, s.b, s.c⟩
def eS (s : Vs.Sp) : List Nat := pkN (smOf s)
def okS (s : Vs.Sp) : Prop := (smOf s).ok
theorem tStamp_put {x : Sm} (h : x.ok) (r : List Nat) : tStamp (.at (pkN x ++ r)) = (x, .at r) := by
 have hl := pkN_length x; show (if (pkN x ++ r).length < 16 then (zSm, Ds.stop 30) else (unS ((pkN x ++ r).take 16), Ds.at ((pkN x ++ r).drop 16))) = _
 rw [if_neg (by rw [List.length_append]; omega), List.take_left' hl, List.drop_left' hl, unS_pkN h]
theorem s_codec : Codec tS eS okS :=
 Codec.told (⟨fun x hx r => tStamp_put hx r, fun x _ h => by have := pkN_length x; rw [h] at this; simp at this, fun x _ => pkN_b8 x⟩ : Codec tStamp pkN Sm.ok) _ _ _ (fun y hy => hy) (fun y _ => rfl)
theorem eS_len (s : Vs.Sp) : (eS s).length = 16 := pkN_length _
def tSpan : Ds → T2 × Ds := tP (tX 33) (tX 33)
def eSpan : T2 → List Nat := eP eX eX
def okSpan : T2 → Prop := okP (okX 33) (okX 33)
theorem span_codec : Codec tSpan eSpan okSpan := (x_codec 33 (by omega)).pair (x_codec 33 (by omega))
def tWrite : Ds → Wr × Ds := tM (fun p : ByteArray × Bool × ByteArray => (⟨p.1, p.2.1, p.2.2⟩ : Wr)) (tP (tX 32) (tP tFlag (tX 64)))
def eWrite (x : Wr) : List Nat := eP eX (eP eFlag eX) (x.key, x.del, x.val)
def okWrite (x : Wr) : Prop := okX 32 x.key ∧ okX 64 x.val
theorem write_codec : Codec tWrite eWrite okWrite :=
 ((x_codec 32 (by omega)).pair (f_codec.pair (x_codec 64 (by omega)))).told _ (fun x : Wr => (x.key, x.del, x.val)) _ (fun y hy => ⟨hy.1, trivial, hy.2⟩) (fun y _ => rfl)
def tTxn : Ds → (Lk.Ix × Int) × Ds := tM (fun p : Int × Int × Int => ((p.1, p.2.1), p.2.2)) (tP (tU 4294967295) (tP (tU 4294967295) (tU 4294967295)))
def eTxn (i : Lk.Ix × Int) : List Nat := eP eU (eP eU eU) (i.1.1, i.1.2, i.2)
def okTxn (i : Lk.Ix × Int) : Prop := okU 4294967295 i.1.1 ∧ okU 4294967295 i.1.2 ∧ okU 4294967295 i.2
theorem txn_codec : Codec tTxn eTxn okTxn :=
 ((u_codec 4294967295 (by omega)).pair ((u_codec 4294967295 (by omega)).pair (u_codec 4294967295 (by omega)))).told _ (fun i : Lk.Ix × Int => (i.1.1, i.1.2, i.2)) _ (fun y hy => hy) (fun y _ => rfl)
def tHeld : Ds → Lk.Hd × Ds := tM (fun p : (Lk.Ix × Int) × Vs.Sp × List T2 × List Wr => (⟨p.1.1, p.1.2, p.2.1.a, p.2.1.b, p.2.1.c, p.2.2.1, p.2.2.2⟩ : Lk.Hd)) (tP tTxn (tP tS (tP (tL tSpan) (tL tWrite))))
def atHd (h : Lk.Hd) : Vs.Sp := ⟨h.w, h.l, h.n⟩
def eHeld (h : Lk.Hd) : List Nat := eP eTxn (eP eS (eP (eL eSpan) (eL eWrite))) ((h.id, h.home), atHd h, h.rs, h.ws)
def okHeld (h : Lk.Hd) : Prop := okTxn (h.id, h.home) ∧ okS (atHd h) ∧ okL okSpan h.rs ∧ okL okWrite h.ws
theorem held_codec : Codec tHeld eHeld okHeld :=
 (txn_codec.pair (s_codec.pair (span_codec.list.pair write_codec.list))).told _ (fun h : Lk.Hd => ((h.id, h.home), atHd h, h.rs, h.ws)) _ (fun y hy => hy) (fun y _ => rfl)
def tEntry : Ds → Lg.En × Ds := tM (fun p : (Lk.Ix × Int) × Int × Vs.Sp => (⟨p.1.1, p.1.2, p.2.1, p.2.2.a, p.2.2.b, p.2.2.c⟩ : Lg.En)) (tP tTxn (tP tB tS))
def atEn (e : Lg.En) : Vs.Sp := ⟨e.w, e.l, e.n⟩
def eEntry (e : Lg.En) : List Nat := eP eTxn (eP eB eS) ((e.id, e.home), e.oc, atEn e)
def okEntry (e : Lg.En) : Prop := okTxn (e.id, e.home) ∧ okB e.oc ∧ okS (atEn e)
theorem entry_codec : Codec tEntry eEntry okEntry :=
 (txn_codec.pair (b_codec.pair s_codec)).told _ (fun e : Lg.En => ((e.id, e.home), e.oc, atEn e)) _ (fun y hy => hy) (fun y _ => rfl)
def tVersion : Ds → Vs.Kv × Ds := tM (fun p : ByteArray × Vs.Sp × Bool × ByteArray => ((p.1, ⟨p.2.1, p.2.2.1, p.2.2.2⟩) : Vs.Kv)) (tP (tX 32) (tP tS (tP tFlag (tX 64))))
def eVersion (v : Vs.Kv) : List Nat := eP eX (eP eS (eP eFlag eX)) (v.1, v.2.s, v.2.del, v.2.val)
def okVersion (v : Vs.Kv) : Prop := okX 32 v.1 ∧ okS v.2.s ∧ okX 64 v.2.val
theorem version_codec : Codec tVersion eVersion okVersion :=
 ((x_codec 32 (by omega)).pair (s_codec.pair (f_codec.pair (x_codec 64 (by omega))))).told _ (fun v : Vs.Kv => (v.1, v.2.s, v.2.del, v.2.val)) _ (fun y hy => ⟨hy.1, hy.2.1, trivial, hy.2.2⟩) (fun y _ => rfl)
abbrev Im := Int × Int × Vs.Sp × List Lk.Hd × List Lg.En × List Vs.Kv
def tImg : Ds → Im × Ds := tP (tU 4294967295) (tP (tU 18446744073709551615) (tP tS (tP (tL tHeld) (tP (tL tEntry) (tL tVersion)))))
def eImg : Im → List Nat := eP eU (eP eU (eP eS (eP (eL eHeld) (eP (eL eEntry) (eL eVersion)))))
def okImg : Im → Prop := okP (okU 4294967295) (okP (okU 18446744073709551615) (okP okS (okP (okL okHeld) (okP (okL okEntry) (okL okVersion)))))
theorem img_codec : Codec tImg eImg okImg :=
 (u_codec 4294967295 (by omega)).pair ((u_codec 18446744073709551615 (by omega)).pair (s_codec.pair (held_codec.list.pair (entry_codec.list.pair version_codec.list))))
theorem img_inj {x y : Im} (hx : okImg x) (hy : okImg y) (h : eImg x = eImg y) : x = y := by
 have h1 := img_codec.app x hx []; have h2 := img_codec.app y hy []; rw [h, h2] at h1; exact (congrArg Prod.fst h1).symm
def Eats {α : Type} (t : Ds → α × Ds) : Prop := ∀ d, d.left.length ≠ 0 → (t d).2.left.length < d.left.length
theorem vgo_len : ∀ (s : List Nat) (k v : Nat) (r : List Nat), vgo k s = .ok v r → r.length < s.length
 | [], k, v, r, h => by simp [vgo] at h
 | b :: s, k, v, r, h => by
  unfold vgo at h; split at h
  ·split at h
   ·injection h with _ h; subst h; simp
   ·cases h
  ·split at h
   ·split at h
    ·cases h
    ·injection h with _ h; subst h; simp
   ·cases hg : vgo (k + 1) s with
    | short => rw [hg] at h; cases h
    | form => rw [hg] at h; cases h
    | ok v' r' =>
     rw [hg] at h; injection h with _ h
     subst h; have := vgo_len s (k + 1) v' r' hg; simp only [List.length_cons]; omega
theorem vdec_len {m : Nat} {s : List Nat} {v : Nat} {r : List Nat} (h : vdec m s = .ok v r) : r.length < s.length ∧ v ≤ m := by
 unfold vdec at h; cases hg : vgo 0 s with
 | short => rw [hg] at h; cases h
 | form => rw [hg] at h; cases h
 | ok v' r' =>
  rw [hg] at h; simp only at h; split at h
  ·injection h with h1 h2
   subst h1 h2; exact ⟨vgo_len s 0 _ _ hg, by assumption⟩
  ·cases h
theorem var_sh (m : Nat) : Shrinks (tVar m)
 | .stop e => Nat.le_refl _
 | .at s => by
  show (tVar m (.at s)).2.left.length ≤ s.length
  cases hv : vdec m s with
  | ok v r => simp only [tVar, hv, Ds.left]; have := (vdec_len hv).1; omega
  | short => simp [tVar, hv, Ds.left]
  | form => simp [tVar, hv, Ds.left]
theorem var_eat (m : Nat) : Eats (tVar m)
 | .stop e, h => absurd rfl h
 | .at s, h => by
  show (tVar m (.at s)).2.left.length < s.length
  have h0 : s.length ≠ 0 := h; cases hv : vdec m s with
  | ok v r => simp only [tVar, hv, Ds.left]; exact (vdec_len hv).1
  | short => simp only [tVar, hv, Ds.left]; exact Nat.pos_of_ne_zero h0
  | form => simp only [tVar, hv, Ds.left]; exact Nat.pos_of_ne_zero h0
theorem var_le (m : Nat) (d : Ds) : (tVar m d).1 ≤ m := by
 cases d with
 | stop e => exact Nat.zero_le _
 | «at» s =>
  cases hv : vdec m s with
  | ok v r => simp only [tVar, hv]; exact (vdec_len hv).2
  | short => simp [tVar, hv]
  | form => simp [tVar, hv]
theorem raw_sh (m : Nat) : Shrinks (tRaw m)
 | .stop e => Nat.le_refl _
 | .at s => by
  show (tRaw m (.at s)).2.left.length ≤ s.length
  by_cases h : s.length < m
  ·simp [tRaw, h, Ds.left]
  ·simp [tRaw, h, Ds.left]
theorem text_sh (m : Nat) : Shrinks (tText m)
 | .stop e => Nat.le_refl _
 | .at s => by
  show (tText m (.at s)).2.left.length ≤ s.length
  cases hv : vdec m s with
  | ok v r =>
   simp only [tText, hv]; have h1 := raw_sh v (.at r); have h2 := (vdec_len hv).1; have h3 : (Ds.at r).left.length = r.length := rfl; omega
  | short => simp [tText, hv, Ds.left]
  | form => simp [tText, hv, Ds.left]
theorem text_eat (m : Nat) : Eats (tText m)
 | .stop e, h => absurd rfl h
 | .at s, h => by
  show (tText m (.at s)).2.left.length < s.length
  have h0 : s.length ≠ 0 := h; cases hv : vdec m s with
  | ok v r =>
   simp only [tText, hv]; have h1 := raw_sh v (.at r); have h2 := (vdec_len hv).1; have h3 : (Ds.at r).left.length = r.length := rfl; omega
  | short => simp only [tText, hv, Ds.left]; exact Nat.pos_of_ne_zero h0
  | form => simp only [tText, hv, Ds.left]; exact Nat.pos_of_ne_zero h0
theorem byte_sh : Shrinks tByte
 | .stop e => Nat.le_refl _
 | .at [] => Nat.le_refl _
 | .at (b :: s) => Nat.le_succ _
theorem flag_sh : Shrinks tFlag
 | .stop e => Nat.le_refl _
 | .at [] => Nat.le_refl _
 | .at (b :: s) => by
  show (tFlag (.at (b :: s))).2.left.length ≤ s.length + 1
  by_cases h0 : b = 0
  ·simp [tFlag, h0, Ds.left]
  ·by_cases h1 : b = 1
   ·simp [tFlag, h1, Ds.left]
   ·simp [tFlag, h0, h1, Ds.left]
theorem stamp_sh : Shrinks tStamp
 | .stop e => Nat.le_refl _
 | .at s => by
  show (tStamp (.at s)).2.left.length ≤ s.length
  by_cases h : s.length < 16
  ·simp [tStamp, h, Ds.left]
  ·simp [tStamp, h, Ds.left]
section
variable {α β : Type} {t : Ds → α × Ds} {u : Ds → β × Ds}
theorem p_sh (h : Shrinks t) (k : Shrinks u) : Shrinks (tP t u) := fun d => Nat.le_trans (k _) (h d)
theorem p_eat (h : Eats t) (k : Shrinks u) : Eats (tP t u) := fun d hd => Nat.lt_of_le_of_lt (k _) (h d hd)
theorem l_sh (h : Shrinks t) : Shrinks (tL t) := fun d => Nat.le_trans (tN_shrinks h _ _) (var_sh _ d)
end
theorem span_sh : Shrinks tSpan := p_sh (text_sh 33) (text_sh 33)
theorem span_eat : Eats tSpan := p_eat (text_eat 33) (text_sh 33)
theorem write_sh : Shrinks tWrite := p_sh (text_sh 32) (p_sh flag_sh (text_sh 64))
theorem write_eat : Eats tWrite := p_eat (text_eat 32) (p_sh flag_sh (text_sh 64))
theorem txn_sh : Shrinks tTxn := p_sh (var_sh _) (p_sh (var_sh _) (var_sh _))
theorem txn_eat : Eats tTxn := p_eat (var_eat _) (p_sh (var_sh _) (var_sh _))
theorem entry_sh : Shrinks tEntry := p_sh txn_sh (p_sh byte_sh stamp_sh)
theorem entry_eat : Eats tEntry := p_eat txn_eat (p_sh byte_sh stamp_sh)
theorem version_eat : Eats tVersion := p_eat (text_eat 32) (p_sh stamp_sh (p_sh flag_sh (text_sh 64)))
theorem held_sh : Shrinks tHeld := p_sh txn_sh (p_sh stamp_sh (p_sh (l_sh span_sh) (l_sh write_sh)))
theorem held_eat : Eats tHeld := p_eat txn_eat (p_sh stamp_sh (p_sh (l_sh span_sh) (l_sh write_sh)))
theorem u_sh (m : Nat) : Shrinks (tU m) := var_sh m
theorem tN_left {α : Type} {t : Ds → α × Ds} (h : Eats t) : ∀ (n : Nat) (d : Ds), (tN t n d).1.length + (tN t n d).2.left.length ≤ d.left.length
 | 0, d => by simp [tN]
 | n + 1, d => by
  rw [tN]; split
  ·simp
  ·rename_i hd; have h1 := tN_left h n (t d).2; have h2 := h d hd; simp only [List.length_cons]; omega
theorem tL_left {α : Type} {t : Ds → α × Ds} (h : Eats t) (d : Ds) : (tL t d).1.length ≤ d.left.length := by
 have h1 := tN_left h (tVar 18446744073709551615 d).1 (tVar 18446744073709551615 d).2; have h2 := var_sh 18446744073709551615 d; unfold tL; omega
end Ig
end Go.Proofs.YtofpaldolcnmiaaGreat
