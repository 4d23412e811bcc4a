import Derived.Test.YtmlacdfdpdkdaaaDoorBgWh
import Derived.Test.YtmlacdfdpdkdaaaDoorRvSmall
import Derived.Test.YtmlacdfdpdkdaaaDoorVAt
/- The scene of law 9: two stores, two of the document's, two books: blocks are told apart by colours. -/
namespace Go.Proofs.YtmlacdfdpdkdaaaDoor.Bg
open Go.RowKit Go.Sort Go.Proofs.YtmlacdfdpdkdaaaDoor Go.Proofs.YtmlacdfdpdkdaaaDoor.Vs
set_option linter.unusedVariables false

/-- a row of one's own is a row -/
theorem owns_rowF {α : Type} {E : El α} (hE : E.Ok) {w : World} {B : Nat} {v : Value} {xs : List α} (h : w.ownsRow B E.ty E.k v xs.length (E.flat xs)) : RowF E w B v xs := by
  obtain ⟨hl, ⟨rfl, e⟩ | ⟨g, cap, cur, rfl, hg, hb, hn, hc, hs, ht⟩⟩ := h
  · exact .inl ⟨rfl, List.eq_nil_of_length_eq_zero e⟩
  · refine .inr ⟨g, 0, cap, rfl, hg, ⟨⟨cur, hb⟩, hn, hc, fun j u hj => ?_, fun j hj => ?_⟩⟩
    · rw [Nat.zero_add]
      refine cell_obj hb ?_
      rw [← ht, List.getElem?_take] at hj
      by_cases h1 : j < xs.length * E.k
      · rw [if_pos h1] at hj; simpa using hj
      · rw [if_neg h1] at hj; cases hj
    · rw [Nat.zero_add]
      have h1 : j < cur.size := by rw [hs]; exact hj
      rw [cell_obj hb (Array.getElem?_eq_getElem h1)]; rfl
theorem flatP_is (xs : List (ByteArray × ByteArray)) : flatP xs = elP.flat xs := rfl
theorem flatK_is (xs : List Kv) : flatK xs = elV.flat xs := rfl
theorem OwnP.rowF {w : World} {B : Nat} {v : Value} {xs : Prs} (h : OwnP w B v xs) : RowF elP w B v xs := owns_rowF okP h
theorem OwnV.rowF {w : World} {B : Nat} {v : Value} {xs : List Kv} (h : OwnV w B v xs) : RowF elV w B v xs := owns_rowF okV h

abbrev TW : TypeId := 54
/-- a block of the index -/
def IxB (w : World) (k : Nat) : Prop := ∃ cs t z, w.heap[k]? = some (.cells cs t z) ∧ IxT t
theorem IxB.of {w w' : World} {k : Nat} (h : IxB w' k) (hb : w'.heap[k]? = w.heap[k]?) : IxB w k := by
  obtain ⟨cs, t, z, h1, h2⟩ := h
  exact ⟨cs, t, z, hb.symm.trans h1, h2⟩
theorem not_ixB {w : World} {k : Nat} {cs : Array Value} {t : TypeId} {z : Nat × Nat} (h : w.heap[k]? = some (.cells cs t z)) (ht : ¬ IxT t) : ¬ IxB w k := fun ⟨cs', t', z', h', ht'⟩ => by
  rw [h] at h'; cases h'; exact ht ht'
theorem owns_not {w : World} {B n k : Nat} {e : TypeId} {v : Value} {m : Nat} {xs : List Value} (h : w.ownsRow B e m v n xs) (he : ¬ IxT e) (hk : v.ownBlock = some k) : ¬ IxB w k := by
  obtain ⟨hl, ⟨rfl, e0⟩ | ⟨g, cap, cur, rfl, hg, hb, _⟩⟩ := h
  · cases hk
  · have e1 : g = k := by simpa [Value.ownBlock] using hk
    subst e1
    exact not_ixB hb he
section
variable {α : Type} {E : El α} {M : Nat → Nat → α} {T : TypeId}
theorem TyE.not {w : World} {g : Nat} (h : TyE E w g) (he : ¬ IxT E.ty) : ¬ IxB w g := by
  obtain ⟨cur, h⟩ := h
  exact not_ixB h he
theorem RdC.recol {w : World} {c c' : Nat → Nat} {q : Nat} {v : Value} {xs : List α} (h : RdC E w c q v xs) (he : ¬ IxT E.ty) (hc : ∀ k, ¬ IxB w k → c' k = c k) : RdC E w c' q v xs := by
  obtain ⟨a, k, e, h⟩ := h
  refine ⟨a, k, e, fun i t hi => ?_⟩
  obtain ⟨g, o, e1, e2, e3, e4⟩ := h i t hi
  exact ⟨g, o, e1, (hc g (e4.not he)).trans e2, e3, e4⟩
theorem Bk.recol {w : World} {B b oo d : Nat} {c c' : Nat → Nat} {s : Bv α} (h : Bk E M T w B b oo d c s) (he : ¬ IxT E.ty) (hs : ¬ IxT E.sl) (hT : ¬ IxT T) (hc : ∀ k, ¬ IxB w k → c' k = c k) : Bk E M T w B b oo d c' s := by
  have hob : ¬ IxB w b := by obtain ⟨cs, h1⟩ := h.obj; exact not_ixB h1 hT
  have ho : ∀ {v : Value} {vs : List Value} {q : Nat}, OwnL E w B v vs → (∀ g, v.ownBlock = some g → c g = q) → ∀ g, v.ownBlock = some g → c' g = q := fun hv hq g hg => (hc g (owns_not hv hs hg)).trans (hq g hg)
  exact ⟨h.d2, h.obj, h.c0, h.c1, h.c2, h.c3, h.low, (hc b hob).trans h.cb, h.rf, ho h.rf h.cf, h.rw_, ho h.rw_ h.cw, h.rk, ho h.rk h.ck, h.rl, ho h.rl h.cl, h.lz, h.lx, h.ly, h.lk, h.ll,
    fun i hi => ⟨(h.fr i hi).1, fun g hg => (hc g (((h.fr i hi).1.ty g hg).not he)).trans ((h.fr i hi).2 g hg)⟩, fun i hi => (h.wa i hi).recol he hc, fun n hn => (h.kp n hn).recol he hc, fun n hn => (h.lo n hn).recol he hc⟩
theorem Bq.recol {W w : World} {b oo d m : Nat} {c c' : Nat → Nat} {s : Bv α} (h : Bq E M T W w b oo d c s m) (he : ¬ IxT E.ty) (hs : ¬ IxT E.sl) (hT : ¬ IxT T) (hc : ∀ k, ¬ IxB w k → c' k = c k) : Bq E M T W w b oo d c' s m :=
  ⟨h.bk.recol he hs hT hc, h.L, h.XY, h.x, h.M, h.le⟩
/-- a book stays while others are written -/
theorem Bq.onl {W w w' : World} {b oo d m : Nat} {c c' : Nat → Nat} {s : Bv α} {S : Nat → Prop} (h : Bq E M T W w b oo d c s m) (ho : Onl (fun k => S (c k)) w w') (hS : ∀ q, q ≠ 16 → (8 ≤ q ∧ q < 20 ∨ 40 ≤ q) → q % 2 = d → ¬ S q) (hob : Obj4 T w' b)
    (hcs : ∀ o, oo ≤ o → o < oo + 4 → w'.cell? ⟨b, o, none⟩ = w.cell? ⟨b, o, none⟩) (hc : ∀ k, k < w.heap.size → c k = 16 ∨ (8 ≤ c k ∧ c k < 20 ∨ 40 ≤ c k) ∧ c k % 2 = d → c' k = c k) : Bq E M T W w' b oo d c' s m :=
  ⟨h.bk.onl ho hS hob hcs hc, h.L, h.XY, h.x, h.M, h.le⟩
theorem Bq.mono {W w : World} {b oo d m n : Nat} {c : Nat → Nat} {s : Bv α} (h : Bq E M T W w b oo d c s m) (hn : m ≤ n) : Bq E M T W w b oo d c s n := ⟨h.bk, h.L, h.XY, h.x, h.M, Nat.le_trans h.le hn⟩
end
theorem ixP : ¬ IxT elP.ty := fun h => by rcases h with h | h | h <;> exact absurd h (by decide)
theorem ixPs : ¬ IxT elP.sl := fun h => by rcases h with h | h | h <;> exact absurd h (by decide)
theorem ixV : ¬ IxT elV.ty := fun h => by rcases h with h | h | h <;> exact absurd h (by decide)
theorem ixVs : ¬ IxT elV.sl := fun h => by rcases h with h | h | h <;> exact absurd h (by decide)
theorem ixW : ¬ IxT TW := fun h => by rcases h with h | h | h <;> exact absurd h (by decide)
theorem ixR : ¬ IxT 83 := fun h => by rcases h with h | h | h <;> exact absurd h (by decide)
theorem Sto.not_ix {F : Nat → Prop} {w : World} {p : Nat} {M : Mst} {mk : Sp} (h : Sto F w p M mk) {k : Nat} (hk : F k) : ¬ IxB w k := by
  obtain ⟨m, h, _⟩ := h
  obtain ⟨cs, u, z, hb, hu⟩ := h.own k hk
  exact not_ixB hb (spT_ixT h.ty hu)
theorem Rs.not_ix {w : World} {B r : Nat} {v : Value} {L : List Kv} {mk : Sp} (h : Rs w B r v L mk) {k : Nat} (hk : RsB r v k) : ¬ IxB w k := by
  rcases hk with rfl | hk
  · exact not_ixB h.blk ixR
  · exact owns_not h.row ixV hk
theorem Sto.keepK {F : Nat → Prop} {w w' : World} {p : Nat} {M : Mst} {mk : Sp} (h : Sto F w p M mk) (k : Vs.Kp w w') (hb : ∀ b, F b → w'.heap[b]? = w.heap[b]?) : Sto F w' p M mk := by
  obtain ⟨m, h, e⟩ := h
  exact ⟨m, h.keep k hb, e⟩

def upd {α : Type} (f : Nat → α) (j : Nat) (x : α) : Nat → α := fun i => if i = j then x else f i
theorem upd_same {α : Type} (f : Nat → α) (j : Nat) (x : α) : upd f j x j = x := by simp [upd]
theorem upd_other {α : Type} (f : Nat → α) {i j : Nat} (x : α) (h : i ≠ j) : upd f j x i = f i := by simp [upd, h]
theorem upd_self {α : Type} (f : Nat → α) (j : Nat) : upd f j (f j) = f := by
  funext i
  unfold upd
  by_cases e : i = j
  · rw [if_pos e, e]
  · rw [if_neg e]
/-- the scene in plain words -/
structure Sv where
  p : Nat → Nat
  r : Nat → Nat
  F : Nat → Nat → Prop
  v : Nat → Value
  M : Nat → Mst
  N : Nat → Mst
  kp : Nat → Sp
  kr : Nat → Sp
  s : Bv (ByteArray × ByteArray)
  z : Bv Kv
structure St (W w : World) (c : Nat → Nat) (b : Nat) (x : Sv) (m : Nat) : Prop where
  st : ∀ j, j < 2 → Sto (x.F j) w (x.p j) (x.M j) (x.kp j)
  cf : ∀ j, j < 2 → ∀ k, x.F j k → c k = j ∧ W.heap.size ≤ k
  rs : ∀ j, j < 2 → Rs w W.heap.size (x.r j) (x.v j) (dumpM (x.N j)) (x.kr j)
  cr : ∀ j, j < 2 → ∀ k, RsB (x.r j) (x.v j) k → c k = 2 + j
  rl : ∀ j, j < 2 → W.heap.size ≤ x.r j
  cp : ∀ j, j < 2 → w.cell? ⟨b, j, none⟩ = some (pt (x.p j))
  cq : ∀ j, j < 2 → w.cell? ⟨b, 2 + j, none⟩ = some (pt (x.r j))
  bp : Bq elP markQ TW W w b 4 0 c x.s m
  bv : Bq elV markV TW W w b 8 1 c x.z m
  ix : ∀ k, IxB w k → c k = 7
  bl : Below W.heap.size W w
section
variable {W w w' : World} {c : Nat → Nat} {b m : Nat} {x : Sv}
theorem St.lt (h : St W w c b x m) : b < w.heap.size := h.bp.bk.lt
theorem St.cb (h : St W w c b x m) : c b = 16 := h.bp.bk.cb
theorem St.obj (h : St W w c b x m) : Obj4 TW w b := h.bp.bk.obj
theorem St.kp {S : Nat → Prop} (h : St W w c b x m) (ho : Onl (fun k => S (c k)) w w') (hS : ¬ S 7) : Vs.Kp w w' :=
  Kp.of_onl ho fun k cs t z hk hb ht => hS (by rw [← h.ix k ⟨cs, t, z, hb, ht⟩]; exact hk)
/-- any colours that are right where it counts are mended -/
theorem norm (c2 : Nat → Nat) (w : World) : ∃ c' : Nat → Nat, (∀ k, IxB w k → c' k = 7) ∧ ∀ k, ¬ IxB w k → c' k = c2 k := by
  refine ⟨fun k => haveI := Classical.propDecidable (IxB w k); if IxB w k then 7 else c2 k, fun k hk => ?_, fun k hk => ?_⟩
  · simp [hk]
  · simp [hk]
/-- what is new gets any colours -/
theorem St.later (h : St W w c b x m) (hb : Below w.heap.size w w') (c2 : Nat → Nat) : ∃ c', St W w' c' b x m ∧ (∀ k, k < w.heap.size → c' k = c k) ∧ ∀ k, w.heap.size ≤ k → ¬ IxB w' k → c' k = c2 k := by
  obtain ⟨c', h7, hc'⟩ := norm (fun k => if k < w.heap.size then c k else c2 k) w'
  have hold : ∀ k, k < w.heap.size → c' k = c k := fun k hk => by
    haveI := Classical.propDecidable (IxB w' k)
    by_cases hx : IxB w' k
    · rw [h7 k hx]; exact (h.ix k (hx.of (hb.block k hk))).symm
    · rw [hc' k hx]; simp [hk]
  have ho : Onl (fun k => (fun _ => False) (c k)) w w' := Onl.of_below hb
  refine ⟨c', ⟨fun j hj => (h.st j hj).later hb, fun j hj k hk => ⟨by rw [hold k ((h.st j hj).lt hk)]; exact (h.cf j hj k hk).1, (h.cf j hj k hk).2⟩, fun j hj => (h.rs j hj).later hb, fun j hj k hk => by rw [hold k ((h.rs j hj).its_lt hk)]; exact h.cr j hj k hk, h.rl, fun j hj => cell_later hb (h.cp j hj), fun j hj => cell_later hb (h.cq j hj), ?_, ?_, h7, Below.on h.bl hb⟩, hold, fun k hk hn => by rw [hc' k hn, if_neg (by omega)]⟩
  · exact h.bp.onl (S := fun _ => False) ho (fun _ _ _ _ h => h) (h.obj.keep (hb.block b h.lt)) (fun o _ _ => World.cell?_of_block (a := ⟨b, o, none⟩) (hb.block b h.lt)) (fun k hk _ => hold k hk)
  · exact h.bv.onl (S := fun _ => False) ho (fun _ _ _ _ h => h) (h.obj.keep (hb.block b h.lt)) (fun o _ _ => World.cell?_of_block (a := ⟨b, o, none⟩) (hb.block b h.lt)) (fun k hk _ => hold k hk)
/-- blocks aside are written -/
theorem St.aside (h : St W w c b x m) (ho : Onl (fun k => 20 ≤ c k ∧ c k < 40) w w') (hl : Below W.heap.size w w') : ∃ c', St W w' c' b x m ∧ ∀ k, k < w.heap.size → ¬ IxB w' k → c' k = c k := by
  obtain ⟨c', h7, hc'⟩ := norm c w'
  have hk := h.kp (S := fun q => 20 ≤ q ∧ q < 40) ho (by omega)
  have hbl : ∀ k, k < w.heap.size → ¬ (20 ≤ c k ∧ c k < 40) → w'.heap[k]? = w.heap[k]? := fun k h1 h2 => ho.block k h1 h2
  have hold : ∀ k, k < w.heap.size → ¬ (20 ≤ c k ∧ c k < 40) → c' k = c k := fun k h1 h2 => by
    haveI := Classical.propDecidable (IxB w' k)
    by_cases hx : IxB w' k
    · rw [h7 k hx]; exact (h.ix k (hx.of (hbl k h1 h2))).symm
    · exact hc' k hx
  have hbb := hbl b h.lt (by rw [h.cb]; omega)
  refine ⟨c', ⟨fun j hj => Sto.keepK (h.st j hj) hk fun k hf => hbl k ((h.st j hj).lt hf) (by rw [(h.cf j hj k hf).1]; omega), fun j hj k hf => ⟨by rw [hold k ((h.st j hj).lt hf) (by rw [(h.cf j hj k hf).1]; omega)]; exact (h.cf j hj k hf).1, (h.cf j hj k hf).2⟩, fun j hj => (h.rs j hj).onl ho fun k hf => by rw [h.cr j hj k hf]; omega, fun j hj k hf => by rw [hold k ((h.rs j hj).its_lt hf) (by rw [h.cr j hj k hf]; omega)]; exact h.cr j hj k hf, h.rl, fun j hj => ho.cell (by rw [h.cb]; omega) (h.cp j hj), fun j hj => ho.cell (by rw [h.cb]; omega) (h.cq j hj), ?_, ?_, h7, h.bl.trans hl⟩, fun k _ hn => hc' k hn⟩
  · exact h.bp.onl (S := fun q => 20 ≤ q ∧ q < 40) ho (fun q _ _ _ => by omega) (h.obj.keep hbb) (fun o _ _ => World.cell?_of_block (a := ⟨b, o, none⟩) hbb) (fun k hk e => hold k hk (by omega))
  · exact h.bv.onl (S := fun q => 20 ≤ q ∧ q < 40) ho (fun q _ _ _ => by omega) (h.obj.keep hbb) (fun o _ _ => World.cell?_of_block (a := ⟨b, o, none⟩) hbb) (fun k hk e => hold k hk (by omega))
/-- a store of the program's changes -/
theorem St.pfy (h : St W w c b x m) {j : Nat} (hj : j < 2) {F' : Nat → Prop} {M' : Mst} {mk' : Sp} (hs : Sto F' w' (x.p j) M' mk') (hF : ∀ k, F' k → x.F j k ∨ w.heap.size ≤ k) (ho : Onl (x.F j) w w') :
    ∃ c', St W w' c' b { x with F := upd x.F j F', M := upd x.M j M', kp := upd x.kp j mk' } m ∧ ∀ k, k < w.heap.size → ¬ x.F j k → c' k = c k := by
  obtain ⟨c', h7, hc'⟩ := norm (fun k => if k < w.heap.size then c k else j) w'
  have ho2 : Onl (fun k => (fun q => q = j) (c k)) w w' := ho.mono fun k hk => (h.cf j hj k hk).1
  have hk := h.kp (S := fun q => q = j) ho2 (show ¬ 7 = j by omega)
  have hbl : ∀ k, k < w.heap.size → ¬ x.F j k → w'.heap[k]? = w.heap[k]? := fun k h1 h2 => ho.block k h1 h2
  have hold : ∀ k, k < w.heap.size → ¬ x.F j k → c' k = c k := fun k h1 h2 => by
    haveI := Classical.propDecidable (IxB w' k)
    by_cases hx : IxB w' k
    · rw [h7 k hx]; exact (h.ix k (hx.of (hbl k h1 h2))).symm
    · rw [hc' k hx]; simp [h1]
  have hn : ∀ {k : Nat}, c k ≠ j → ¬ x.F j k := fun h1 h2 => h1 (h.cf j hj _ h2).1
  have hbb := hbl b h.lt (hn (by rw [h.cb]; omega))
  have hlow : Below W.heap.size w w' := ho.below (fun k hk => (h.cf j hj k hk).2) h.bl.size
  refine ⟨c', ⟨fun i hi => ?_, fun i hi k hk2 => ?_, fun i hi => (h.rs i hi).onl ho fun k hf => hn (by rw [h.cr i hi k hf]; omega), fun i hi k hf => by rw [hold k ((h.rs i hi).its_lt hf) (hn (by rw [h.cr i hi k hf]; omega))]; exact h.cr i hi k hf, h.rl, fun i hi => ho.cell (hn (by rw [h.cb]; omega)) (h.cp i hi), fun i hi => ho.cell (hn (by rw [h.cb]; omega)) (h.cq i hi), ?_, ?_, h7, h.bl.trans hlow⟩, hold⟩
  · show Sto (upd x.F j F' i) w' (x.p i) (upd x.M j M' i) (upd x.kp j mk' i)
    by_cases e : i = j
    · subst e; rw [upd_same, upd_same, upd_same]; exact hs
    · rw [upd_other _ _ e, upd_other _ _ e, upd_other _ _ e]
      exact Sto.keepK (h.st i hi) hk fun k hf => hbl k ((h.st i hi).lt hf) (hn (by rw [(h.cf i hi k hf).1]; exact e))
  · replace hk2 : upd x.F j F' i k := hk2
    by_cases e : i = j
    · subst e
      rw [upd_same] at hk2
      have hx := Sto.not_ix hs hk2
      rw [hc' k hx]
      by_cases hlt : k < w.heap.size
      · rw [if_pos hlt]
        rcases hF k hk2 with h1 | h1
        · exact h.cf i hi k h1
        · omega
      · rw [if_neg hlt]; exact ⟨rfl, Nat.le_trans h.bl.size (by omega)⟩
    · rw [upd_other _ _ e] at hk2
      rw [hold k ((h.st i hi).lt hk2) (hn (by rw [(h.cf i hi k hk2).1]; exact e))]
      exact h.cf i hi k hk2
  · exact h.bp.onl (S := fun q => q = j) ho2 (fun q _ _ _ => by omega) (h.obj.keep hbb) (fun o _ _ => World.cell?_of_block (a := ⟨b, o, none⟩) hbb) (fun k hk e => hold k hk (hn (by omega)))
  · exact h.bv.onl (S := fun q => q = j) ho2 (fun q _ _ _ => by omega) (h.obj.keep hbb) (fun o _ _ => World.cell?_of_block (a := ⟨b, o, none⟩) hbb) (fun k hk e => hold k hk (hn (by omega)))
/-- one of the document's changes -/
theorem St.rfy (h : St W w c b x m) {j : Nat} (hj : j < 2) {v' : Value} {N' : Mst} {nk' : Sp} (hs : Rs w' W.heap.size (x.r j) v' (dumpM N') nk') (hF : ∀ k, RsB (x.r j) v' k → RsB (x.r j) (x.v j) k ∨ w.heap.size ≤ k) (ho : Onl (fun k => k = x.r j) w w') :
    ∃ c', St W w' c' b { x with v := upd x.v j v', N := upd x.N j N', kr := upd x.kr j nk' } m ∧ ∀ k, k < w.heap.size → k ≠ x.r j → c' k = c k := by
  obtain ⟨c', h7, hc'⟩ := norm (fun k => if k < w.heap.size then c k else 2 + j) w'
  have hrj := h.cr j hj _ (.inl rfl)
  have ho2 : Onl (fun k => (fun q => q = 2 + j) (c k)) w w' := ho.mono fun k hk => by subst hk; exact hrj
  have hk := h.kp (S := fun q => q = 2 + j) ho2 (show ¬ 7 = 2 + j by omega)
  have hbl : ∀ k, k < w.heap.size → k ≠ x.r j → w'.heap[k]? = w.heap[k]? := fun k h1 h2 => ho.block k h1 h2
  have hold : ∀ k, k < w.heap.size → k ≠ x.r j → c' k = c k := fun k h1 h2 => by
    haveI := Classical.propDecidable (IxB w' k)
    by_cases hx : IxB w' k
    · rw [h7 k hx]; exact (h.ix k (hx.of (hbl k h1 h2))).symm
    · rw [hc' k hx]; simp [h1]
  have hn : ∀ {k : Nat}, c k ≠ 2 + j → k ≠ x.r j := fun h1 h2 => h1 (by rw [h2]; exact hrj)
  have hbb := hbl b h.lt (hn (by rw [h.cb]; omega))
  have hlow : Below W.heap.size w w' := ho.below (fun k hk => by subst hk; exact h.rl j hj) h.bl.size
  refine ⟨c', ⟨fun i hi => Sto.keepK (h.st i hi) hk fun k hf => hbl k ((h.st i hi).lt hf) (hn (by rw [(h.cf i hi k hf).1]; omega)), fun i hi k hf => ⟨by rw [hold k ((h.st i hi).lt hf) (hn (by rw [(h.cf i hi k hf).1]; omega))]; exact (h.cf i hi k hf).1, (h.cf i hi k hf).2⟩, fun i hi => ?_, fun i hi k hk2 => ?_, h.rl, fun i hi => ho.cell (hn (by rw [h.cb]; omega)) (h.cp i hi), fun i hi => ho.cell (hn (by rw [h.cb]; omega)) (h.cq i hi), ?_, ?_, h7, h.bl.trans hlow⟩, hold⟩
  · show Rs w' W.heap.size (x.r i) (upd x.v j v' i) (dumpM (upd x.N j N' i)) (upd x.kr j nk' i)
    by_cases e : i = j
    · subst e; rw [upd_same, upd_same, upd_same]; exact hs
    · rw [upd_other _ _ e, upd_other _ _ e, upd_other _ _ e]
      exact (h.rs i hi).onl ho fun k hf => hn (by rw [h.cr i hi k hf]; omega)
  · replace hk2 : RsB (x.r i) (upd x.v j v' i) k := hk2
    by_cases e : i = j
    · subst e
      rw [upd_same] at hk2
      have hx := Rs.not_ix hs hk2
      rw [hc' k hx]
      by_cases hlt : k < w.heap.size
      · rw [if_pos hlt]
        rcases hF k hk2 with h1 | h1
        · exact h.cr i hi k h1
        · omega
      · rw [if_neg hlt]
    · rw [upd_other _ _ e] at hk2
      rw [hold k ((h.rs i hi).its_lt hk2) (hn (by rw [h.cr i hi k hk2]; omega))]
      exact h.cr i hi k hk2
  · exact h.bp.onl (S := fun q => q = 2 + j) ho2 (fun q _ _ _ => by omega) (h.obj.keep hbb) (fun o _ _ => World.cell?_of_block (a := ⟨b, o, none⟩) hbb) (fun k hk e => hold k hk (hn (by omega)))
  · exact h.bv.onl (S := fun q => q = 2 + j) ho2 (fun q _ _ _ => by omega) (h.obj.keep hbb) (fun o _ _ => World.cell?_of_block (a := ⟨b, o, none⟩) hbb) (fun k hk e => hold k hk (hn (by omega)))
end
end Go.Proofs.YtmlacdfdpdkdaaaDoor.Bg
