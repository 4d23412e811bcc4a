import Derived.Test.YtmlacdfdpdkdaaaDoorBgKinds
import Derived.Deep.RegionLaw
import Derived.Lib.AppendZeros
import Derived.Test.YtmlacdfdpdkdaaaDoorMxSt
import Derived.Test.YtmlacdfdpdkdaaaDoorBgWholMP
import Derived.Test.YtmlacdfdpdkdaaaDoorBgWholMV
/- keep. -/
namespace Go.Proofs.YtmlacdfdpdkdaaaDoor.Bg
open Go.RowKit Go.Sort Go.Proofs.YtmlacdfdpdkdaaaDoor Go.Proofs.YtmlacdfdpdkdaaaDoor.Vs
set_option linter.unusedVariables false

set_option maxRecDepth 8000 in
set_option maxHeartbeats 4000000 in
theorem keepP_is {M : Nat → Nat → ByteArray × ByteArray} {T : TypeId} {w : World} {B b oo d q : Nat} {c : Nat → Nat} {s : Bv (ByteArray × ByteArray)} {z : Value} {xs : List (ByteArray × ByteArray)} (h : Bk elP M T w B b oo d c s) (hz : RwC elP w B c q z xs) (hq : 20 ≤ q ∧ q < 40) (hB : B ≤ w.heap.size) (hl : xs.length * 64 ≤ 140737488355328) (hF : (s.F.length + 1) * 64 ≤ 140737488355328) :
    Calls Tryd.prog 22 #[.pointer (some ⟨b, oo, none⟩), z] w fun e w' => e = .returned (.tuple #[]) ∧ Hid (∃ c' s', Kp elP M T w w' B b oo d c c' s s' q xs) := by
  obtain ⟨a1, n1, c1, w1, a2, n2, c2, w3, a3, n3, c3, w5, r1, y1, y2, y3, r2, y4, r3, y5, y6, HK⟩ := keep_plain okP okP2 h hz hq hB hl hF
  have x0 : w.cell? ⟨b, oo, none⟩ = some s.vf := h.c0
  obtain ⟨af, kf, hvf⟩ := owns_slice h.rf
  obtain ⟨aw, kw, hvw⟩ := owns_slice h.rw_
  obtain ⟨az, kz, hzv, _, _⟩ := hz.1.slice
  rw [hvf] at r1 x0 y1
  rw [hvw] at r3 y2 y4 y5
  rw [hzv] at r1 r2 ⊢
  dsimp only [elP] at r1 r2 r3
  have R1 := hid r1
  have R2 := hid r2
  have R3 := hid r3
  generalize s.F.length = fl at R1 x0 y1
  generalize s.Z.length = zl at R3 y2 y4 y5
  generalize xs.length = xl at R1 R2
  have y2' : (w1.setCell ⟨b, oo, none⟩ (.slice a1 n1 c1)).cell? ⟨b, oo + 1, none⟩ = some (.slice aw zl kw) := by
    rw [World.cell?_setCell_other _ _ _ _ (by simp)]; exact y2
  have y4a : (w3.alloc (.cells #[.slice a2 n2 c2] 34)).cell? ⟨b, oo + 1, none⟩ = some (.slice aw zl kw) := cell_later (Below.al (Below.refl _ _) _) y4
  clear h hz hq hB hl hF hvf hvw hzv r1 r2 r3
  go_enter Tryd.func22, Tryd.ntmps22
  go_wp2_with (at_builtin; refine Lib.wpList_append_run _ rfl _ _ _ _ rfl _ _ rfl rfl _ _ R1.out ?_)
  go_region_law (first | refine step_append_runB rfl (.const (.slice none 0 0)) (.tmp 19) 34 34 rfl (.slice none 0 0) (.slice az xl kz) (by simp [Act.eval]) (by simp [Act.eval, Act.put]) R2.out ?_ | refine step_append_runB rfl (.tmp 18) (.tmp 21) 45 45 rfl (.slice aw zl kw) (.slice (some ⟨w3.heap.size, 0, none⟩) 1 1) (by simp [Act.eval]) (by simp [Act.eval]) R3.out ?_)
  all_goals (try go_wp2_with fail)
  all_goals go_end0
  all_goals exact ⟨rfl, HK.out⟩
end Go.Proofs.YtmlacdfdpdkdaaaDoor.Bg
/- keep. -/
namespace Go.Proofs.YtmlacdfdpdkdaaaDoor.Bg
open Go.RowKit Go.Sort Go.Proofs.YtmlacdfdpdkdaaaDoor Go.Proofs.YtmlacdfdpdkdaaaDoor.Vs
set_option linter.unusedVariables false

set_option maxRecDepth 8000 in
set_option maxHeartbeats 4000000 in
theorem keepV_is {M : Nat → Nat → Kv} {T : TypeId} {w : World} {B b oo d q : Nat} {c : Nat → Nat} {s : Bv (Kv)} {z : Value} {xs : List (Kv)} (h : Bk elV M T w B b oo d c s) (hz : RwC elV w B c q z xs) (hq : 20 ≤ q ∧ q < 40) (hB : B ≤ w.heap.size) (hl : xs.length * 64 ≤ 140737488355328) (hF : (s.F.length + 1) * 64 ≤ 140737488355328) :
    Calls Tryd.prog 32 #[.pointer (some ⟨b, oo, none⟩), z] w fun e w' => e = .returned (.tuple #[]) ∧ Hid (∃ c' s', Kp elV M T w w' B b oo d c c' s s' q xs) := by
  obtain ⟨a1, n1, c1, w1, a2, n2, c2, w3, a3, n3, c3, w5, r1, y1, y2, y3, r2, y4, r3, y5, y6, HK⟩ := keep_plain okV okV2 h hz hq hB hl hF
  have x0 : w.cell? ⟨b, oo, none⟩ = some s.vf := h.c0
  obtain ⟨af, kf, hvf⟩ := owns_slice h.rf
  obtain ⟨aw, kw, hvw⟩ := owns_slice h.rw_
  obtain ⟨az, kz, hzv, _, _⟩ := hz.1.slice
  rw [hvf] at r1 x0 y1
  rw [hvw] at r3 y2 y4 y5
  rw [hzv] at r1 r2 ⊢
  dsimp only [elV] at r1 r2 r3
  have R1 := hid r1
  have R2 := hid r2
  have R3 := hid r3
  generalize s.F.length = fl at R1 x0 y1
  generalize s.Z.length = zl at R3 y2 y4 y5
  generalize xs.length = xl at R1 R2
  have y2' : (w1.setCell ⟨b, oo, none⟩ (.slice a1 n1 c1)).cell? ⟨b, oo + 1, none⟩ = some (.slice aw zl kw) := by
    rw [World.cell?_setCell_other _ _ _ _ (by simp)]; exact y2
  have y4a : (w3.alloc (.cells #[.slice a2 n2 c2] 56)).cell? ⟨b, oo + 1, none⟩ = some (.slice aw zl kw) := cell_later (Below.al (Below.refl _ _) _) y4
  clear h hz hq hB hl hF hvf hvw hzv r1 r2 r3
  go_enter Tryd.func32, Tryd.ntmps32
  go_wp2_with (at_builtin; refine Lib.wpList_append_run _ rfl _ _ _ _ rfl _ _ rfl rfl _ _ R1.out ?_)
  go_region_law (first | refine step_append_runB rfl (.const (.slice none 0 0)) (.tmp 19) 56 56 rfl (.slice none 0 0) (.slice az xl kz) (by simp [Act.eval]) (by simp [Act.eval, Act.put]) R2.out ?_ | refine step_append_runB rfl (.tmp 18) (.tmp 21) 48 48 rfl (.slice aw zl kw) (.slice (some ⟨w3.heap.size, 0, none⟩) 1 1) (by simp [Act.eval]) (by simp [Act.eval]) R3.out ?_)
  all_goals (try go_wp2_with fail)
  all_goals go_end0
  all_goals exact ⟨rfl, HK.out⟩
end Go.Proofs.YtmlacdfdpdkdaaaDoor.Bg
/- The scene behind the calls of the books, and behind a store into it. -/
namespace Go.Proofs.YtmlacdfdpdkdaaaDoor.Bg
open Go.RowKit Go.Sort Go.Proofs.YtmlacdfdpdkdaaaDoor Go.Proofs.YtmlacdfdpdkdaaaDoor.Vs
set_option linter.unusedVariables false

section
variable {α : Type} {E : El α} {M : Nat → Nat → α} {T : TypeId}
theorem Bq.push {W w w' : World} {b oo d m q : Nat} {c c' : Nat → Nat} {s s' : Bv α} {xs : List α} (h : Bq E M T W w b oo d c s m) (k : Kp E M T w w' W.heap.size b oo d c c' s s' q xs) (hx : xs.length ≤ 1073741824) : Bq E M T W w' b oo d c' s' (m + 1) := by
  refine ⟨k.bk, by rw [k.L, k.N]; exact h.L, fun i hi => ?_, fun i hi => ?_, by rw [k.N]; exact h.M, by rw [k.N, k.F]; have := h.le; omega⟩
  · rw [k.F] at hi
    rw [k.X, k.Y, nthX_app, nthX_app, h.bk.lx, h.bk.ly]
    by_cases hlt : i < s.F.length
    · rw [if_pos hlt, if_pos hlt]; exact h.XY i hlt
    · rw [if_neg hlt, if_neg hlt]
  · rw [k.F] at hi
    rw [k.X, nthX_app, h.bk.lx]
    by_cases hlt : i < s.F.length
    · rw [if_pos hlt]; exact h.x i hlt
    · rw [if_neg hlt, if_pos (by omega)]; exact hx
end
section
variable {W w w' : World} {c : Nat → Nat} {b m : Nat} {x : Sv}
theorem St.mono (h : St W w c b x m) {n : Nat} (hn : m ≤ n) : St W w c b x n := ⟨h.st, h.cf, h.rs, h.cr, h.rl, h.cp, h.cq, h.bp.mono hn, h.bv.mono hn, h.ix, h.bl⟩
/-- a book was worked on -/
theorem St.book (h : St W w c b x m) {c' : Nat → Nat} {S C : Nat → Prop} {s' : Bv (ByteArray × ByteArray)} {z' : Bv Kv} {n : Nat} (ho : Onl (fun k => S (c k)) w w') (hS : ∀ q, q < 8 → ¬ S q) (hC : ∀ q, q < 8 → ¬ C q) (hc : ∀ k, k < w.heap.size → ¬ C (c k) → c' k = c k) (hoc : ∀ o, o < 4 → w'.cell? ⟨b, o, none⟩ = w.cell? ⟨b, o, none⟩) (hbl : Below W.heap.size w w')
    (hp : Bq elP markQ TW W w' b 4 0 c' s' n) (hv : Bq elV markV TW W w' b 8 1 c' z' n) : ∃ c2, St W w' c2 b { x with s := s', z := z' } n ∧ ∀ k, ¬ IxB w' k → c2 k = c' k := by
  obtain ⟨c2, h7, hc2⟩ := norm c' w'
  have hk := h.kp ho (hS 7 (by omega))
  have hb : ∀ k, k < w.heap.size → c k < 8 → w'.heap[k]? = w.heap[k]? := fun k h1 h2 => ho.block k h1 (hS _ h2)
  have hold : ∀ k, k < w.heap.size → c k < 8 → ¬ IxB w k → c2 k = c k := fun k h1 h2 h3 => by
    rw [hc2 k (fun hx => h3 (hx.of (hb k h1 h2)))]; exact hc k h1 (hC _ h2)
  refine ⟨c2, ⟨fun j hj => Sto.keepK (h.st j hj) hk fun k hf => hb k ((h.st j hj).lt hf) (by rw [(h.cf j hj k hf).1]; omega), fun j hj k hf => ⟨by rw [hold k ((h.st j hj).lt hf) (by rw [(h.cf j hj k hf).1]; omega) (Sto.not_ix (h.st j hj) hf)]; exact (h.cf j hj k hf).1, (h.cf j hj k hf).2⟩, fun j hj => (h.rs j hj).onl ho fun k hf => hS _ (by rw [h.cr j hj k hf]; omega), fun j hj k hf => by rw [hold k ((h.rs j hj).its_lt hf) (by rw [h.cr j hj k hf]; omega) (Rs.not_ix (h.rs j hj) hf)]; exact h.cr j hj k hf, h.rl, fun j hj => (hoc j (by omega)).trans (h.cp j hj), fun j hj => (hoc (2 + j) (by omega)).trans (h.cq j hj), hp.recol ixP ixPs ixW hc2, hv.recol ixV ixVs ixW hc2, h7, h.bl.trans hbl⟩, hc2⟩
theorem St.wdP (h : St W w c b x m) {c' : Nat → Nat} {s' : Bv (ByteArray × ByteArray)} (k : Wd elP markQ TW W w w' b 4 0 c c' x.s s' m) : ∃ c2, St W w' c2 b { x with s := s', z := x.z } m := by
  have h2 : Bq elV markV TW W w' b 8 1 c' x.z m := h.bv.onl (S := fun q => Mn 0 q) k.onl (fun q h1 h2 h3 h4 => by unfold Mn at h4; omega) k.bq.bk.obj (fun o h1 h2 => k.oc o (by omega)) (fun i hi hc => k.col i hi (by omega))
  obtain ⟨c2, h3, _⟩ := h.book (S := fun q => Mn 0 q) (C := fun q => 40 ≤ q ∧ q % 2 = 0) k.onl (fun q hq h => by unfold Mn at h; omega) (fun q hq => by omega) k.col (fun o ho => k.oc o (by omega)) k.bl k.bq h2
  exact ⟨c2, h3⟩
theorem St.keptP (h : St W w c b x m) {c' : Nat → Nat} {s' : Bv (ByteArray × ByteArray)} {q : Nat} {xs : List (ByteArray × ByteArray)} (k : Kp elP markQ TW w w' W.heap.size b 4 0 c c' x.s s' q xs) (hq : 20 ≤ q ∧ q < 40) (hx : xs.length ≤ 1073741824) : ∃ c2, St W w' c2 b { x with s := s', z := x.z } (m + 1) ∧ ∀ i, i < w.heap.size → c i ≠ q → ¬ IxB w' i → c2 i = c i := by
  have h2 : Bq elV markV TW W w' b 8 1 c' x.z (m + 1) := (h.bv.onl (S := fun q => q = 8 + 0 ∨ q = 10 + 0 ∨ q = 16) k.onl (fun q h1 h2 h3 h4 => by omega) k.bk.obj (fun o h1 h2 => k.oc o (by omega)) (fun i hi hc => k.col i hi (by omega))).mono (Nat.le_succ _)
  obtain ⟨c2, h3, h4⟩ := h.book (S := fun q => q = 8 + 0 ∨ q = 10 + 0 ∨ q = 16) (C := fun p => p = q) k.onl (fun q hq h => by omega) (fun p hp => by omega) k.col (fun o ho => k.oc o (by omega)) k.bl (h.bp.push k hx) h2
  exact ⟨c2, h3, fun i hi h5 h6 => (h4 i h6).trans (k.col i hi h5)⟩
theorem St.wdV (h : St W w c b x m) {c' : Nat → Nat} {s' : Bv (Kv)} (k : Wd elV markV TW W w w' b 8 1 c c' x.z s' m) : ∃ c2, St W w' c2 b { x with s := x.s, z := s' } m := by
  have h2 : Bq elP markQ TW W w' b 4 0 c' x.s m := h.bp.onl (S := fun q => Mn 1 q) k.onl (fun q h1 h2 h3 h4 => by unfold Mn at h4; omega) k.bq.bk.obj (fun o h1 h2 => k.oc o (by omega)) (fun i hi hc => k.col i hi (by omega))
  obtain ⟨c2, h3, _⟩ := h.book (S := fun q => Mn 1 q) (C := fun q => 40 ≤ q ∧ q % 2 = 1) k.onl (fun q hq h => by unfold Mn at h; omega) (fun q hq => by omega) k.col (fun o ho => k.oc o (by omega)) k.bl h2 k.bq
  exact ⟨c2, h3⟩
theorem St.keptV (h : St W w c b x m) {c' : Nat → Nat} {s' : Bv (Kv)} {q : Nat} {xs : List (Kv)} (k : Kp elV markV TW w w' W.heap.size b 8 1 c c' x.z s' q xs) (hq : 20 ≤ q ∧ q < 40) (hx : xs.length ≤ 1073741824) : ∃ c2, St W w' c2 b { x with s := x.s, z := s' } (m + 1) ∧ ∀ i, i < w.heap.size → c i ≠ q → ¬ IxB w' i → c2 i = c i := by
  have h2 : Bq elP markQ TW W w' b 4 0 c' x.s (m + 1) := (h.bp.onl (S := fun q => q = 8 + 1 ∨ q = 10 + 1 ∨ q = 16) k.onl (fun q h1 h2 h3 h4 => by omega) k.bk.obj (fun o h1 h2 => k.oc o (by omega)) (fun i hi hc => k.col i hi (by omega))).mono (Nat.le_succ _)
  obtain ⟨c2, h3, h4⟩ := h.book (S := fun q => q = 8 + 1 ∨ q = 10 + 1 ∨ q = 16) (C := fun p => p = q) k.onl (fun q hq h => by omega) (fun p hp => by omega) k.col (fun o ho => k.oc o (by omega)) k.bl h2 (h.bv.push k hx)
  exact ⟨c2, h3, fun i hi h5 h6 => (h4 i h6).trans (k.col i hi h5)⟩
theorem cell_ne {b i j : Nat} (h : i ≠ j) : (⟨b, i, none⟩ : Addr) ≠ ⟨b, j, none⟩ := fun e => h (by injection e)
theorem St.set (h : St W w c b x m) {o : Nat} (ho : o < 4) (u : Value) : (∀ k, k ≠ b → (w.setCell ⟨b, o, none⟩ u).heap[k]? = w.heap[k]?) ∧ Vs.Kp w (w.setCell ⟨b, o, none⟩ u) ∧ (∀ k, IxB (w.setCell ⟨b, o, none⟩ u) k → c k = 7) ∧ Below W.heap.size W (w.setCell ⟨b, o, none⟩ u) ∧ Bq elP markQ TW W (w.setCell ⟨b, o, none⟩ u) b 4 0 c x.s m ∧ Bq elV markV TW W (w.setCell ⟨b, o, none⟩ u) b 8 1 c x.z m := by
  have hbl : ∀ k, k ≠ b → (w.setCell ⟨b, o, none⟩ u).heap[k]? = w.heap[k]? := fun k hk => Below.heap_setCell _ _ _ _ hk
  have ho1 : Onl (fun k => k = b) w (w.setCell ⟨b, o, none⟩ u) := Onl.set (F := fun k => k = b) (Onl.refl _ _) rfl _ _
  have ho2 : Onl (fun k => (fun q => q = 16) (c k)) w (w.setCell ⟨b, o, none⟩ u) := ho1.mono fun k hk => by subst hk; exact h.cb
  have hk := h.kp (S := fun q => q = 16) ho2 (by omega)
  have hob : Obj4 TW (w.setCell ⟨b, o, none⟩ u) b := h.obj.set _ _ _
  refine ⟨hbl, hk, fun k hx => ?_, h.bl.setCell h.bp.bk.low _, h.bp.onl (S := fun q => q = 16) ho2 (fun q h1 _ _ => h1) hob (fun o' h1 h2 => World.cell?_setCell_other _ _ _ _ (cell_ne (by omega))) (fun _ _ _ => rfl), h.bv.onl (S := fun q => q = 16) ho2 (fun q h1 _ _ => h1) hob (fun o' h1 h2 => World.cell?_setCell_other _ _ _ _ (cell_ne (by omega))) (fun _ _ _ => rfl)⟩
  by_cases e : k = b
  · subst e
    obtain ⟨cs, hc⟩ := hob
    exact absurd hx (not_ixB hc ixW)
  · exact h.ix k (hx.of (hbl k e))
/-- a new store in the place of one -/
theorem St.pset (h : St W w c b x m) {j : Nat} (hj : j < 2) {p' : Nat} {F' : Nat → Prop} {M' : Mst} {k' : Sp} (hs : Sto F' w p' M' k') (hF : ∀ k, F' k → c k = j ∧ W.heap.size ≤ k) :
    St W (w.setCell ⟨b, j, none⟩ (pt p')) c b { x with p := upd x.p j p', F := upd x.F j F', M := upd x.M j M', kp := upd x.kp j k' } m := by
  obtain ⟨hbl, hk, h7, hl, h1, h2⟩ := h.set (o := j) (by omega) (pt p')
  have hnb : ∀ {k q : Nat}, c k = q → q ≠ 16 → k ≠ b := fun e1 e2 e3 => by subst e3; exact e2 (e1.symm.trans h.cb)
  have hsz : (w.setCell ⟨b, j, none⟩ (pt p')).heap.size = w.heap.size := by simp [World.setCell]
  refine ⟨fun i hi => ?_, fun i hi k hk2 => ?_, fun i hi => (h.rs i hi).onl (F := fun k => k = b) (Onl.set (F := fun k => k = b) (Onl.refl _ _) rfl _ _) fun k hf => hnb (h.cr i hi k hf) (by omega), h.cr, h.rl, fun i hi => ?_, fun i hi => (World.cell?_setCell_other _ _ _ _ (cell_ne (by omega))).trans (h.cq i hi), h1, h2, h7, hl⟩
  · show Sto (upd x.F j F' i) _ (upd x.p j p' i) (upd x.M j M' i) (upd x.kp j k' i)
    by_cases e : i = j
    · subst e; rw [upd_same, upd_same, upd_same, upd_same]
      exact Sto.keepK hs hk fun k hf => hbl k (hnb (hF k hf).1 (by omega))
    · rw [upd_other _ _ e, upd_other _ _ e, upd_other _ _ e, upd_other _ _ e]
      exact Sto.keepK (h.st i hi) hk fun k hf => hbl k (hnb (h.cf i hi k hf).1 (by omega))
  · replace hk2 : upd x.F j F' i k := hk2
    by_cases e : i = j
    · subst e; rw [upd_same] at hk2; exact hF k hk2
    · rw [upd_other _ _ e] at hk2; exact h.cf i hi k hk2
  · show _ = some (pt (upd x.p j p' i))
    by_cases e : i = j
    · subst e; rw [upd_same]; exact World.cell?_setCell_same _ _ _ (h.cp i hi)
    · rw [upd_other _ _ e]; exact (World.cell?_setCell_other _ _ _ _ (cell_ne (fun e2 => e e2.symm))).trans (h.cp i hi)
/-- a new one of the document's in the place of one -/
theorem St.rset (h : St W w c b x m) {j : Nat} (hj : j < 2) {r' : Nat} {v' : Value} {N' : Mst} {k' : Sp} (hs : Rs w W.heap.size r' v' (dumpM N') k') (hF : ∀ k, RsB r' v' k → c k = 2 + j) (hr : W.heap.size ≤ r') :
    St W (w.setCell ⟨b, 2 + j, none⟩ (pt r')) c b { x with r := upd x.r j r', v := upd x.v j v', N := upd x.N j N', kr := upd x.kr j k' } m := by
  obtain ⟨hbl, hk, h7, hl, h1, h2⟩ := h.set (o := 2 + j) (by omega) (pt r')
  have hnb : ∀ {k q : Nat}, c k = q → q ≠ 16 → k ≠ b := fun e1 e2 e3 => by subst e3; exact e2 (e1.symm.trans h.cb)
  have ho : Onl (fun k => k = b) w (w.setCell ⟨b, 2 + j, none⟩ (pt r')) := Onl.set (F := fun k => k = b) (Onl.refl _ _) rfl _ _
  refine ⟨fun i hi => Sto.keepK (h.st i hi) hk fun k hf => hbl k (hnb (h.cf i hi k hf).1 (by omega)), h.cf, fun i hi => ?_, fun i hi k hk2 => ?_, fun i hi => ?_, fun i hi => (World.cell?_setCell_other _ _ _ _ (cell_ne (by omega))).trans (h.cp i hi), fun i hi => ?_, h1, h2, h7, hl⟩
  · show Rs _ _ (upd x.r j r' i) (upd x.v j v' i) (dumpM (upd x.N j N' i)) (upd x.kr j k' i)
    by_cases e : i = j
    · subst e; rw [upd_same, upd_same, upd_same, upd_same]
      exact hs.onl ho fun k hf => hnb (hF k hf) (by omega)
    · rw [upd_other _ _ e, upd_other _ _ e, upd_other _ _ e, upd_other _ _ e]
      exact (h.rs i hi).onl ho fun k hf => hnb (h.cr i hi k hf) (by omega)
  · replace hk2 : RsB (upd x.r j r' i) (upd x.v j v' i) k := hk2
    by_cases e : i = j
    · subst e; rw [upd_same, upd_same] at hk2; exact hF k hk2
    · rw [upd_other _ _ e, upd_other _ _ e] at hk2; exact h.cr i hi k hk2
  · show W.heap.size ≤ upd x.r j r' i
    by_cases e : i = j
    · subst e; rw [upd_same]; exact hr
    · rw [upd_other _ _ e]; exact h.rl i hi
  · show _ = some (pt (upd x.r j r' i))
    by_cases e : i = j
    · subst e; rw [upd_same]; exact World.cell?_setCell_same _ _ _ (h.cq i hi)
    · rw [upd_other _ _ e]; exact (World.cell?_setCell_other _ _ _ _ (cell_ne (by omega))).trans (h.cq i hi)
end
/-- the scene, whatever its colours and books -/
def Sx (W w : World) (b : Nat) (x : Sv) (m : Nat) : Prop := ∃ c s z, St W w c b { x with s := s, z := z } m
section
variable {W w w' : World} {b m : Nat} {x : Sv}
theorem St.sx {c : Nat → Nat} (h : St W w c b x m) : Sx W w b x m := ⟨c, x.s, x.z, h⟩
theorem Sx.bl (h : Sx W w b x m) : Below W.heap.size W w := by obtain ⟨c, s, z, h⟩ := h; exact h.bl
theorem Sx.later (h : Sx W w b x m) (hb : Below w.heap.size w w') : Sx W w' b x m := by
  obtain ⟨c, s, z, h⟩ := h
  obtain ⟨c', h', _⟩ := h.later hb (fun _ => 22)
  exact ⟨c', s, z, h'⟩
theorem Sx.wholeP (hP : PowTab W) (h : Sx W w b x m) (hm : m ≤ 1073741824) : Calls Tryd.prog 43 #[.pointer (some ⟨b, 4, none⟩)] w fun e w' => e = .returned (.bool true) ∧ Hid (Sx W w' b x m) := by
  obtain ⟨c, s, z, h⟩ := h
  refine (wholeP_is hP h.bp h.bl hm).mono ?_
  rintro e w' ⟨rfl, c', s', k⟩
  obtain ⟨c2, h2⟩ := h.wdP k
  exact ⟨rfl, c2, _, _, h2⟩
theorem Sx.wholeV (hP : PowTab W) (h : Sx W w b x m) (hm : m ≤ 1073741824) : Calls Tryd.prog 44 #[.pointer (some ⟨b, 8, none⟩)] w fun e w' => e = .returned (.bool true) ∧ Hid (Sx W w' b x m) := by
  obtain ⟨c, s, z, h⟩ := h
  refine (wholeV_is hP h.bv h.bl hm).mono ?_
  rintro e w' ⟨rfl, c', s', k⟩
  obtain ⟨c2, h2⟩ := h.wdV k
  exact ⟨rfl, c2, _, _, h2⟩
theorem Sx.settleP (hP : PowTab W) (h : Sx W w b x m) (hm : m ≤ 1073741824) : Calls Tryd.prog 45 #[.pointer (some ⟨b, 4, none⟩)] w fun e w' => e = .returned (.bool true) ∧ Hid (Sx W w' b x m) := by
  obtain ⟨c, s, z, h⟩ := h
  refine (settleP_of hP h.bp h.bl hm).mono ?_
  rintro e w' ⟨rfl, c', s', k⟩
  obtain ⟨c2, h2⟩ := h.wdP k
  exact ⟨rfl, c2, _, _, h2⟩
theorem Sx.settleV (hP : PowTab W) (h : Sx W w b x m) (hm : m ≤ 1073741824) : Calls Tryd.prog 46 #[.pointer (some ⟨b, 8, none⟩)] w fun e w' => e = .returned (.bool true) ∧ Hid (Sx W w' b x m) := by
  obtain ⟨c, s, z, h⟩ := h
  refine (settleV_of hP h.bv h.bl hm).mono ?_
  rintro e w' ⟨rfl, c', s', k⟩
  obtain ⟨c2, h2⟩ := h.wdV k
  exact ⟨rfl, c2, _, _, h2⟩
set_option maxRecDepth 8000 in
theorem Sx.whole (hP : PowTab W) (h : Sx W w b x m) (hm : m ≤ 1073741824) : Calls Tryd.prog 10 #[.pointer (some ⟨b, 4, none⟩)] w fun e w' => e = .returned (.bool true) ∧ Hid (Sx W w' b x m) := by
  have H1 := hid (h.wholeP hP hm)
  have HN : Hid (∀ w', Sx W w' b x m → Calls Tryd.prog 44 #[.pointer (some ⟨b, 8, none⟩)] w' fun e w' => e = .returned (.bool true) ∧ Hid (Sx W w' b x m)) := fun w' h' => h'.wholeV hP hm
  clear hP h
  go_enter Tryd.func10, Tryd.ntmps10
  go_wp2_with fail
  refine H1.out.mono ?_
  rintro e w1 ⟨rfl, h1⟩
  go_wp2_with fail
  refine (HN.out _ h1.out).mono ?_
  rintro e w2 ⟨rfl, h2⟩
  go_wp2_with fail
  go_ret
  exact ⟨rfl, h2⟩
set_option maxRecDepth 8000 in
theorem Sx.settle (hP : PowTab W) (h : Sx W w b x m) (hm : m ≤ 1073741824) : Calls Tryd.prog 11 #[.pointer (some ⟨b, 4, none⟩)] w fun e w' => e = .returned (.bool true) ∧ Hid (Sx W w' b x m) := by
  have H1 := hid (h.settleP hP hm)
  have HN : Hid (∀ w', Sx W w' b x m → Calls Tryd.prog 46 #[.pointer (some ⟨b, 8, none⟩)] w' fun e w' => e = .returned (.bool true) ∧ Hid (Sx W w' b x m)) := fun w' h' => h'.settleV hP hm
  have HW : Hid (∀ w', Sx W w' b x m → Calls Tryd.prog 10 #[.pointer (some ⟨b, 4, none⟩)] w' fun e w' => e = .returned (.bool true) ∧ Hid (Sx W w' b x m)) := fun w' h' => h'.whole hP hm
  clear hP h
  go_enter Tryd.func11, Tryd.ntmps11
  go_wp2_with fail
  refine H1.out.mono ?_
  rintro e w1 ⟨rfl, h1⟩
  go_wp2_with fail
  refine (HN.out _ h1.out).mono ?_
  rintro e w2 ⟨rfl, h2⟩
  go_wp2_with fail
  refine (HW.out _ h2.out).mono ?_
  rintro e w3 ⟨rfl, h3⟩
  go_wp2_with fail
  go_ret
  exact ⟨rfl, h3⟩
end
end Go.Proofs.YtmlacdfdpdkdaaaDoor.Bg
