import Derived.Test.YtpnbgdbkiokooaaDoorFlCall
import Derived.Test.YtpnbgdbkiokooaaDoorShelf
import Derived.Lib.SlBuf
import Derived.Shelf.Spec.SlicesInsert
/- A message taken out of the row. -/
namespace Go.Proofs.YtpnbgdbkiokooaaDoor.Fl
open Go.RowKit Go.Sort Go.Proofs.YtpnbgdbkiokooaaDoor
set_option linter.unusedVariables false

theorem one_string : OneCell Value.string := fun _ => rfl
/-- stores into a row of texts, told by the cells that changed -/
theorem RowAt.of {w w' : World} {g off off' c c' : Nat} {xs ys : List ByteArray} (h : RowAt w g off c xs) (ht : TyS w' g) (ho : off ≤ off') (hc : off' + c' ≤ off + c) (hle : ys.length ≤ c') (hat : ∀ i t, ys[i]? = some t → w'.cell? ⟨g, off' + i, none⟩ = some (.string t)) (hsp : ∀ o, (w'.cell? ⟨g, o, none⟩).isSome = (w.cell? ⟨g, o, none⟩).isSome) : RowAt w' g off' c' ys :=
  ⟨ht, hle, by have := h.mx; omega, hat, fun i hi => by
    rw [hsp]
    have := h.sp (off' + i - off) (by omega)
    rwa [show off + (off' + i - off) = off' + i by omega] at this⟩
theorem some_sets {k : Nat} (g : Nat) : ∀ (vs : List Value) (b o : Nat) (w : World), ((w.setCells b o vs).cell? ⟨g, k, none⟩).isSome = (w.cell? ⟨g, k, none⟩).isSome
  | [], _, _, _ => rfl
  | v :: r, b, o, w => by
    rw [World.setCells, some_sets g r b (o + 1)]
    by_cases e : (⟨b, o, none⟩ : Addr) = ⟨g, k, none⟩
    · rw [e]
      cases hc : w.cell? ⟨g, k, none⟩ with
      | none =>
        have : (w.setCell ⟨g, k, none⟩ v).cell? ⟨g, k, none⟩ = none := by
          rw [setCell_eq]
          simp only [World.cell?, mapBlock] at hc ⊢
          rw [Array.getElem?_modify]
          cases hh : w.heap[g]? with
          | none => simp
          | some o =>
            rw [hh] at hc
            cases o <;> simp_all [onCells]
        rw [this]
      | some u => rw [World.cell?_setCell_same _ _ _ (by rw [hc])]; rfl
    · rw [World.cell?_setCell_other _ _ _ _ e]

/-- the nearer end: what lies ahead moves up by one -/
theorem RowAt.front {w : World} {g off c : Nat} {xs : List ByteArray} (h : RowAt w g off c xs) {i : Nat} (hi : i < xs.length) :
    RowAt ((w.setCells g (off + 1) ((xs.take i).map Value.string)).setCell ⟨g, off, none⟩ (.string mt)) g (off + 1) (c - 1) (xs.eraseIdx i) := by
  have hlen : ((xs.take i).map Value.string).length = i := by rw [List.length_map, List.length_take]; omega
  have hle := h.le
  have hin := World.cell?_setCells_in g ((xs.take i).map Value.string) (off + 1) w (fun j hj => by
    rw [hlen] at hj
    rw [Nat.add_assoc]
    exact h.sp _ (by omega))
  refine h.of ((TyS.sets _ _ _ h.ty).set _ _ _) (by omega) (by omega) (by rw [List.length_eraseIdx, if_pos hi]; omega) (fun j t e => ?_) (fun o => ?_)
  · rw [World.cell?_setCell_other _ _ _ _ (by simp)]
    rw [List.getElem?_eraseIdx] at e
    by_cases hj : j < i
    · rw [if_pos hj] at e
      rw [hin j (by rw [hlen]; exact hj), List.getElem_map]
      have := (List.getElem?_eq_some_iff.1 e).2
      rw [List.getElem_take, this]
    · rw [if_neg hj] at e
      rw [World.cell?_setCells_out g _ _ _ _ (fun _ _ => by rw [hlen]; right; show off + 1 + i ≤ off + 1 + j; omega)]
      have := h.at_ _ _ e
      rwa [show off + (j + 1) = off + 1 + j by omega] at this
  · have e1 := some_sets (k := o) g [Value.string mt] g off (w.setCells g (off + 1) ((xs.take i).map Value.string))
    have e2 := some_sets (k := o) g ((xs.take i).map Value.string) g (off + 1) w
    exact e1.trans e2
theorem eraseIdx_td : ∀ (xs : List ByteArray) (i : Nat), xs.eraseIdx i = xs.take i ++ xs.drop (i + 1)
  | [], i => by simp
  | x :: xs, 0 => by simp
  | x :: xs, i + 1 => by simp [eraseIdx_td xs i]
/-- the other end: what lies behind moves down by one -/
theorem RowAt.holds {w : World} {g off c : Nat} {xs : List ByteArray} (h : RowAt w g off c xs) : Holds Value.string w g off xs.toArray := fun j hj => by
  have hj' : j < xs.length := by simpa using hj
  refine ⟨?_, h.ty.loose _⟩
  rw [h.at_ j _ (nthT_get hj'), nthT, List.getElem?_eq_getElem hj']
  simp [hj']
theorem RowAt.ahead {w : World} {g off c : Nat} {xs : List ByteArray} (h : RowAt w g off c xs) (q : Nat) : RowAt (Sort.ahead w q) g off c xs := h.keep rfl
theorem RowAt.back {w : World} {g off c : Nat} {xs : List ByteArray} (h : RowAt w g off c xs) {i : Nat} (hi : i < xs.length) :
    RowAt (putRow Value.string w g off (xs.take i ++ xs.drop (i + 1) ++ List.replicate 1 mt).toArray) g off c (xs.eraseIdx i) := by
  have hs : (xs.take i ++ xs.drop (i + 1) ++ List.replicate 1 mt).toArray.size = xs.toArray.size := by simp; omega
  have hH := holds_putRow Value.string w g off xs.toArray _ h.holds hs
  have hle := h.le
  obtain ⟨cur, hc⟩ := h.ty
  refine h.of ?_ (Nat.le_refl _) (Nat.le_refl _) (by rw [List.length_eraseIdx, if_pos hi]; omega) (fun j t e => ?_) (fun o => ?_)
  · exact ⟨putCells Value.string off (xs.take i ++ xs.drop (i + 1) ++ List.replicate 1 mt).toArray cur, by simp [putRow, mapBlock, Array.getElem?_modify, hc, onCells]⟩
  · have hj : j < (xs.eraseIdx i).length := (List.getElem?_eq_some_iff.1 e).1
    have hl : (xs.eraseIdx i).length < xs.length := by rw [List.length_eraseIdx, if_pos hi]; omega
    have := (hH j (by rw [hs]; simpa using (by omega : j < xs.length))).1
    rw [this]
    rw [eraseIdx_td] at e hj
    congr 2
    have hjx : j < xs.length := by rw [← eraseIdx_td] at hj; omega
    rw [getElem!_pos _ j (by rw [hs]; simpa using hjx)]
    simp only [List.getElem_toArray]
    rw [List.getElem_append_left hj]
    exact (List.getElem?_eq_some_iff.1 e).2
  · simp only [World.cell?, putRow, mapBlock, Array.getElem?_modify, hc]
    simp [onCells, putCells, Array.getElem?_mapIdx]
theorem grown_putRow (w : World) (g off : Nat) (d : Array ByteArray) (q : Nat) : w.grownBy (putRow Value.string (Sort.ahead w q) g off d) (some g) :=
  ⟨rfl, rfl, rfl, by simp [putRow, mapBlock, Sort.ahead], fun k hk hn => by
    have hne : g ≠ k := fun e => hn (by rw [e])
    simp [putRow, mapBlock, Array.getElem?_modify, hne, Sort.ahead]⟩
theorem delete_is {w : World} {g off c : Nat} {xs : List ByteArray} (h : RowAt w g off c xs) {i : Nat} (hi : i < xs.length) :
    Calls Tryd.prog 36 #[.slice (some ⟨g, off, none⟩) xs.length c, .int .i64 (i : Int), .int .i64 ((i + 1 : Nat) : Int)] w fun e w' => e = .returned (.slice (some ⟨g, off, none⟩) (xs.eraseIdx i).length c) ∧ Hid (RowAt w' g off c (xs.eraseIdx i)) ∧ Hid (w.grownBy w' (some g)) := by
  obtain ⟨i0, hi0, hz0, hz1, hz2⟩ := info_ofF infoStr
  have hm := h.mx
  unfold maxLen at hm
  have hle := h.le
  have hd := AnyE.slices_Delete Tryd.delS Value.string one_string mt Tryd.zeroValue9 i0 hi0 hz1 g off c i (i + 1) xs.toArray w h.holds (by simpa using hle) hm (by omega) (by simp; omega)
  have e1 : xs.toArray.size = xs.length := by simp
  have e2 : (xs.eraseIdx i).length = xs.length - 1 := by rw [List.length_eraseIdx, if_pos hi]
  have e3 : i + 1 - i = 1 := by omega
  rw [e1, e3] at hd
  rw [e2]
  refine Calls.mono hd ?_
  rintro e w' ⟨rfl, q, rfl⟩
  exact ⟨rfl, (h.ahead q).back hi, grown_putRow _ _ _ _ _⟩

set_option maxHeartbeats 4000000 in
theorem remove_back {w : World} {B p : Nat} {v : Value} {xs : List ByteArray} (h : Fl w B p v xs) (i : Nat) (hi : i < xs.length) (hn : ¬ i < xs.length / 2) :
    Calls Tryd.prog 21 #[pt p, .int .i64 (i : Int)] w fun e w' => e = .returned (.tuple #[]) ∧ Hid (∃ v', Mv w w' B p v v' (xs.eraseIdx i)) := by
  rcases h.row with ⟨_, rfl⟩ | ⟨g, off, c, rfl, hg, hr⟩
  · simp at hi
  have c0 := h.cell
  have HF := hid h
  have hm := hr.mx
  unfold maxLen at hm
  have hle := hr.le
  have HD := hid (delete_is hr hi)
  have e1 : ((i + 1 : Nat) : Int) = (i : Int) + 1 := by omega
  rw [e1] at HD
  have k1 : ((xs.length : Int)).tdiv 2 = ((xs.length / 2 : Nat) : Int) := by rfl
  have k2 : (i < xs.length / 2) = False := eq_false hn
  have k3 : IntKind.i64.wrap ((i : Int) + 1) = (i : Int) + 1 := by rw [IntKind.wrap_i64]; omega
  have k4 : IntKind.i64.wrap ((xs.length / 2 : Nat) : Int) = ((xs.length / 2 : Nat) : Int) := by rw [IntKind.wrap_i64]; omega
  have hT := hid hr.ty
  have hB := hid hg
  clear h hr hi hm hle hn hg e1
  generalize xs.length / 2 = hf at k1 k2 k4
  generalize hq : xs.length = n at k1 c0 HD HF
  clear hq
  go_enter Tryd.func21, Tryd.ntmps21
  go_wp2_with fail
  refine HD.out.mono ?_
  rintro e w1 ⟨rfl, hr1, hg1⟩
  have hM := hid (HF.out.put hg1.out (.inr ⟨g, off, c, rfl, hB.out, hr1.out⟩) (fun k e => .inl e))
  have hp : w1.heap[p]? = w.heap[p]? := hg1.out.block p HF.out.lt (fun e => (HF.out.apart hT.out) (by injection e with e; exact e.symm))
  have c1 : w1.cell? ⟨p, 0, none⟩ = some (.slice (some ⟨g, off, none⟩) n c) := (World.cell?_of_block (a := ⟨p, 0, none⟩) hp).trans c0
  have f1 : w1.frozen? ⟨p, 0, none⟩ = false := (World.frozen?_of_block (a := ⟨p, 0, none⟩) hp).trans (HF.out.loose 0)
  generalize (xs.eraseIdx i).length = m at hM
  clear hr1 hg1 hp
  go_wp2_with fail
  go_end0
  exact ⟨rfl, _, hM.out⟩

set_option maxHeartbeats 4000000 in
theorem remove_front {w : World} {B p : Nat} {v : Value} {xs : List ByteArray} (h : Fl w B p v xs) (i : Nat) (hi : i < xs.length) (hn : i < xs.length / 2) :
    Calls Tryd.prog 21 #[pt p, .int .i64 (i : Int)] w fun e w' => e = .returned (.tuple #[]) ∧ Hid (∃ v', Mv w w' B p v v' (xs.eraseIdx i)) := by
  rcases h.row with ⟨_, rfl⟩ | ⟨g, off, c, rfl, hg, hr⟩
  · simp at hi
  have c0 := h.cell
  have HF := hid h
  have hm := hr.mx
  unfold maxLen at hm
  have hle := hr.le
  have HR := hid hr
  obtain ⟨ys, hys⟩ : ∃ ys, ys = (xs.take i).map Value.string := ⟨_, rfl⟩
  have hyl : ys.length = i := by rw [hys, List.length_map, List.length_take]; omega
  have hrd : RowAt w.drew g off c xs := hr.keep rfl
  obtain ⟨w1, hw1⟩ : ∃ w1, w1 = w.drew.setCells g (off + 1) ys := ⟨_, rfl⟩
  have HF2 := hid (hrd.front hi)
  rw [← hys, ← hw1] at HF2
  have HC : Hid ((Builtin.copy_ #[22, 22] 3 #[.slice (some ⟨g, off + 1, none⟩) i (c - 1), .slice (some ⟨g, off, none⟩) i c]).run Tryd.prog w.drew = .ok (goInt i) w1) := by
    obtain ⟨i0, hi0, hz0, hz1, hz2⟩ := info_ofF infoStr
    have := run_copy_cells (P := Tryd.prog) w.drew 22 22 3 9 g (off + 1) i (c - 1) ⟨g, off, none⟩ i c ys Tryd.underlying22 (by rw [hi0]; simp [hz1]) (by rw [hyl]; simp)
      (fun j u hj => by
        rw [Addr.add_lit]
        rw [hys, List.getElem?_map] at hj
        cases hx : (xs.take i)[j]? with
        | none => rw [hx] at hj; cases hj
        | some t =>
          rw [hx] at hj
          injection hj with hj
          subst hj
          have hjl : j < i := by
            have := (List.getElem?_eq_some_iff.1 hx).1
            rw [List.length_take] at this
            omega
          rw [List.getElem?_take, if_pos hjl] at hx
          exact hrd.at_ j t hx)
      (fun j hj => by rw [Nat.add_assoc]; exact hrd.sp _ (by omega)) (fun j hj => hrd.ty.loose _) (fun u hu => by
        rw [hys] at hu
        obtain ⟨t, _, rfl⟩ := List.mem_map.1 hu
        rfl)
    rw [hyl] at this
    rw [hw1]
    exact this
  have hG1 : w.grownBy w1 (some g) := by
    have h1 := grown_sets w.drew g (off + 1) ys
    rw [← hw1] at h1
    exact ⟨h1.os, h1.tape, h1.output, h1.size, h1.block⟩
  have hpg : p ≠ g := fun e => h.apart hr.ty e.symm
  have hp : w1.heap[p]? = w.heap[p]? := hG1.block p h.lt (fun e => hpg (Option.some.inj e))
  have c1 : w1.cell? ⟨p, 0, none⟩ = some (.slice (some ⟨g, off, none⟩) xs.length c) := (World.cell?_of_block (a := ⟨p, 0, none⟩) hp).trans c0
  have f1 : w1.frozen? ⟨p, 0, none⟩ = false := (World.frozen?_of_block (a := ⟨p, 0, none⟩) hp).trans (h.loose 0)
  have hT1 : TyS w1 g := by rw [hw1]; exact TyS.sets _ _ _ hrd.ty
  have f2 := hT1.loose off
  have c2 : w1.cell? ⟨g, off, none⟩ = some (.string (nthT xs 0)) := by
    rw [hw1, World.cell?_setCells_out g _ _ _ _ (fun _ _ => .inl (by show off < off + 1; omega))]
    exact hrd.at_ 0 _ (nthT_get (by omega))
  have hM : Hid (Mv w ((w1.setCell ⟨g, off, none⟩ (.string mt)).setCell ⟨p, 0, none⟩ (.slice (some ⟨g, off + 1, none⟩) (xs.eraseIdx i).length (c - 1))) B p (.slice (some ⟨g, off, none⟩) xs.length c) (.slice (some ⟨g, off + 1, none⟩) (xs.eraseIdx i).length (c - 1)) (xs.eraseIdx i)) :=
    h.put ⟨hG1.os, hG1.tape, hG1.output, by have := hG1.size; simpa [World.setCell] using this, fun k hk hn => (Below.heap_setCell _ _ _ _ (fun e => hn (by rw [e]; rfl))).trans (hG1.block k hk hn)⟩ (.inr ⟨g, off + 1, c - 1, rfl, hg, HF2.out⟩) (fun k e => .inl e)
  have e2 : (xs.eraseIdx i).length = xs.length - 1 := by rw [List.length_eraseIdx, if_pos hi]
  rw [e2] at hM
  have k1 : ((xs.length : Int)).tdiv 2 = ((xs.length / 2 : Nat) : Int) := by rfl
  have k2 : (i < xs.length / 2) = True := eq_true hn
  have k6 : IntKind.i64.wrap ((xs.length / 2 : Nat) : Int) = ((xs.length / 2 : Nat) : Int) := by rw [IntKind.wrap_i64]; omega
  have hlt : i < xs.length := hi
  have hT := hid hr.ty
  have hB := hid hg
  have hn2 : 2 ≤ xs.length := by omega
  generalize xs.length / 2 = hf at k1 k2 k6
  generalize hq : xs.length = n at c0 c1 HF hM k1 hlt hn2 hle
  have k3 : IntKind.i64.wrap ((i : Int) + 1) = (i : Int) + 1 := by rw [IntKind.wrap_i64]; omega
  have k4 : ((i : Int) + 1).toNat = i + 1 := by omega
  have k5 : (c = 1) = False := eq_false (by omega)
  have b1 : (0 : Int) ≤ (i : Int) + 1 := by omega
  have b2 : (i : Int) + 1 ≤ (c : Int) := by omega
  have b3 : (1 : Int) ≤ (i : Int) + 1 := by omega
  have b4 : i ≤ c := by omega
  have b5 : 1 ≤ n := by omega
  have b6 : n ≤ c := hle
  have pne : (g = p) = False := eq_false fun e => hpg e.symm
  clear h hr hi hn hg hys hq hyl hrd hw1 HF2 hG1 hp hT1 e2 hT hB HR hpg
  go_enter Tryd.func21, Tryd.ntmps21
  go_wp2_with fail
  go_region_law (refine step_copy_runI rfl (.tmp 18) (.tmp 24) 22 22 rfl (.slice (some ⟨g, off + 1, none⟩) i (c - 1)) (.slice (some ⟨g, off, none⟩) i c) (by simp [Act.eval, Act.put]) (by simp [Act.eval, Act.put]) HC.out ?_)
  all_goals go_wp2_with fail
  all_goals refine bodyPost_ret (v := .tuple #[]) (by simp [results, Tryd.results21, go_sem]) rfl ?_
  all_goals exact ⟨rfl, _, hM.out⟩
theorem remove_is {w : World} {B p : Nat} {v : Value} {xs : List ByteArray} (h : Fl w B p v xs) (i : Nat) (hi : i < xs.length) :
    Calls Tryd.prog 21 #[pt p, .int .i64 (i : Int)] w fun e w' => e = .returned (.tuple #[]) ∧ Hid (∃ v', Mv w w' B p v v' (xs.eraseIdx i)) := by
  by_cases hn : i < xs.length / 2
  · exact remove_front h i hi hn
  · exact remove_back h i hi hn

theorem take_in {w : World} {B p : Nat} {v : Value} {xs : List ByteArray} (h : Fl w B p v xs) (i : Nat) (hi : i < xs.length) :
    Calls Tryd.prog 11 #[pt p, .int .i64 (i : Int)] w fun e w' => e = .returned (lookV (nthT xs i) 0) ∧ Hid (∃ v', Mv w w' B p v v' (xs.eraseIdx i)) := by
  have HL := hid (look_in h i hi)
  have HR := hid (remove_is h i hi)
  generalize nthT xs i = t at HL ⊢
  clear h hi
  go_enter Tryd.func11, Tryd.ntmps11
  go_wp2_with fail
  refine HL.out.mono ?_
  rintro e w' ⟨rfl, rfl⟩
  go_wp2_with fail
  refine HR.out.mono ?_
  rintro e w1 ⟨rfl, hM⟩
  go_wp2_with fail
  refine bodyPost_ret (v := lookV t 0) (by simp [results, Tryd.results11, go_sem]) rfl ?_
  exact ⟨rfl, hM⟩
theorem take_out {w : World} {B p : Nat} {v : Value} {xs : List ByteArray} (h : Fl w B p v xs) (i : Int) (hi : i < 0 ∨ (xs.length : Int) ≤ i) :
    Calls Tryd.prog 11 #[pt p, .int .i64 i] w fun e w' => e = .returned (lookV mt 150) ∧ w' = w := by
  have HL := hid (look_out h i hi)
  clear h hi
  go_enter Tryd.func11, Tryd.ntmps11
  go_wp2_with fail
  refine HL.out.mono ?_
  rintro e w' ⟨rfl, rfl⟩
  go_wp2_with fail
  refine bodyPost_ret (v := lookV mt 150) (by simp [results, Tryd.results11, go_sem]) rfl ?_
  exact ⟨rfl, rfl⟩
end Go.Proofs.YtpnbgdbkiokooaaDoor.Fl
