import Derived.Test.YtbgmbbmnnfmbpaaQOrd
import Derived.Lib.QuietBelow
import Derived.Deep.RegionHeld3
/- LocksInside, LocksOverlap, LocksWitness: the walks. -/
namespace Go.Proofs.Ytbgmbbmnnfmbpaa.Lk
open Go.RowKit Go.Sort
set_option linter.unusedVariables false

set_option maxHeartbeats 2000000 in
theorem law_witness {al ah bl bh k : ByteArray} (w : World) :
    Calls Try.prog 4 #[.agg #[.string al, .string ah, .string bl, .string bh, .string k]] w fun e w' => e = .returned (.bool true) ∧ Below w.heap.size w w' := by
  obtain ⟨c, hc⟩ : ∃ c, ltS al bl = c := ⟨_, rfl⟩
  have hc' : Op.bytesLess al.toList bl.toList = c := hc
  obtain ⟨u1, h1⟩ : ∃ u, insB k (al, ah) = u := ⟨_, rfl⟩
  obtain ⟨u2, h2⟩ : ∃ u, insB k (bl, bh) = u := ⟨_, rfl⟩
  obtain ⟨v1, h3⟩ : ∃ u, insB (maxS al bl) (al, ah) = u := ⟨_, rfl⟩
  obtain ⟨v2, h4⟩ : ∃ u, insB (maxS al bl) (bl, bh) = u := ⟨_, rfl⟩
  obtain ⟨o, h5⟩ : ∃ o, overB (al, ah) (bl, bh) = o := ⟨_, rfl⟩
  have h7 : (v1 && v2) = o := by rw [← h5]; simp only [overB, h3, h4]
  have h6 : (u1 && u2) = true → o = true := fun h => by
    rw [Bool.and_eq_true] at h
    rw [← h5]; exact over_of (h1.trans h.1) (h2.trans h.2)
  obtain ⟨m, hm⟩ : ∃ m, maxS al bl = m := ⟨_, rfl⟩
  have hml : m = (if c then bl else al) := by rw [← hm, maxS, hc]
  rw [hm, hml] at h3 h4
  have H0 := hid (ins_open k)
  have H1 := hid h1
  have H2 := hid h2
  have H3 := hid h3
  have H4 := hid h4
  have H5 := hid h5
  have H6 := hid h6
  have H7 := hid h7
  clear h1 h2 h3 h4 h5 h6 h7 hm hc hml
  clear m
  cases c <;> simp only [Bool.false_eq_true, if_false, if_true] at H3 H4
  all_goals
    go_enter Try.func4, Try.ntmps4
    go_wp2_with fail
    refine (overlap_is (a := (al, ah)) (b := (bl, bh)) H5.out _).mono ?_
    rintro e w' ⟨rfl, hw⟩
    have hb : Below w.heap.size w w' := by (repeat (first | exact Below.refl _ _ | assumption | refine Below.drew ?_ | refine Below.al ?_ _ | refine Below.setCell ?_ (by first | exact Nat.le_refl _ | (simp; omega) | (simp; done)) _ | refine Below.on ?_ (by assumption)))
    have b0 : w'.cell? ⟨w.heap.size, 0, none⟩ = some (.string al) := cell_later hw (by simp [go_sem])
    have b1 : w'.cell? ⟨w.heap.size, 1, none⟩ = some (.string ah) := cell_later hw (by simp [go_sem])
    have b2 : w'.cell? ⟨w.heap.size, 2, none⟩ = some (.string bl) := cell_later hw (by simp [go_sem])
    have b3 : w'.cell? ⟨w.heap.size, 3, none⟩ = some (.string bh) := cell_later hw (by simp [go_sem])
    have b4 : w'.cell? ⟨w.heap.size, 4, none⟩ = some (.string k) := cell_later hw (by simp [go_sem])
    clear hw
    cases u1
    · go_wp2_with fail
      refine (inside_is (s := (al, ah)) H1.out _).mono ?_
      rintro e w' ⟨rfl, hw⟩
      replace hb : Below w.heap.size w w' := Below.on hb hw
      replace b0 := cell_later hw b0
      replace b1 := cell_later hw b1
      replace b2 := cell_later hw b2
      replace b3 := cell_later hw b3
      replace b4 := cell_later hw b4
      clear hw
      go_wp2_with fail
      refine (inside_is (s := (k, ⟨#[]⟩)) H0.out _).mono ?_
      rintro e w' ⟨rfl, hw⟩
      replace hb : Below w.heap.size w w' := Below.on hb hw
      replace b0 := cell_later hw b0
      replace b1 := cell_later hw b1
      replace b2 := cell_later hw b2
      replace b3 := cell_later hw b3
      replace b4 := cell_later hw b4
      clear hw
      cases v1
      · go_wp2_with fail
        refine (inside_is (s := (al, ah)) H3.out _).mono ?_
        rintro e w' ⟨rfl, hw⟩
        replace hb : Below w.heap.size w w' := Below.on hb hw
        replace b0 := cell_later hw b0
        replace b1 := cell_later hw b1
        replace b2 := cell_later hw b2
        replace b3 := cell_later hw b3
        replace b4 := cell_later hw b4
        clear hw
        go_wp2_with fail
        go_ret
        exact ⟨by rw [← H7.out]; rfl, hb⟩
      · go_wp2_with fail
        refine (inside_is (s := (al, ah)) H3.out _).mono ?_
        rintro e w' ⟨rfl, hw⟩
        replace hb : Below w.heap.size w w' := Below.on hb hw
        replace b0 := cell_later hw b0
        replace b1 := cell_later hw b1
        replace b2 := cell_later hw b2
        replace b3 := cell_later hw b3
        replace b4 := cell_later hw b4
        clear hw
        go_wp2_with fail
        refine (inside_is (s := (bl, bh)) H4.out _).mono ?_
        rintro e w' ⟨rfl, hw⟩
        replace hb : Below w.heap.size w w' := Below.on hb hw
        replace b0 := cell_later hw b0
        replace b1 := cell_later hw b1
        replace b2 := cell_later hw b2
        replace b3 := cell_later hw b3
        replace b4 := cell_later hw b4
        clear hw
        go_wp2_with fail
        go_ret
        exact ⟨by rw [← H7.out]; simp, hb⟩
    · go_wp2_with fail
      refine (inside_is (s := (al, ah)) H1.out _).mono ?_
      rintro e w' ⟨rfl, hw⟩
      replace hb : Below w.heap.size w w' := Below.on hb hw
      replace b0 := cell_later hw b0
      replace b1 := cell_later hw b1
      replace b2 := cell_later hw b2
      replace b3 := cell_later hw b3
      replace b4 := cell_later hw b4
      clear hw
      go_wp2_with fail
      refine (inside_is (s := (bl, bh)) H2.out _).mono ?_
      rintro e w' ⟨rfl, hw⟩
      replace hb : Below w.heap.size w w' := Below.on hb hw
      replace b0 := cell_later hw b0
      replace b1 := cell_later hw b1
      replace b2 := cell_later hw b2
      replace b3 := cell_later hw b3
      replace b4 := cell_later hw b4
      clear hw
      cases u2
      · go_wp2_with fail
        refine (inside_is (s := (k, ⟨#[]⟩)) H0.out _).mono ?_
        rintro e w' ⟨rfl, hw⟩
        replace hb : Below w.heap.size w w' := Below.on hb hw
        replace b0 := cell_later hw b0
        replace b1 := cell_later hw b1
        replace b2 := cell_later hw b2
        replace b3 := cell_later hw b3
        replace b4 := cell_later hw b4
        clear hw
        cases v1
        · go_wp2_with fail
          refine (inside_is (s := (al, ah)) H3.out _).mono ?_
          rintro e w' ⟨rfl, hw⟩
          replace hb : Below w.heap.size w w' := Below.on hb hw
          replace b0 := cell_later hw b0
          replace b1 := cell_later hw b1
          replace b2 := cell_later hw b2
          replace b3 := cell_later hw b3
          replace b4 := cell_later hw b4
          clear hw
          go_wp2_with fail
          go_ret
          exact ⟨by rw [← H7.out]; rfl, hb⟩
        · go_wp2_with fail
          refine (inside_is (s := (al, ah)) H3.out _).mono ?_
          rintro e w' ⟨rfl, hw⟩
          replace hb : Below w.heap.size w w' := Below.on hb hw
          replace b0 := cell_later hw b0
          replace b1 := cell_later hw b1
          replace b2 := cell_later hw b2
          replace b3 := cell_later hw b3
          replace b4 := cell_later hw b4
          clear hw
          go_wp2_with fail
          refine (inside_is (s := (bl, bh)) H4.out _).mono ?_
          rintro e w' ⟨rfl, hw⟩
          replace hb : Below w.heap.size w w' := Below.on hb hw
          replace b0 := cell_later hw b0
          replace b1 := cell_later hw b1
          replace b2 := cell_later hw b2
          replace b3 := cell_later hw b3
          replace b4 := cell_later hw b4
          clear hw
          go_wp2_with fail
          go_ret
          exact ⟨by rw [← H7.out]; simp, hb⟩
      · have ho := H6.out rfl
        subst ho
        have hv := H7.out
        rw [Bool.and_eq_true] at hv
        obtain ⟨rfl, rfl⟩ := hv
        go_wp2_with fail
        refine (inside_is (s := (k, ⟨#[]⟩)) H0.out _).mono ?_
        rintro e w' ⟨rfl, hw⟩
        replace hb : Below w.heap.size w w' := Below.on hb hw
        replace b0 := cell_later hw b0
        replace b1 := cell_later hw b1
        replace b2 := cell_later hw b2
        replace b3 := cell_later hw b3
        replace b4 := cell_later hw b4
        clear hw
        go_wp2_with fail
        refine (inside_is (s := (al, ah)) H3.out _).mono ?_
        rintro e w' ⟨rfl, hw⟩
        replace hb : Below w.heap.size w w' := Below.on hb hw
        replace b0 := cell_later hw b0
        replace b1 := cell_later hw b1
        replace b2 := cell_later hw b2
        replace b3 := cell_later hw b3
        replace b4 := cell_later hw b4
        clear hw
        go_wp2_with fail
        refine (inside_is (s := (bl, bh)) H4.out _).mono ?_
        rintro e w' ⟨rfl, hw⟩
        replace hb : Below w.heap.size w w' := Below.on hb hw
        replace b0 := cell_later hw b0
        replace b1 := cell_later hw b1
        replace b2 := cell_later hw b2
        replace b3 := cell_later hw b3
        replace b4 := cell_later hw b4
        clear hw
        go_wp2_with fail
        go_ret
        exact ⟨by rw [← H7.out]; rfl, hb⟩

end Go.Proofs.Ytbgmbbmnnfmbpaa.Lk
