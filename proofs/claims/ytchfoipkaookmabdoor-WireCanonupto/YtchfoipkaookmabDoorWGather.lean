import Derived.Test.YtchfoipkaookmabDoorWCopy
import Derived.Test.YtchfoipkaookmabDoorWRaw
namespace Go.Proofs.YtchfoipkaookmabDoor
open Go.RowKit Go.Sort
set_option linter.unusedVariables false

set_option maxHeartbeats 1000000 in
theorem bytes_of {w : World} {A : Nat → Prop} {b o : Nat} {bs : List Nat} (h : EncAt w A b o bs) (hl : bs.length ≤ 281474976710656) :
    Calls Tryd.prog 15 #[.pointer (some ⟨b, o, none⟩)] w fun e w' => e = .returned (.string (ofNats bs)) ∧ Below w.heap.size w w' := by
  have hb8 := h.b8
  obtain ⟨-, ⟨cs, hcs, hch, -, c0⟩, c1, -⟩ := h
  obtain ⟨q, hq⟩ := ptrOf_ptr cs
  rw [hq] at c0
  have HQ := hid hq
  clear hq
  have HB := hid hb8
  have HCS := hid hcs
  have HH := hid hch
  have R0 := RoomAt.new w bs 5
  have hbl : b < w.heap.size := World.block_lt_of_cell? _ _ c0
  obtain ⟨n, hn⟩ : ∃ n, n = bs.length := ⟨_, rfl⟩
  have hmk := make_u8 w n n (Nat.le_refl _) (by omega)
  rw [← hn] at c1 R0
  have HN := hid hn
  obtain ⟨wa, hwa⟩ : ∃ wa, wa = w.alloc (.cells (madeCells (Value.int .u8 0).cells n) 5) := ⟨_, rfl⟩
  rw [← hwa] at R0 hmk
  have c0a : wa.cell? ⟨b, o, none⟩ = some (.pointer q) := cell_later R0.below c0
  have c1a : wa.cell? ⟨b, o + 1, none⟩ = some (.int .i64 (n : Int)) := cell_later R0.below c1
  clear hb8 hcs hch hwa hn
  go_enter Tryd.func15, Tryd.ntmps15
  go_wp2_with fail
  go_loopg [4, 5] cs.length (fun g s4 s5 wr => ∃ (cs' : List (Nat × List Nat)) (r : List Nat), g = cs'.length ∧ s4 = .int .i64 ((total cs').length : Int) ∧ s5 = ptrOf cs' ∧ Hid (Chain w cs' ∧ bs = total cs' ++ r ∧ RoomAt w wr n (total cs').length bs))
  case atStart =>
    refine ⟨cs, [], rfl, ?_, ?_, HH.out, ?_, ?_⟩
    · rw [HCS.out, ← HN.out]
    · rw [HQ.out]
    · rw [HCS.out, List.append_nil]
    · rw [HCS.out, ← HN.out]; exact R0
  case round =>
    obtain ⟨cs', r, rfl, rfl, rfl, H⟩ := hrel
    clear R0 hmk c0a c1a c0 c1 hbl
    cases cs' with
    | nil =>
      obtain ⟨-, -, hR⟩ := H.out
      have hcv := run_convert_bytes_arg (P := Tryd.prog) wr 63 5 Tryd.underlying63 Tryd.underlying5 w.heap.size 0 n n (bs.map Int.ofNat) (by rw [List.length_map, HN.out]) (fun i hi => by
        rw [Nat.zero_add, hR.ins i (Nat.zero_le _) hi]
        simp [List.getD]
        cases bs[i]? <;> rfl) 9 Tryd.underlying9
      rw [strOfNums_nats] at hcv
      have HB1 := hid hR.below
      clear hR H HH HCS HQ HN
      simp only [ptrOf]
      go_wp2_with fail
      go_ret
      exact ⟨rfl, HB1.out⟩
    | cons x cs' =>
      obtain ⟨g, t⟩ := x
      obtain ⟨⟨k0, k1, k2, k3⟩, hbs, hR⟩ := H.out
      obtain ⟨q', hq'⟩ := ptrOf_ptr cs'
      rw [hq'] at k0
      have HQ' := hid hq'
      clear hq'
      have hgR : ¬ g = w.heap.size := by have := World.block_lt_of_cell? _ _ k0; dsimp only at this; omega
      replace k0 := cell_later hR.below k0
      replace k1 := cell_later hR.below k1
      have hnl : n ≤ 281474976710656 := by rw [HN.out]; exact hl
      obtain ⟨m, hm⟩ : ∃ m, m = (total cs').length := ⟨_, rfl⟩
      have hlen : (total ((g, t) :: cs')).length = m + t.length := by rw [total, List.length_append, hm]
      have hbs' : bs = total cs' ++ (t ++ r) := by rw [hbs, total, List.append_assoc]
      have hmn : m + t.length ≤ n := by rw [HN.out, hbs', hm]; simp
      rw [hlen] at hR ⊢
      have hR' := hR.fill hbs' (by rw [hm]) HN.out
      rw [← hm] at hR'
      have hcp := fun ty => run_copy_text (P := Tryd.prog) wr.drew 63 9 ty 5 w.heap.size m (n - m) (n - m) t k2 Tryd.underlying63 Tryd.sizeU8 (by omega) (fun j hj => hR.some' _ (by omega)) (fun j hj => hR.loose _)
      have hts : ((ofNats t).size : Int) = (t.length : Int) := by rw [ofNats_size]
      have hsub : IntKind.i64.wrap (((m + t.length : Nat) : Int) - (t.length : Int)) = (m : Int) := by rw [IntKind.wrap_i64]; clear hlen; omega
      obtain ⟨wz, hwz⟩ : ∃ wz, wz = wr.drew.setCells w.heap.size m (vals t) := ⟨_, rfl⟩
      rw [← hwz] at hR' hcp
      have k0z : wz.cell? ⟨g, 0, none⟩ = some (.pointer q') := by
        rw [hwz, World.cell?_setCells_out _ _ _ _ _ (fun e _ => absurd e hgR)]; exact k0
      have HZ := hid hwz
      have HR' := hid hR'
      have HB' := hid hbs'
      have HM := hid hm
      have HK := hid k3
      have hglt : g < wr.heap.size := World.block_lt_of_cell? _ _ k0
      clear hR hR' hbs' hbs H hm k3 k2 hlen HH HCS HQ hwz
      simp only [ptrOf]
      obtain ⟨m', hm'⟩ : ∃ m' : Nat, m' = m + t.length := ⟨_, rfl⟩
      rw [← hm'] at hsub ⊢
      by_cases hlt : m < n
      · go_wp2_with fail
        go_region
        go_wp2_with fail
        go_roundg cs'.length
        case measure => simp
        case rel =>
          refine ⟨cs', t ++ r, rfl, by rw [HM.out], by rw [HQ'.out], HK.out, HB'.out, ?_⟩
          have := HR'.out
          rwa [HM.out] at this
      · have hmn' : m = n := by omega
        have ht0 : t = [] := List.eq_nil_of_length_eq_zero (by omega)
        subst ht0
        have e1 : wz = wr.drew := HZ.out
        have hcp0 : ∀ ty a, (Builtin.copy_ #[63, 9] ty #[.slice a 0 0, .string (ofNats [])]).run Tryd.prog wr.drew = .ok (goInt 0) wr.drew := by
          intro ty a
          obtain ⟨i0, hi, hz⟩ := Option.map_eq_some_iff.1 Tryd.sizeU8
          cases a <;> simp [Builtin.copy_, run_underlying Tryd.underlying63, Builtin.lenOf, Builtin.firstCells, sizeOf, typeInfo, hi, storeCells, ofNats]
        subst hmn'
        clear hcp
        go_wp2_with fail
        go_region
        go_wp2_with fail
        go_roundg cs'.length
        case measure => simp
        case rel =>
          refine ⟨cs', [] ++ r, rfl, by rw [HM.out], by rw [HQ'.out], HK.out, HB'.out, ?_⟩
          have := HR'.out
          rw [HM.out] at this
          rw [e1] at this; rw [← HM.out] at this ⊢; exact this

end Go.Proofs.YtchfoipkaookmabDoor
