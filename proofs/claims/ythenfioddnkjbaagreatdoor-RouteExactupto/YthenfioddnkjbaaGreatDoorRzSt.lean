import Derived.Test.YthenfioddnkjbaaGreatDoorRzMark
import Derived.Test.YthenfioddnkjbaaGreatDoorRCut
import Derived.Test.YthenfioddnkjbaaGreatDoorRTaking
import Derived.Test.YthenfioddnkjbaaGreatDoorRSharesW
import Derived.Test.YthenfioddnkjbaaGreatDoorBhWh
/- Lists of parts, of spans, of shares that are alike. -/
namespace Go.Proofs.YthenfioddnkjbaaGreatDoor.Rt
open Go.RowKit Go.Sort
set_option linter.unusedVariables false

theorem eqS2 (x : T2) (w : World) : (binOp .neq 49 (.agg #[.string x.1, .string x.2]) (.agg #[.string x.1, .string x.2])).run Tryz.prog w = .ok (.bool false) w := by
  simp [go_sem, Tryz.underlying49]

set_option maxHeartbeats 4000000 in
theorem sameS_is {a b : Option Addr} {c d : Nat} {xs : List T2} {w : World} (h1 : Row2 w a xs) (h2 : Row2 w b xs) (hl : xs.length ≤ 8796093022208) :
    Calls Tryz.prog 83 #[.slice a xs.length c, .slice b xs.length d] w fun e w' => e = .returned (.bool true) ∧ Below w.heap.size w w' := by
  have H1 := hid h1; have H2 := hid h2
  clear h1 h2
  go_enter Tryz.func83, Tryz.ntmps83
  go_wp2_with fail
  go_loopg [5] xs.length (fun g s5 wr => ∃ k : Nat, k ≤ xs.length ∧ g = xs.length - k ∧ s5 = .int .i64 k ∧ Hid (Below w.heap.size w wr))
  case atStart => exact ⟨0, by omega, by omega, rfl, hid (Below.refl _ _)⟩
  case round =>
    obtain ⟨k, hk, rfl, rfl, HK⟩ := hrel
    by_cases hlt : k < xs.length
    · obtain ⟨b1, o1, rfl, e0, e1⟩ := (H1.out.later HK.out) k hlt
      obtain ⟨b2, o2, rfl, f0, f1⟩ := (H2.out.later HK.out) k hlt
      obtain ⟨x, hx⟩ : ∃ x, x = nth2 xs k := ⟨_, rfl⟩
      rw [← hx] at e0 e1 f0 f1
      clear hx
      have k0 := cell_regrown e0; have k1 := cell_regrown e1
      have l0 := cell_regrown f0; have l1 := cell_regrown f1
      have heq := eqS2 x
      go_wp2_with fail
      refine wp_region_quiet_below (by kernel_rfl) (by kernel_rfl) ?_
      repeat (go_big_quiet_step (fail))
      refine wpQuiet_nil ?_
      intro wq hq
      replace hq := below_of_regrown hq
      have HQ := hid (Below.on HK.out hq)
      clear hq k0 k1 l0 l1
      go_wp2_with fail
      go_roundg (xs.length - (k + 1))
      case measure => omega
      case rel => exact ⟨k + 1, by omega, rfl, by go_num, HQ⟩
    · obtain rfl : k = xs.length := by omega
      go_wp2_with fail
      go_ret
      exact ⟨rfl, HK.out⟩

theorem eqA3 (x : Pt) (w : World) : (binOp .neq 129 (.agg #[.int .u32 (x.1 : Int), .string x.2.1, .string x.2.2]) (.agg #[.int .u32 (x.1 : Int), .string x.2.1, .string x.2.2])).run Tryz.prog w = .ok (.bool false) w := by
  simp [go_sem, Tryz.underlying129]

set_option maxHeartbeats 4000000 in
theorem sameA_is {a b : Option Addr} {c d : Nat} {xs : List Pt} {w : World} (h1 : RowP w a xs) (h2 : RowP w b xs) (hl : xs.length ≤ 8796093022208) :
    Calls Tryz.prog 28 #[.slice a xs.length c, .slice b xs.length d] w fun e w' => e = .returned (.bool true) ∧ Below w.heap.size w w' := by
  have H1 := hid h1; have H2 := hid h2
  clear h1 h2
  go_enter Tryz.func28, Tryz.ntmps28
  go_wp2_with fail
  go_loopg [5] xs.length (fun g s5 wr => ∃ k : Nat, k ≤ xs.length ∧ g = xs.length - k ∧ s5 = .int .i64 k ∧ Hid (Below w.heap.size w wr))
  case atStart => exact ⟨0, by omega, by omega, rfl, hid (Below.refl _ _)⟩
  case round =>
    obtain ⟨k, hk, rfl, rfl, HK⟩ := hrel
    by_cases hlt : k < xs.length
    · obtain ⟨b1, o1, rfl, e0, e1, e2⟩ := (H1.out.later HK.out) k hlt
      obtain ⟨b2, o2, rfl, f0, f1, f2⟩ := (H2.out.later HK.out) k hlt
      obtain ⟨x, hx⟩ : ∃ x, x = nthP xs k := ⟨_, rfl⟩
      rw [← hx] at e0 e1 e2 f0 f1 f2
      clear hx
      have k0 := cell_regrown e0; have k1 := cell_regrown e1; have k2 := cell_regrown e2
      have l0 := cell_regrown f0; have l1 := cell_regrown f1; have l2 := cell_regrown f2
      have heq := eqA3 x
      go_wp2_with fail
      refine wp_region_quiet_below (by kernel_rfl) (by kernel_rfl) ?_
      repeat (go_big_quiet_step (fail))
      refine wpQuiet_nil ?_
      intro wq hq
      replace hq := below_of_regrown hq
      have HQ := hid (Below.on HK.out hq)
      clear hq k0 k1 k2 l0 l1 l2
      go_wp2_with fail
      go_roundg (xs.length - (k + 1))
      case measure => omega
      case rel => exact ⟨k + 1, by omega, rfl, by go_num, HQ⟩
    · obtain rfl : k = xs.length := by omega
      go_wp2_with fail
      go_ret
      exact ⟨rfl, HK.out⟩


set_option maxHeartbeats 4000000 in
theorem sameSh_is {a b : Option Addr} {c d : Nat} {xs : List Sh} {w : World} (h1 : RowSh w a xs) (h2 : RowSh w b xs) (hl : xs.length ≤ 1073741824) (hn : ∀ i, i < xs.length → (nthSh xs i).2.1.length ≤ 1073741824 ∧ (nthSh xs i).2.2.length ≤ 1073741824) :
    Calls Tryz.prog 34 #[.slice a xs.length c, .slice b xs.length d] w fun e w' => e = .returned (.bool true) ∧ Below w.heap.size w w' := by
  have H1 := hid h1; have H2 := hid h2; have HN := hid hn
  clear h1 h2 hn
  go_enter Tryz.func34, Tryz.ntmps34
  go_wp2_with fail
  go_loopg [5] xs.length (fun g s5 wr => ∃ k : Nat, k ≤ xs.length ∧ g = xs.length - k ∧ s5 = .int .i64 k ∧ Hid (Below w.heap.size w wr))
  case atStart => exact ⟨0, by omega, by omega, rfl, hid (Below.refl _ _)⟩
  case round =>
    obtain ⟨k, hk, rfl, rfl, HK⟩ := hrel
    by_cases hlt : k < xs.length
    · obtain ⟨b1, o1, ra1, rc1, wa1, wc1, rfl, e0, e1, e2, e3, e4⟩ := (H1.out.later HK.out) k hlt
      obtain ⟨b2, o2, ra2, rc2, wa2, wc2, rfl, f0, f1, f2, f3, f4⟩ := (H2.out.later HK.out) k hlt
      have S1 : Hid (∀ ws, Below wr.heap.size wr ws → Calls Tryz.prog 83 #[.slice ra1 (nthSh xs k).2.1.length rc1, .slice ra2 (nthSh xs k).2.1.length rc2] ws fun e w'' => e = .returned (.bool true) ∧ Below ws.heap.size ws w'') := hid (fun ws hb => sameS_is (e3.later hb) (f3.later hb) (by have := (HN.out k hlt).1; omega))
      have S2 : Hid (∀ ws, Below wr.heap.size wr ws → Calls Tryz.prog 84 #[.slice wa1 (nthSh xs k).2.2.length wc1, .slice wa2 (nthSh xs k).2.2.length wc2] ws fun e w'' => e = .returned (.bool true) ∧ Below ws.heap.size ws w'') := hid (fun ws hb => sameW_is (e4.later hb) (f4.later hb) (by have := (HN.out k hlt).2; omega))
      generalize (nthSh xs k).2.1.length = n1 at e1 f1 S1
      generalize (nthSh xs k).2.2.length = n2 at e2 f2 S2
      generalize (nthSh xs k).1 = n0 at e0 f0
      clear e3 e4 f3 f4
      have k0 := cell_regrown e0; have k1 := cell_regrown e1; have k2 := cell_regrown e2
      have l0 := cell_regrown f0; have l1 := cell_regrown f1; have l2 := cell_regrown f2
      go_wp2_with fail
      refine wp_region_quiet_below (by kernel_rfl) (by kernel_rfl) ?_
      repeat (go_big_quiet_step (first | (go_at_call 83; exact Calls.regrown_of (S1.out _ (below_of_regrown ⟨⟨_, _⟩, rfl⟩))) | (go_at_call 84; exact Calls.regrown_of (S2.out _ (below_of_regrown ⟨⟨_, _⟩, rfl⟩)))))
      refine wpQuiet_nil ?_
      intro wq hq
      replace hq := below_of_regrown hq
      have HQ := hid (Below.on HK.out hq)
      clear hq k0 k1 k2 l0 l1 l2
      go_wp2_with fail
      go_roundg (xs.length - (k + 1))
      case measure => omega
      case rel => exact ⟨k + 1, by omega, rfl, by go_num, HQ⟩
    · obtain rfl : k = xs.length := by omega
      go_wp2_with fail
      go_ret
      exact ⟨rfl, HK.out⟩
end Go.Proofs.YthenfioddnkjbaaGreatDoor.Rt
/- The four kinds of lists of law 12. -/
namespace Go.Proofs.YthenfioddnkjbaaGreatDoor.Bg
open Go.RowKit Go.Sort Go.Proofs.YthenfioddnkjbaaGreatDoor Go.Proofs.YthenfioddnkjbaaGreatDoor.Rt
set_option linter.unusedVariables false

abbrev elT : El (ByteArray) := ⟨9, 23, 1, 16, .string ⟨#[]⟩, fun x => [.string x]⟩
theorem infoBT : (Tryz.prog.info? 9).map (fun i => (i.zero, i.size, i.bytes)) = some (some (.string ⟨#[]⟩), 1, 16) := by kernel_rfl
theorem infoLT : (Tryz.prog.info? 23).map (fun i => (i.zero, i.size, i.bytes)) = some (some (.slice none 0 0), 1, 24) := by kernel_rfl
theorem okT : elT.Ok := ⟨Tryz.underlying23, info_ofR infoBT, fun _ => rfl, fun x u hu => by
  simp at hu
  rcases hu with rfl <;> rfl, by decide, rfl, by decide⟩
theorem okT2 : elT.Ok2 33 := ⟨Tryz.underlying33, info_ofR infoLT⟩
abbrev elA : El (Pt) := ⟨129, 70, 3, 40, .agg #[.int .u32 0, .string ⟨#[]⟩, .string ⟨#[]⟩], fun x => [.int .u32 (x.1 : Int), .string x.2.1, .string x.2.2]⟩
theorem infoBA : (Tryz.prog.info? 129).map (fun i => (i.zero, i.size, i.bytes)) = some (some (.agg #[.int .u32 0, .string ⟨#[]⟩, .string ⟨#[]⟩]), 3, 40) := by kernel_rfl
theorem infoLA : (Tryz.prog.info? 70).map (fun i => (i.zero, i.size, i.bytes)) = some (some (.slice none 0 0), 1, 24) := by kernel_rfl
theorem okA : elA.Ok := ⟨Tryz.underlying70, info_ofR infoBA, fun _ => rfl, fun x u hu => by
  simp at hu
  rcases hu with rfl | rfl | rfl <;> rfl, by decide, rfl, by decide⟩
theorem okA2 : elA.Ok2 36 := ⟨Tryz.underlying36, info_ofR infoLA⟩
abbrev elS : El (T2) := ⟨49, 50, 2, 32, .agg #[.string ⟨#[]⟩, .string ⟨#[]⟩], fun x => [.string x.1, .string x.2]⟩
theorem infoBS : (Tryz.prog.info? 49).map (fun i => (i.zero, i.size, i.bytes)) = some (some (.agg #[.string ⟨#[]⟩, .string ⟨#[]⟩]), 2, 32) := by kernel_rfl
theorem infoLS : (Tryz.prog.info? 50).map (fun i => (i.zero, i.size, i.bytes)) = some (some (.slice none 0 0), 1, 24) := by kernel_rfl
theorem okS : elS.Ok := ⟨Tryz.underlying50, info_ofR infoBS, fun _ => rfl, fun x u hu => by
  simp at hu
  rcases hu with rfl | rfl <;> rfl, by decide, rfl, by decide⟩
theorem okS2 : elS.Ok2 39 := ⟨Tryz.underlying39, info_ofR infoLS⟩
abbrev elW : El (Wr) := ⟨135, 51, 3, 40, .agg #[.string ⟨#[]⟩, .bool false, .string ⟨#[]⟩], fun x => [.string x.key, .bool x.del, .string x.val]⟩
theorem infoBW : (Tryz.prog.info? 135).map (fun i => (i.zero, i.size, i.bytes)) = some (some (.agg #[.string ⟨#[]⟩, .bool false, .string ⟨#[]⟩]), 3, 40) := by kernel_rfl
theorem infoLW : (Tryz.prog.info? 51).map (fun i => (i.zero, i.size, i.bytes)) = some (some (.slice none 0 0), 1, 24) := by kernel_rfl
theorem okW : elW.Ok := ⟨Tryz.underlying51, info_ofR infoBW, fun _ => rfl, fun x u hu => by
  simp at hu
  rcases hu with rfl | rfl | rfl <;> rfl, by decide, rfl, by decide⟩
theorem okW2 : elW.Ok2 42 := ⟨Tryz.underlying42, info_ofR infoLW⟩
/-- an append whose run is known, as one step of a region that draws -/
theorem step_append_runB {P : Program} {ops : Array Oper} {o : Oper} {a : Act} {w : World} {K : Act → World → Prop} {Q : Exit → Act → World → Prop} {E : Prop}
    (hg : o.guard = none) (s x : Operand) (dT sT : TypeId) (hop : o.op = Op.call { callee := Callee.builtin Builtin.append, args := #[s, x], argTypes := #[dT, sT] })
    (v u : Value) (hd : a.eval s = v) (hx : a.eval x = u) {v' : Value} {w' : World} (hr : (Builtin.append_ #[dT, sT] o.type #[v, u]).run P w = .ok v' w') (hK : K (a.put o.dst v') w') :
    if Region.wanted o (yielded ops a.tmps) = true then Oper.wp P o a w K Q else E := by
  have hw : Region.wanted o (yielded ops a.tmps) = true := by simp [Region.wanted, hg]
  rw [if_pos hw]
  unfold Oper.wp
  simp [execOp, hop, resolve, invoke, builtin, hd, hx, hr, Result.andThen]
  exact hK
theorem rowT_of {w : World} {a : Option Addr} {n c : Nat} {xs : List (ByteArray)} (h : Rd elT w (.slice a n c) xs) : RowS w a xs := fun i hi => by
  obtain ⟨b, off, e, hc⟩ := h.el okT (List.getElem?_eq_getElem hi)
  refine ⟨b, off, e, ?_⟩
  have e1 : nthS xs i = xs[i] := by simp [nthS, List.getElem?_eq_getElem hi]
  rw [e1]
  exact (by have := hc 0 _ rfl; simpa using this)
theorem sameT_at {w : World} {a b : Option Addr} {n m c d : Nat} {xs : List (ByteArray)} (h : Rd elT w (.slice a n c) xs) (k : Rd elT w (.slice b m d) xs) (hl : xs.length ≤ 1073741824) :
    Calls Tryz.prog 63 #[.slice a xs.length c, .slice b xs.length d] w fun e w' => e = .returned (.bool true) ∧ Below w.heap.size w w' :=
  sameT_is (rowT_of h) (rowT_of k) (by omega)
theorem rowA_of {w : World} {a : Option Addr} {n c : Nat} {xs : List (Pt)} (h : Rd elA w (.slice a n c) xs) : RowP w a xs := fun i hi => by
  obtain ⟨b, off, e, hc⟩ := h.el okA (List.getElem?_eq_getElem hi)
  refine ⟨b, off, e, ?_⟩
  have e1 : nthP xs i = xs[i] := by simp [nthP, List.getElem?_eq_getElem hi]
  rw [e1]
  exact ⟨hc 0 _ rfl, hc 1 _ rfl, hc 2 _ rfl⟩
theorem sameA_at {w : World} {a b : Option Addr} {n m c d : Nat} {xs : List (Pt)} (h : Rd elA w (.slice a n c) xs) (k : Rd elA w (.slice b m d) xs) (hl : xs.length ≤ 1073741824) :
    Calls Tryz.prog 28 #[.slice a xs.length c, .slice b xs.length d] w fun e w' => e = .returned (.bool true) ∧ Below w.heap.size w w' :=
  sameA_is (rowA_of h) (rowA_of k) (by omega)
theorem rowS_of {w : World} {a : Option Addr} {n c : Nat} {xs : List (T2)} (h : Rd elS w (.slice a n c) xs) : Row2 w a xs := fun i hi => by
  obtain ⟨b, off, e, hc⟩ := h.el okS (List.getElem?_eq_getElem hi)
  refine ⟨b, off, e, ?_⟩
  have e1 : nth2 xs i = xs[i] := by simp [nth2, List.getElem?_eq_getElem hi]
  rw [e1]
  exact ⟨hc 0 _ rfl, hc 1 _ rfl⟩
theorem sameS_at {w : World} {a b : Option Addr} {n m c d : Nat} {xs : List (T2)} (h : Rd elS w (.slice a n c) xs) (k : Rd elS w (.slice b m d) xs) (hl : xs.length ≤ 1073741824) :
    Calls Tryz.prog 83 #[.slice a xs.length c, .slice b xs.length d] w fun e w' => e = .returned (.bool true) ∧ Below w.heap.size w w' :=
  sameS_is (rowS_of h) (rowS_of k) (by omega)
theorem rowW_of {w : World} {a : Option Addr} {n c : Nat} {xs : List (Wr)} (h : Rd elW w (.slice a n c) xs) : RowW w a xs := fun i hi => by
  obtain ⟨b, off, e, hc⟩ := h.el okW (List.getElem?_eq_getElem hi)
  refine ⟨b, off, e, ?_⟩
  have e1 : nthW xs i = xs[i] := by simp [nthW, List.getElem?_eq_getElem hi]
  rw [e1]
  exact ⟨hc 0 _ rfl, hc 1 _ rfl, hc 2 _ rfl⟩
theorem sameW_at {w : World} {a b : Option Addr} {n m c d : Nat} {xs : List (Wr)} (h : Rd elW w (.slice a n c) xs) (k : Rd elW w (.slice b m d) xs) (hl : xs.length ≤ 1073741824) :
    Calls Tryz.prog 84 #[.slice a xs.length c, .slice b xs.length d] w fun e w' => e = .returned (.bool true) ∧ Below w.heap.size w w' :=
  sameW_is (rowW_of h) (rowW_of k) (by omega)
end Go.Proofs.YthenfioddnkjbaaGreatDoor.Bg
/- The law's book: lists of four kinds. -/
namespace Go.Proofs.YthenfioddnkjbaaGreatDoor.Bg
open Go.RowKit Go.Sort Go.Proofs.YthenfioddnkjbaaGreatDoor Go.Proofs.YthenfioddnkjbaaGreatDoor.Rt
set_option linter.unusedVariables false

/-- a row of one's own is a row -/
theorem owns_rowF {α : Type} {E : El α} (hE : E.Ok) {w : World} {B : Nat} {v : Value} {xs : List α} (h : w.ownsRow B E.ty E.k v xs.length (E.flat xs)) : RowF E w B v xs := by
  obtain ⟨hl, ⟨rfl, e⟩ | ⟨g, cap, cur, rfl, hg, hb, hn, hc, hs, ht⟩⟩ := h
  · exact .inl ⟨rfl, List.eq_nil_of_length_eq_zero e⟩
  · refine .inr ⟨g, 0, cap, rfl, hg, ⟨⟨cur, hb⟩, hn, hc, fun j u hj => ?_, fun j hj => ?_⟩⟩
    · rw [Nat.zero_add]
      refine cell_obj hb ?_
      rw [← ht, List.getElem?_take] at hj
      by_cases h1 : j < xs.length * E.k
      · rw [if_pos h1] at hj; simpa using hj
      · rw [if_neg h1] at hj; cases hj
    · rw [Nat.zero_add]
      have h1 : j < cur.size := by rw [hs]; exact hj
      rw [cell_obj hb (Array.getElem?_eq_getElem h1)]; rfl
section
variable {α : Type} {E : El α} {M : Nat → Nat → α} {T : TypeId}
theorem Bq.onl {W w w' : World} {b oo d m : Nat} {c c' : Nat → Nat} {s : Bv α} {S : Nat → Prop} (h : Bq E M T W w b oo d c s m) (ho : Onl (fun k => S (c k)) w w') (hS : ∀ q, q ≠ 28 → (8 ≤ q ∧ q < 28 ∨ 64 ≤ q) → q % 4 = d → ¬ S q) (hob : Obj4 T w' b)
    (hcs : ∀ o, oo ≤ o → o < oo + 4 → w'.cell? ⟨b, o, none⟩ = w.cell? ⟨b, o, none⟩) (hc : ∀ k, k < w.heap.size → c k = 28 ∨ (8 ≤ c k ∧ c k < 28 ∨ 64 ≤ c k) ∧ c k % 4 = d → c' k = c k) : Bq E M T W w' b oo d c' s m :=
  ⟨h.bk.onl ho hS hob hcs hc, h.L, h.XY, h.x, h.M, h.le⟩
theorem Bq.mono {W w : World} {b oo d m n : Nat} {c : Nat → Nat} {s : Bv α} (h : Bq E M T W w b oo d c s m) (hn : m ≤ n) : Bq E M T W w b oo d c s n := ⟨h.bk, h.L, h.XY, h.x, h.M, Nat.le_trans h.le hn⟩
/-- what is new gets any colours -/
theorem Bq.later {W w w' : World} {b oo d m : Nat} {c c' : Nat → Nat} {s : Bv α} (h : Bq E M T W w b oo d c s m) (hb : Below w.heap.size w w') (hc : ∀ k, k < w.heap.size → c' k = c k) : Bq E M T W w' b oo d c' s m :=
  h.onl (S := fun _ => False) (Onl.of_below hb) (fun _ _ _ _ h => h) (h.bk.obj.keep (hb.block b h.bk.lt)) (fun o _ _ => World.cell?_of_block (a := ⟨b, o, none⟩) (hb.block b h.bk.lt)) (fun k hk _ => hc k hk)
/-- another book is settled, or looked through -/
theorem Bq.beside {W w w' : World} {b oo d m oo' d' : Nat} {c c' : Nat → Nat} {s : Bv α} (h : Bq E M T W w b oo d c s m) (ho : Onl (fun k => Mn d' (c k)) w w') (col : ∀ k, k < w.heap.size → ¬ (64 ≤ c k ∧ c k % 4 = d') → c' k = c k) (oc : Oc w w' b oo') (hob : Obj4 T w' b) (hd : d ≠ d') (hd4 : d < 4) (hoo : oo + 4 ≤ oo' ∨ oo' + 4 ≤ oo) : Bq E M T W w' b oo d c' s m :=
  h.onl (S := Mn d') ho (fun q h1 h2 h3 h4 => by unfold Mn at h4; omega) hob (fun o h1 h2 => oc o (by omega)) (fun k hk e => col k hk (by omega))
/-- a list goes into another book -/
theorem Bq.aside {W w w' : World} {b oo d m oo' d' q : Nat} {c c' : Nat → Nat} {s : Bv α} (h : Bq E M T W w b oo d c s m) (ho : Onl (fun k => c k = 8 + d' ∨ c k = 12 + d' ∨ c k = 28) w w') (col : ∀ k, k < w.heap.size → c k ≠ q → c' k = c k) (oc : ∀ o, o < oo' ∨ oo' + 4 ≤ o → w'.cell? ⟨b, o, none⟩ = w.cell? ⟨b, o, none⟩) (hob : Obj4 T w' b) (hd : d ≠ d') (hd4 : d < 4 ∧ d' < 4) (hq : 32 ≤ q ∧ q < 64) (hoo : oo + 4 ≤ oo' ∨ oo' + 4 ≤ oo) : Bq E M T W w' b oo d c' s m :=
  h.onl (S := fun k => k = 8 + d' ∨ k = 12 + d' ∨ k = 28) ho (fun q h1 h2 h3 h4 => by omega) hob (fun o h1 h2 => oc o (by omega)) (fun k hk e => col k hk (by omega))
theorem Kp.bq {W w w' : World} {b oo d q m : Nat} {c c' : Nat → Nat} {s s' : Bv α} {xs : List α} (h : Bq E M T W w b oo d c s m) (k : Kp E M T w w' W.heap.size b oo d c c' s s' q xs) (hx : xs.length ≤ 1073741824) : Bq E M T W w' b oo d c' s' (m + 1) := by
  have lx := h.bk.lx
  have ly := h.bk.ly
  refine ⟨k.bk, by rw [k.L, k.N]; exact h.L, fun i hi => ?_, fun i hi => ?_, by rw [k.N]; exact h.M, by rw [k.N, k.F]; have := h.le; omega⟩
  · rw [k.F] at hi
    rw [k.X, k.Y, nthX_app, nthX_app, lx, ly]
    by_cases h1 : i < s.F.length
    · rw [if_pos h1, if_pos h1]; exact h.XY i h1
    · rw [if_neg h1, if_neg h1]
  · rw [k.F] at hi
    rw [k.X, nthX_app, lx]
    by_cases h1 : i < s.F.length
    · rw [if_pos h1]; exact h.x i h1
    · rw [if_neg h1, if_pos (by omega)]; exact hx
end
abbrev TB : TypeId := 46
structure B4v where
  t : Bv ByteArray
  a : Bv Pt
  s : Bv T2
  v : Bv Wr
structure B4 (W w : World) (c : Nat → Nat) (b : Nat) (x : B4v) (m : Nat) : Prop where
  t : Bq elT mkB TB W w b 0 0 c x.t m
  a : Bq elA mA TB W w b 4 1 c x.a m
  s : Bq elS mS TB W w b 8 2 c x.s m
  v : Bq elW mW TB W w b 12 3 c x.v m
  bl : Below W.heap.size W w
section
variable {W w w' : World} {c c' : Nat → Nat} {b m : Nat} {x : B4v}
theorem B4.later (h : B4 W w c b x m) (hb : Below w.heap.size w w') (hc : ∀ k, k < w.heap.size → c' k = c k) : B4 W w' c' b x m :=
  ⟨h.t.later hb hc, h.a.later hb hc, h.s.later hb hc, h.v.later hb hc, Below.on h.bl hb⟩
theorem B4.mono (h : B4 W w c b x m) {n : Nat} (hn : m ≤ n) : B4 W w c b x n := ⟨h.t.mono hn, h.a.mono hn, h.s.mono hn, h.v.mono hn, h.bl⟩
theorem B4.lt (h : B4 W w c b x m) : b < w.heap.size := h.t.bk.lt
theorem B4.obj (h : B4 W w c b x m) : Obj4 TB w b := h.t.bk.obj
theorem B4.wdT (h : B4 W w c b x m) {s' : Bv (ByteArray)} (k : Wd elT mkB TB W w w' b 0 0 c c' x.t s' m) : B4 W w' c' b { x with t := s' } m :=
  ⟨k.bq, h.a.beside k.onl k.col k.oc k.bq.bk.obj (by decide) (by decide) (by decide), h.s.beside k.onl k.col k.oc k.bq.bk.obj (by decide) (by decide) (by decide), h.v.beside k.onl k.col k.oc k.bq.bk.obj (by decide) (by decide) (by decide), h.bl.trans k.bl⟩
theorem B4.kpT (h : B4 W w c b x m) {s' : Bv (ByteArray)} {q : Nat} {xs : List (ByteArray)} (k : Kp elT mkB TB w w' W.heap.size b 0 0 c c' x.t s' q xs) (hq : 32 ≤ q ∧ q < 64) (hx : xs.length ≤ 1073741824) : B4 W w' c' b { x with t := s' } (m + 1) :=
  ⟨k.bq h.t hx, (h.a.aside k.onl k.col k.oc k.bk.obj (by decide) (by decide) hq (by decide)).mono (Nat.le_succ _), (h.s.aside k.onl k.col k.oc k.bk.obj (by decide) (by decide) hq (by decide)).mono (Nat.le_succ _), (h.v.aside k.onl k.col k.oc k.bk.obj (by decide) (by decide) hq (by decide)).mono (Nat.le_succ _), h.bl.trans k.bl⟩
theorem B4.wdA (h : B4 W w c b x m) {s' : Bv (Pt)} (k : Wd elA mA TB W w w' b 4 1 c c' x.a s' m) : B4 W w' c' b { x with a := s' } m :=
  ⟨h.t.beside k.onl k.col k.oc k.bq.bk.obj (by decide) (by decide) (by decide), k.bq, h.s.beside k.onl k.col k.oc k.bq.bk.obj (by decide) (by decide) (by decide), h.v.beside k.onl k.col k.oc k.bq.bk.obj (by decide) (by decide) (by decide), h.bl.trans k.bl⟩
theorem B4.kpA (h : B4 W w c b x m) {s' : Bv (Pt)} {q : Nat} {xs : List (Pt)} (k : Kp elA mA TB w w' W.heap.size b 4 1 c c' x.a s' q xs) (hq : 32 ≤ q ∧ q < 64) (hx : xs.length ≤ 1073741824) : B4 W w' c' b { x with a := s' } (m + 1) :=
  ⟨(h.t.aside k.onl k.col k.oc k.bk.obj (by decide) (by decide) hq (by decide)).mono (Nat.le_succ _), k.bq h.a hx, (h.s.aside k.onl k.col k.oc k.bk.obj (by decide) (by decide) hq (by decide)).mono (Nat.le_succ _), (h.v.aside k.onl k.col k.oc k.bk.obj (by decide) (by decide) hq (by decide)).mono (Nat.le_succ _), h.bl.trans k.bl⟩
theorem B4.wdS (h : B4 W w c b x m) {s' : Bv (T2)} (k : Wd elS mS TB W w w' b 8 2 c c' x.s s' m) : B4 W w' c' b { x with s := s' } m :=
  ⟨h.t.beside k.onl k.col k.oc k.bq.bk.obj (by decide) (by decide) (by decide), h.a.beside k.onl k.col k.oc k.bq.bk.obj (by decide) (by decide) (by decide), k.bq, h.v.beside k.onl k.col k.oc k.bq.bk.obj (by decide) (by decide) (by decide), h.bl.trans k.bl⟩
theorem B4.kpS (h : B4 W w c b x m) {s' : Bv (T2)} {q : Nat} {xs : List (T2)} (k : Kp elS mS TB w w' W.heap.size b 8 2 c c' x.s s' q xs) (hq : 32 ≤ q ∧ q < 64) (hx : xs.length ≤ 1073741824) : B4 W w' c' b { x with s := s' } (m + 1) :=
  ⟨(h.t.aside k.onl k.col k.oc k.bk.obj (by decide) (by decide) hq (by decide)).mono (Nat.le_succ _), (h.a.aside k.onl k.col k.oc k.bk.obj (by decide) (by decide) hq (by decide)).mono (Nat.le_succ _), k.bq h.s hx, (h.v.aside k.onl k.col k.oc k.bk.obj (by decide) (by decide) hq (by decide)).mono (Nat.le_succ _), h.bl.trans k.bl⟩
theorem B4.wdW (h : B4 W w c b x m) {s' : Bv (Wr)} (k : Wd elW mW TB W w w' b 12 3 c c' x.v s' m) : B4 W w' c' b { x with v := s' } m :=
  ⟨h.t.beside k.onl k.col k.oc k.bq.bk.obj (by decide) (by decide) (by decide), h.a.beside k.onl k.col k.oc k.bq.bk.obj (by decide) (by decide) (by decide), h.s.beside k.onl k.col k.oc k.bq.bk.obj (by decide) (by decide) (by decide), k.bq, h.bl.trans k.bl⟩
theorem B4.kpW (h : B4 W w c b x m) {s' : Bv (Wr)} {q : Nat} {xs : List (Wr)} (k : Kp elW mW TB w w' W.heap.size b 12 3 c c' x.v s' q xs) (hq : 32 ≤ q ∧ q < 64) (hx : xs.length ≤ 1073741824) : B4 W w' c' b { x with v := s' } (m + 1) :=
  ⟨(h.t.aside k.onl k.col k.oc k.bk.obj (by decide) (by decide) hq (by decide)).mono (Nat.le_succ _), (h.a.aside k.onl k.col k.oc k.bk.obj (by decide) (by decide) hq (by decide)).mono (Nat.le_succ _), (h.s.aside k.onl k.col k.oc k.bk.obj (by decide) (by decide) hq (by decide)).mono (Nat.le_succ _), k.bq h.v hx, h.bl.trans k.bl⟩
end
end Go.Proofs.YthenfioddnkjbaaGreatDoor.Bg
