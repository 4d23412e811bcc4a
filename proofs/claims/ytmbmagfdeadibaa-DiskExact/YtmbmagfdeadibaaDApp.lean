import Derived.Test.YtmbmagfdeadibaaDRefRead
namespace Go.Proofs.Ytmbmagfdeadibaa
open Go.RowKit Go.Sort
set_option linter.unusedVariables false

/-- fresh bytes: none is sure -/
def loose (t : List Nat) : List Cc := t.map fun b => ⟨b, false⟩
theorem loose_append (t u : List Nat) : loose (t ++ u) = loose t ++ loose u := by simp [loose]
theorem loose_snoc {t : List Nat} {k c : Nat} {l : List Cc} (h : t[k]? = some c) : l ++ loose (t.take (k + 1)) = l ++ loose (t.take k) ++ [⟨c, false⟩] := by
  have hk : k < t.length := (List.getElem?_eq_some_iff.1 h).1
  have he : t[k] = c := (List.getElem?_eq_some_iff.1 h).2
  rw [List.take_succ_eq_append_getElem hk, loose_append, he, List.append_assoc]
  rfl
theorem loose_length (t : List Nat) : (loose t).length = t.length := by simp [loose]
/-- y is x behind calls: the same disk, with these rows -/
structure Then (w w' : World) (x y : Rf) (r0 r1 : List Cc) : Prop where
  at' : RefD w' y
  p : y.p = x.p
  cap : y.cap = x.cap
  r0 : y.r 0 = r0
  r1 : y.r 1 = r1
  onl : Onl x.has w w'
  new : ∀ k, y.has k → x.has k ∨ w.heap.size ≤ k
theorem Then.start {w : World} {x : Rf} (h : RefD w x) : Then w w x x (x.r 0) (x.r 1) := ⟨h, rfl, rfl, rfl, rfl, Onl.refl _ _, fun k hk => .inl hk⟩
theorem Then.later {w w' w2 : World} {x y : Rf} {r0 r1 : List Cc} (h : Then w w' x y r0 r1) (hb : Below w'.heap.size w' w2) : Then w w2 x y r0 r1 := ⟨h.at'.later hb, h.p, h.cap, h.r0, h.r1, h.onl.on hb, h.new⟩
theorem Then.rows {w w' : World} {x y : Rf} {r0 r1 q0 q1 : List Cc} (h : Then w w' x y r0 r1) (e0 : r0 = q0) (e1 : r1 = q1) : Then w w' x y q0 q1 := by subst e0 e1; exact h
theorem Then.and {w w' w2 : World} {x y z : Rf} {r0 r1 q0 q1 : List Cc} (h : Then w w' x y r0 r1) (k : Then w' w2 y z q0 q1) : Then w w2 x z q0 q1 :=
  ⟨k.at', k.p.trans h.p, k.cap.trans h.cap, k.r0, k.r1, h.onl.fresh k.onl h.new, fun i hi => by
    rcases k.new i hi with h1 | h1
    · exact h.new i h1
    · exact .inr (Nat.le_trans h.onl.size h1)⟩

theorem ofNats_get' {l : List Nat} (h : B8 l) (i : Nat) (hi : i < (ofNats l).size) : ((ofNats l)[i]'hi).toNat = l.getD i 0 := by
  have hl : i < l.length := by rw [ofNats_size] at hi; exact hi
  have e : (ofNats l)[i]'hi = UInt8.ofNat l[i] := by
    show (ofNats l).data[i]'_ = _
    simp [ofNats]
  have h2 : l.getD i 0 = l[i] := by simp [List.getD, hl]
  rw [e, UInt8.toNat_ofNat', h2]
  have := h _ (List.getElem_mem hl)
  omega
/-- a text's byte -/
theorem index_ofNats {t : List Nat} {k c : Nat} (ht : B8 t) (hc : t[k]? = some c) (w : World) : (Instr.index 9 (.string (ofNats t)) (.int .i64 (k : Int))).run Try.prog w = .ok (.int .u8 (c : Int)) w := by
  have hk : k < t.length := (List.getElem?_eq_some_iff.1 hc).1
  have hd : t.getD k 0 = c := by simp [List.getD, hc]
  rw [run_index_string w 9 (ofNats t) .i64 k Try.underlying9, dif_pos (by rw [ofNats_size]; omega)]
  have := ofNats_get' ht k (by rw [ofNats_size]; exact hk)
  rw [hd] at this
  simp [this]
/-- a cell more at slot 0 or 1 -/
theorem RefD.more0 {w wa w1 : World} {y : Rf} {c : Cc} {g cap : Nat} (h : RefD w y) (hb : Below w.heap.size w wa) (hg : wa.grownBy w1 (y.v 0).ownBlock) (ho : w1.ownsRow 0 72 2 (.slice (some ⟨g, 0, none⟩) ((y.r 0).length + 1) cap) ((y.r 0).length + 1) (flatC (y.r 0) ++ c.cs))
    (hat : (y.v 0).ownBlock = some g ∨ g = wa.heap.size) (hu : (y.r 0).length + 1 + (y.r 1).length ≤ y.cap) : ∃ z, Then w (w1.setCell ⟨y.p, 1, none⟩ (.slice (some ⟨g, 0, none⟩) ((y.r 0).length + 1) cap)) y z (y.r 0 ++ [c]) (y.r 1) := by
  have hl : (y.r 0 ++ [c]).length = (y.r 0).length + 1 := by simp
  have hv : w1.ownsRow 0 72 2 (.slice (some ⟨g, 0, none⟩) ((y.r 0).length + 1) cap) (y.r 0 ++ [c]).length (flatC (y.r 0 ++ [c])) := by rw [hl, flatC_append, flatC_one]; exact ho
  obtain ⟨k1, k2, k3⟩ := (h.later hb).put0 (grown_onl hg) hv (fun g' hg' => by
    simp only [Value.ownBlock, Option.some.injEq] at hg'
    subst hg'
    exact hat.imp id (fun e => by omega)) (by rw [hl]; exact hu)
  exact ⟨_, k1, rfl, rfl, rfl, rfl, (Onl.of_below hb).trans k2, fun k hk => by
    rcases k3 k hk with h1 | h1
    · exact .inl h1
    · exact .inr (Nat.le_trans hb.size h1)⟩
theorem RefD.more1 {w wa w1 : World} {y : Rf} {c : Cc} {g cap : Nat} (h : RefD w y) (hb : Below w.heap.size w wa) (hg : wa.grownBy w1 (y.v 1).ownBlock) (ho : w1.ownsRow 0 72 2 (.slice (some ⟨g, 0, none⟩) ((y.r 1).length + 1) cap) ((y.r 1).length + 1) (flatC (y.r 1) ++ c.cs))
    (hat : (y.v 1).ownBlock = some g ∨ g = wa.heap.size) (hu : (y.r 0).length + ((y.r 1).length + 1) ≤ y.cap) : ∃ z, Then w (w1.setCell ⟨y.p, 2, none⟩ (.slice (some ⟨g, 0, none⟩) ((y.r 1).length + 1) cap)) y z (y.r 0) (y.r 1 ++ [c]) := by
  have hl : (y.r 1 ++ [c]).length = (y.r 1).length + 1 := by simp
  have hv : w1.ownsRow 0 72 2 (.slice (some ⟨g, 0, none⟩) ((y.r 1).length + 1) cap) (y.r 1 ++ [c]).length (flatC (y.r 1 ++ [c])) := by rw [hl, flatC_append, flatC_one]; exact ho
  obtain ⟨k1, k2, k3⟩ := (h.later hb).put1 (grown_onl hg) hv (fun g' hg' => by
    simp only [Value.ownBlock, Option.some.injEq] at hg'
    subst hg'
    exact hat.imp id (fun e => by omega)) (by rw [hl]; exact hu)
  exact ⟨_, k1, rfl, rfl, rfl, rfl, (Onl.of_below hb).trans k2, fun k hk => by
    rcases k3 k hk with h1 | h1
    · exact .inl h1
    · exact .inr (Nat.le_trans hb.size h1)⟩

set_option maxHeartbeats 1000000 in
theorem rapp_no {w : World} {p : Option Addr} {s : Int} {t : ByteArray} (hs : (s == 0 || s == 1) = false) :
    Calls Try.prog 32 #[.pointer p, .int .i64 s, .string t] w fun e w' => e = .returned (.int .i64 61) ∧ Below w.heap.size w w' := by
  have HS := hid hs
  clear hs
  go_enter Try.func32, Try.ntmps32
  go_wp2_with fail
  refine (rright_is HS.out _).mono ?_
  rintro e w1 ⟨rfl, rfl⟩
  go_wp2_with fail
  go_ret
  exact ⟨rfl, Below.refl _ _⟩

set_option maxHeartbeats 1000000 in
theorem rapp_full0 {w : World} {x : Rf} {t : List Nat} (h : RefD w x) (hn : x.cap - ((x.r 0).length + (x.r 1).length) < t.length) :
    Calls Try.prog 32 #[.pointer (some ⟨x.p, 0, none⟩), .int .i64 0, .string (ofNats t)] w fun e w' => e = .returned (.int .i64 60) ∧ Below w.heap.size w w' := by
  have H := hid h
  obtain ⟨f, hf⟩ : ∃ f, f = x.cap - ((x.r 0).length + (x.r 1).length) := ⟨_, rfl⟩
  rw [← hf] at hn
  have HF := hid hf
  have hsz : ((ofNats t).size : Int) = t.length := by rw [ofNats_size]
  have hn' : decide (f < t.length) = true := decide_eq_true hn
  clear h hf hn
  go_enter Try.func32, Try.ntmps32
  go_wp2_with fail
  refine (rright_is (u := true) rfl _).mono ?_
  rintro e w1 ⟨rfl, rfl⟩
  go_wp2_with fail
  refine (HF.out ▸ rfree_is H.out).mono ?_
  rintro e w2 ⟨rfl, hw2⟩
  go_wp2_with fail
  go_ret
  exact ⟨rfl, hw2⟩

set_option maxHeartbeats 4000000 in
theorem rapp0 {w : World} {x : Rf} {t : List Nat} (h : RefD w x) (hn : t.length ≤ x.cap - ((x.r 0).length + (x.r 1).length)) (ht : B8 t) :
    Calls Try.prog 32 #[.pointer (some ⟨x.p, 0, none⟩), .int .i64 0, .string (ofNats t)] w fun e w' => e = .returned (.int .i64 0) ∧ ∃ y, Then w w' x y (x.r 0 ++ loose t) (x.r 1) := by
  obtain ⟨i0, hi, hz0, hz1, hz2⟩ := info_of Try.infoCc
  have H := hid h
  obtain ⟨f, hf⟩ : ∃ f, f = x.cap - ((x.r 0).length + (x.r 1).length) := ⟨_, rfl⟩
  have HN := hid hn
  rw [← hf] at hn
  have HF := hid hf
  have HT := hid ht
  have hsz : ((ofNats t).size : Int) = t.length := by rw [ofNats_size]
  have hn' : decide (f < t.length) = false := decide_eq_false (by omega)
  clear h hf hn ht
  go_enter Try.func32, Try.ntmps32
  go_wp2_with fail
  refine (rright_is (u := true) rfl _).mono ?_
  rintro e w1 ⟨rfl, rfl⟩
  go_wp2_with fail
  refine (HF.out ▸ rfree_is H.out).mono ?_
  rintro e w2 ⟨rfl, hw2⟩
  have HW := hid hw2
  clear hw2
  go_wp2_with fail
  go_loopg [7] t.length (fun g s7 wr => ∃ k : Nat, k ≤ t.length ∧ g = t.length - k ∧ s7 = .int .i64 k ∧ ∃ y, Hid (Then w1 wr x y (x.r 0 ++ loose (t.take k)) (x.r 1)))
  case atStart => exact ⟨0, by omega, by omega, rfl, x, show Then _ _ _ _ _ _ from (by have := (Then.start H.out).later HW.out; simpa [loose] using this)⟩
  case round =>
    obtain ⟨k, hk, rfl, rfl, y, HY⟩ := hrel
    have HO := HY
    by_cases hlt : k < t.length
    · obtain ⟨c, hc⟩ : ∃ c, t[k]? = some c := ⟨t[k], List.getElem?_eq_getElem hlt⟩
      have hy := HY.out.at'
      have ep := HY.out.p
      obtain ⟨a, cp, ev, -⟩ := hy.row0
      have cc := hy.c1
      have hf : ∀ o, wr.frozen? ⟨y.p, o, none⟩ = false := hy.loose
      have hpl := hy.lt
      rw [ep] at cc hf hpl
      rw [ev] at cc
      have hne : (y.v 0).ownBlock ≠ some x.p := by rw [← ep]; exact hy.n0
      have hidx := index_ofNats HT.out hc
      obtain ⟨wa, hwa⟩ : ∃ wa, wa = (wr.alloc (.cells #[.int .u8 (c : Int), .bool false] 72)).drew := ⟨_, rfl⟩
      have hba : Below wr.heap.size wr wa := by rw [hwa]; (repeat (first | exact Below.refl _ _ | assumption | refine Below.drew ?_ | refine Below.al ?_ _ | refine Below.setCell ?_ (by first | exact Nat.le_refl _ | (simp; omega) | (simp; done)) _ | refine Below.on ?_ (by assumption)))
      have Hown := hid ((hy.later hba).o0)
      rw [ev] at Hown
      have n1 : Hid (∀ j u, (Cc.cs ⟨c, false⟩)[j]? = some u → wa.cell? (Addr.add ⟨wr.heap.size, 0, none⟩ j) = some u) := by
        show ∀ j u, _
        intro j u hj
        rw [hwa]
        match j, hj with
        | 0, hj => simp [Cc.cs] at hj; subst hj; simp [go_sem, Addr.add]
        | 1, hj => simp [Cc.cs] at hj; subst hj; simp [go_sem, Addr.add]
      have n2 : Hid (∀ u ∈ Cc.cs ⟨c, false⟩, u.oneCell' = true) := fun u hu => by simp [Cc.cs] at hu; rcases hu with rfl | rfl <;> rfl
      have hyl := hy.l0
      have n3 : Hid ((y.r 0).length + 1 ≤ maxLen) := by show _ ≤ _; unfold maxLen; omega
      have n4 : Hid (((y.r 0).length + 1) * 2 ≤ 140737488355328) := by show _ ≤ _; omega
      have HBA := hid hba
      have HWA := hid hwa
      have HCC := hid (cell_later hba cc)
      have HFF : Hid (∀ o, wa.frozen? ⟨x.p, o, none⟩ = false) := fun o => (hba.frozen (p := ⟨x.p, o, none⟩) hpl).trans (hf o)
      have HYY := hid hy
      have HEP := hid ep
      have HEV := hid ev
      clear hyl hwa hba hy ep hf
      go_wp2_with fail
      go_region_law ((rw [← HWA.out]; refine step_append_lies _ (by rfl) _ _ 65 (by rfl) 0 72 i0 (ccv 0 false) 2 2 Try.underlying65 hi hz0 hz1 hz2 rfl (by decide) (.slice a (y.r 0).length cp) (y.r 0).length (flatC (y.r 0)) (by simp [Act.eval]) Hown.out ⟨wr.heap.size, 0, none⟩ 1 1 (Cc.cs ⟨c, false⟩) (by simp [Act.eval]) rfl n1.out n2.out (by decide) n3.out n4.out (Nat.zero_le _) wa.heap.size rfl ?_; intro g cap w3 hown hgrow hat hlt3; have o1 := grown_onl hgrow; have k3 := o1.cell (fun e => hne (by rw [HEV.out]; exact e)) HCC.out; have kf : ∀ o, w3.frozen? ⟨x.p, o, none⟩ = false := (o1.loose (fun e => hne (by rw [HEV.out]; exact e)) (World.block_lt_of_cell? _ _ HCC.out) HFF.out); have HG := hid hgrow; have HOW := hid hown; have HAT := hid hat; clear hown hgrow hat o1))
      all_goals (try go_wp2_with fail)
      all_goals
        have hr0 := HY.out.r0
        have hr1 := HY.out.r1
        have hcap := HY.out.cap
        have hlen0 := congrArg List.length hr0
        have hlen1 := congrArg List.length hr1
        simp only [List.length_append, loose_length, List.length_take] at hlen0 hlen1
        have hus := H.out.used
        have hN := HN.out
        obtain ⟨z, hz⟩ := HYY.out.more0 (c := ⟨c, false⟩) HBA.out (by rw [HEV.out]; exact HG.out) HOW.out (by rw [HEV.out]; exact HAT.out) (by omega)
        rw [HEP.out] at hz
        have e0 : y.r 0 ++ [⟨c, false⟩] = x.r 0 ++ loose (t.take (k + 1)) := (by rw [hr0]; exact (loose_snoc hc).symm)
        have e1 : y.r 1 = x.r 1 := hr1
        have HZ := hid ((HY.out.and hz).rows e0 e1)
        have hw64 : wrap64 ((k : Int) + 1) = ((k + 1 : Nat) : Int) := by have := H.out.cl; unfold wrap64; omega
        have htl : t.length ≤ 1048576 := by have := H.out.cl; omega
        clear hr0 hr1 hcap hlen0 hlen1 hus hN hz e0 e1
        go_roundg (t.length - (k + 1))
        case measure => omega
        case rel => exact ⟨k + 1, by omega, rfl, by rw [hw64], z, HZ⟩
    · obtain rfl : k = t.length := by omega
      rw [List.take_of_length_le (Nat.le_refl _)] at HY
      go_wp2_with fail
      go_ret
      exact ⟨rfl, y, HY.out⟩

set_option maxHeartbeats 1000000 in
theorem rapp_full1 {w : World} {x : Rf} {t : List Nat} (h : RefD w x) (hn : x.cap - ((x.r 0).length + (x.r 1).length) < t.length) :
    Calls Try.prog 32 #[.pointer (some ⟨x.p, 0, none⟩), .int .i64 1, .string (ofNats t)] w fun e w' => e = .returned (.int .i64 60) ∧ Below w.heap.size w w' := by
  have H := hid h
  obtain ⟨f, hf⟩ : ∃ f, f = x.cap - ((x.r 0).length + (x.r 1).length) := ⟨_, rfl⟩
  rw [← hf] at hn
  have HF := hid hf
  have hsz : ((ofNats t).size : Int) = t.length := by rw [ofNats_size]
  have hn' : decide (f < t.length) = true := decide_eq_true hn
  clear h hf hn
  go_enter Try.func32, Try.ntmps32
  go_wp2_with fail
  refine (rright_is (u := true) rfl _).mono ?_
  rintro e w1 ⟨rfl, rfl⟩
  go_wp2_with fail
  refine (HF.out ▸ rfree_is H.out).mono ?_
  rintro e w2 ⟨rfl, hw2⟩
  go_wp2_with fail
  go_ret
  exact ⟨rfl, hw2⟩

set_option maxHeartbeats 4000000 in
theorem rapp1 {w : World} {x : Rf} {t : List Nat} (h : RefD w x) (hn : t.length ≤ x.cap - ((x.r 0).length + (x.r 1).length)) (ht : B8 t) :
    Calls Try.prog 32 #[.pointer (some ⟨x.p, 0, none⟩), .int .i64 1, .string (ofNats t)] w fun e w' => e = .returned (.int .i64 0) ∧ ∃ y, Then w w' x y (x.r 0) (x.r 1 ++ loose t) := by
  obtain ⟨i0, hi, hz0, hz1, hz2⟩ := info_of Try.infoCc
  have H := hid h
  obtain ⟨f, hf⟩ : ∃ f, f = x.cap - ((x.r 0).length + (x.r 1).length) := ⟨_, rfl⟩
  have HN := hid hn
  rw [← hf] at hn
  have HF := hid hf
  have HT := hid ht
  have hsz : ((ofNats t).size : Int) = t.length := by rw [ofNats_size]
  have hn' : decide (f < t.length) = false := decide_eq_false (by omega)
  clear h hf hn ht
  go_enter Try.func32, Try.ntmps32
  go_wp2_with fail
  refine (rright_is (u := true) rfl _).mono ?_
  rintro e w1 ⟨rfl, rfl⟩
  go_wp2_with fail
  refine (HF.out ▸ rfree_is H.out).mono ?_
  rintro e w2 ⟨rfl, hw2⟩
  have HW := hid hw2
  clear hw2
  go_wp2_with fail
  go_loopg [7] t.length (fun g s7 wr => ∃ k : Nat, k ≤ t.length ∧ g = t.length - k ∧ s7 = .int .i64 k ∧ ∃ y, Hid (Then w1 wr x y (x.r 0) (x.r 1 ++ loose (t.take k))))
  case atStart => exact ⟨0, by omega, by omega, rfl, x, show Then _ _ _ _ _ _ from (by have := (Then.start H.out).later HW.out; simpa [loose] using this)⟩
  case round =>
    obtain ⟨k, hk, rfl, rfl, y, HY⟩ := hrel
    have HO := HY
    by_cases hlt : k < t.length
    · obtain ⟨c, hc⟩ : ∃ c, t[k]? = some c := ⟨t[k], List.getElem?_eq_getElem hlt⟩
      have hy := HY.out.at'
      have ep := HY.out.p
      obtain ⟨a, cp, ev, -⟩ := hy.row1
      have cc := hy.c2
      have hf : ∀ o, wr.frozen? ⟨y.p, o, none⟩ = false := hy.loose
      have hpl := hy.lt
      rw [ep] at cc hf hpl
      rw [ev] at cc
      have hne : (y.v 1).ownBlock ≠ some x.p := by rw [← ep]; exact hy.n1
      have hidx := index_ofNats HT.out hc
      obtain ⟨wa, hwa⟩ : ∃ wa, wa = (wr.alloc (.cells #[.int .u8 (c : Int), .bool false] 72)).drew := ⟨_, rfl⟩
      have hba : Below wr.heap.size wr wa := by rw [hwa]; (repeat (first | exact Below.refl _ _ | assumption | refine Below.drew ?_ | refine Below.al ?_ _ | refine Below.setCell ?_ (by first | exact Nat.le_refl _ | (simp; omega) | (simp; done)) _ | refine Below.on ?_ (by assumption)))
      have Hown := hid ((hy.later hba).o1)
      rw [ev] at Hown
      have n1 : Hid (∀ j u, (Cc.cs ⟨c, false⟩)[j]? = some u → wa.cell? (Addr.add ⟨wr.heap.size, 0, none⟩ j) = some u) := by
        show ∀ j u, _
        intro j u hj
        rw [hwa]
        match j, hj with
        | 0, hj => simp [Cc.cs] at hj; subst hj; simp [go_sem, Addr.add]
        | 1, hj => simp [Cc.cs] at hj; subst hj; simp [go_sem, Addr.add]
      have n2 : Hid (∀ u ∈ Cc.cs ⟨c, false⟩, u.oneCell' = true) := fun u hu => by simp [Cc.cs] at hu; rcases hu with rfl | rfl <;> rfl
      have hyl := hy.l1
      have n3 : Hid ((y.r 1).length + 1 ≤ maxLen) := by show _ ≤ _; unfold maxLen; omega
      have n4 : Hid (((y.r 1).length + 1) * 2 ≤ 140737488355328) := by show _ ≤ _; omega
      have HBA := hid hba
      have HWA := hid hwa
      have HCC := hid (cell_later hba cc)
      have HFF : Hid (∀ o, wa.frozen? ⟨x.p, o, none⟩ = false) := fun o => (hba.frozen (p := ⟨x.p, o, none⟩) hpl).trans (hf o)
      have HYY := hid hy
      have HEP := hid ep
      have HEV := hid ev
      clear hyl hwa hba hy ep hf
      go_wp2_with fail
      go_region_law ((rw [← HWA.out]; refine step_append_lies _ (by rfl) _ _ 65 (by rfl) 0 72 i0 (ccv 0 false) 2 2 Try.underlying65 hi hz0 hz1 hz2 rfl (by decide) (.slice a (y.r 1).length cp) (y.r 1).length (flatC (y.r 1)) (by simp [Act.eval]) Hown.out ⟨wr.heap.size, 0, none⟩ 1 1 (Cc.cs ⟨c, false⟩) (by simp [Act.eval]) rfl n1.out n2.out (by decide) n3.out n4.out (Nat.zero_le _) wa.heap.size rfl ?_; intro g cap w3 hown hgrow hat hlt3; have o1 := grown_onl hgrow; have k3 := o1.cell (fun e => hne (by rw [HEV.out]; exact e)) HCC.out; have kf : ∀ o, w3.frozen? ⟨x.p, o, none⟩ = false := (o1.loose (fun e => hne (by rw [HEV.out]; exact e)) (World.block_lt_of_cell? _ _ HCC.out) HFF.out); have HG := hid hgrow; have HOW := hid hown; have HAT := hid hat; clear hown hgrow hat o1))
      all_goals (try go_wp2_with fail)
      all_goals
        have hr0 := HY.out.r0
        have hr1 := HY.out.r1
        have hcap := HY.out.cap
        have hlen0 := congrArg List.length hr0
        have hlen1 := congrArg List.length hr1
        simp only [List.length_append, loose_length, List.length_take] at hlen0 hlen1
        have hus := H.out.used
        have hN := HN.out
        obtain ⟨z, hz⟩ := HYY.out.more1 (c := ⟨c, false⟩) HBA.out (by rw [HEV.out]; exact HG.out) HOW.out (by rw [HEV.out]; exact HAT.out) (by omega)
        rw [HEP.out] at hz
        have e0 : y.r 0 = x.r 0 := hr0
        have e1 : y.r 1 ++ [⟨c, false⟩] = x.r 1 ++ loose (t.take (k + 1)) := (by rw [hr1]; exact (loose_snoc hc).symm)
        have HZ := hid ((HY.out.and hz).rows e0 e1)
        have hw64 : wrap64 ((k : Int) + 1) = ((k + 1 : Nat) : Int) := by have := H.out.cl; unfold wrap64; omega
        have htl : t.length ≤ 1048576 := by have := H.out.cl; omega
        clear hr0 hr1 hcap hlen0 hlen1 hus hN hz e0 e1
        go_roundg (t.length - (k + 1))
        case measure => omega
        case rel => exact ⟨k + 1, by omega, rfl, by rw [hw64], z, HZ⟩
    · obtain rfl : k = t.length := by omega
      rw [List.take_of_length_le (Nat.le_refl _)] at HY
      go_wp2_with fail
      go_ret
      exact ⟨rfl, y, HY.out⟩

end Go.Proofs.Ytmbmagfdeadibaa
