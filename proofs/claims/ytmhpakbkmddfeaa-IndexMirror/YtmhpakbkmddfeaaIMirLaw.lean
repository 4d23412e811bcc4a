import Derived.Test.YtmhpakbkmddfeaaIFall
import Derived.Test.YtmhpakbkmddfeaaIBuilt
namespace Go.Proofs.Ytmhpakbkmddfeaa
open Go.RowKit Go.Sort Go.Shelf
set_option linter.unusedVariables false

/-- a row of texts at the beginning of a block of its own, from block B on -/
def RowG (w : World) (B : Nat) (a : Option Addr) (l : List ByteArray) : Prop := ∀ i, i < l.length → ∃ g, a = some ⟨g, 0, none⟩ ∧ B ≤ g ∧ w.cell? ⟨g, i, none⟩ = some (.string (nthT l i))
theorem RowG.later {w w' : World} {B : Nat} {a : Option Addr} {l : List ByteArray} (h : RowG w B a l) (hb : Below w.heap.size w w') : RowG w' B a l := fun i hi => by
  obtain ⟨g, e, hg, h0⟩ := h i hi
  exact ⟨g, e, hg, cell_later hb h0⟩
theorem RowG.onl {w w' : World} {B p : Nat} {a : Option Addr} {l : List ByteArray} (h : RowG w B a l) (hp : p < B) (ho : Onl (fun b => b = p) w w') : RowG w' B a l := fun i hi => by
  obtain ⟨g, e, hg, h0⟩ := h i hi
  exact ⟨g, e, hg, ho.cell (by omega) h0⟩
theorem RowG.row {w : World} {B : Nat} {a : Option Addr} {l : List ByteArray} (h : RowG w B a l) : RowT w a l := fun i hi => by
  obtain ⟨g, e, hg, h0⟩ := h i hi
  exact ⟨g, 0, e, by rw [Nat.zero_add]; exact h0⟩
theorem rowG_of_owns {w : World} {B : Nat} {a : Option Addr} {c n : Nat} {l : List ByteArray} (hn : n = l.length) (h : w.ownsRow B 9 1 (.slice a n c) n (l.map Value.string)) : RowG w B a l := fun i hi => by
  subst hn
  rcases h.2 with ⟨h1, h0⟩ | ⟨g, cap, cur, h1, hB, _⟩
  · omega
  · injection h1 with h1 _ h3
    subst h1 h3
    refine ⟨g, rfl, hB, ?_⟩
    rw [h.cellAt i (by simpa using hi), List.getElem?_map, nthT_at hi]; rfl
theorem riseG_is {w : World} {p : Nat} {l : List En} (h : Xi w p l) (lo hi : ByteArray) (hn : l.length * 16 ≤ 70368744177664) {K : List ByteArray} (hK : ks (rangeX l lo hi) = K) :
    Calls Try.prog 19 #[.pointer (some ⟨p, 0, none⟩), .agg #[.string lo, .string hi]] w fun e w' =>
      ∃ ka kc, e = .returned (.tuple #[.slice ka K.length kc, .bool true]) ∧ RowG w' w.heap.size ka K ∧ Below w.heap.size w w' :=
  (rise_is h lo hi hn).mono fun e w' ⟨ka, kc, he, hr, hb⟩ => by
    have hl : (rangeX l lo hi).length = K.length := by rw [← hK, List.length_map]
    rw [← ks_txs, hK] at hr
    exact ⟨ka, kc, by rw [he, hl], rowG_of_owns hl hr, hb⟩
theorem fallG_is {w : World} {p : Nat} {l : List En} (h : Xi w p l) (lo hi : ByteArray) (hn : l.length * 16 ≤ 70368744177664) {K : List ByteArray} (hK : ks (rangeX l lo hi) = K) :
    Calls Try.prog 21 #[.pointer (some ⟨p, 0, none⟩), .agg #[.string lo, .string hi]] w fun e w' =>
      ∃ ka kc, e = .returned (.slice ka K.length kc) ∧ RowG w' w.heap.size ka K ∧ Below w.heap.size w w' :=
  (fall_is h lo hi hn).mono fun e w' ⟨ka, kc, he, hr, hb⟩ => by
    have hl : (rangeX l lo hi).length = K.length := by rw [← hK, List.length_map]
    rw [← ks_txs, hK] at hr
    exact ⟨ka, kc, by rw [he, hl], rowG_of_owns hl hr, hb⟩
theorem keysG_is {w : World} {p : Nat} {l : List En} (h : Xi w p l) (lo hi : ByteArray) (hn : l.length * 16 ≤ 70368744177664) {K : List ByteArray} (hK : ks (rangeX l lo hi) = K) :
    Calls Try.prog 12 #[.pointer (some ⟨p, 0, none⟩), .agg #[.string lo, .string hi]] w fun e w' =>
      ∃ ka kc, e = .returned (.slice ka K.length kc) ∧ RowG w' w.heap.size ka K ∧ Below w.heap.size w w' :=
  (keys_is h lo hi hn).mono fun e w' ⟨v, he, hr, hb⟩ => by
    obtain ⟨ka, kc, rfl⟩ := owns_slice hr
    have hl : (rangeX l lo hi).length = K.length := by rw [← hK, List.length_map]
    rw [← ks_txs, hK] at hr
    exact ⟨ka, kc, by rw [he, hl], rowG_of_owns hl hr, hb⟩

set_option maxRecDepth 16000 in
set_option maxHeartbeats 8000000 in
theorem mirror_law {W : World} {a : Option Addr} {c : Nat} {l : List Ao} {lo hi key : ByteArray} (h : RowO W a l) (hl : (l.length + 2) * 64 ≤ 140737488355328) (hkey : key.size + 1 ≤ 9223372036854775807) :
    Calls Try.prog 5 #[viewV a l.length c lo hi key] W fun e w' => e = .returned (.bool true) ∧ Below W.heap.size W w' := by
  have b0 : Below W.heap.size W (W.alloc (.cells #[.slice a l.length c, .string lo, .string hi, .string key] 40)) := Below.al (Below.refl _ _) _
  have vb := World.alloc_heap_new W (.cells #[.slice a l.length c, .string lo, .string hi, .string key] 40)
  obtain ⟨W0, hW0⟩ : ∃ W0, W0 = W.alloc (.cells #[.slice a l.length c, .string lo, .string hi, .string key] 40) := ⟨_, rfl⟩
  rw [← hW0] at b0 vb
  obtain ⟨B, hB⟩ : ∃ B, B = W.heap.size := ⟨_, rfl⟩
  rw [← hB] at vb
  have v0 : W0.cell? ⟨B, 0, none⟩ = some (.slice a l.length c) := cell_of_obj vb rfl
  have v1 : W0.cell? ⟨B, 1, none⟩ = some (.string lo) := cell_of_obj vb rfl
  have v2 : W0.cell? ⟨B, 2, none⟩ = some (.string hi) := cell_of_obj vb rfl
  have v3 : W0.cell? ⟨B, 3, none⟩ = some (.string key) := cell_of_obj vb rfl
  have BU := hid (built_is (c := c) (lo := lo) (hi := hi) (key := key) (h.later b0) hl)
  have HB0 := hid b0
  have hM : (bix l key).length * 16 ≤ 70368744177664 := by have := bix_len l key; omega
  have hM2 : (bix l key).length + 1 ≤ 1152921504606846976 := by omega
  -- the list, parted at the key
  have hrM : Rising (bix l key) := setX_rising (ixL_rising _) _ _
  obtain ⟨LA, LB, hsplit, hA, hBB⟩ := parted hrM ((setX_mem (ixL_rising (chs l)) key 1 _).2 (.inl rfl))
  obtain ⟨KU, hKU⟩ : ∃ KU, ks (rangeX (bix l key) lo hi) = KU := ⟨_, rfl⟩
  have hKF : ks (rangeX (bix l key) key ⟨#[]⟩) = key :: ks LB := by rw [hsplit, mid_from hA hBB]; rfl
  have hKT : ks (rangeX (bix l key) ⟨#[]⟩ (zb key)) = ks LA ++ [key] := by rw [hsplit, mid_upto hA hBB]; simp [ks]
  have hKl : KU.length ≤ 9223372036854775806 := by
    have h1 : (rangeX (bix l key) lo hi).length ≤ (bix l key).length := List.length_filter_le _ _
    rw [← hKU, List.length_map]; omega
  have hlenM : (bix l key).length = LA.length + LB.length + 1 := by rw [hsplit]; simp; omega
  have HKU := hid hKU
  have HKF := hid hKF
  have HKT := hid hKT
  have HS := hid hsplit
  have HA := hid hA
  have HBB := hid hBB
  have HLM := hid hlenM
  clear h b0 hrM hsplit hA hBB hKU hKF hKT hlenM
  go_enter Try.func5, Try.ntmps5
  go_wp2_with fail
  rw [← hW0, ← hB]
  clear hW0 hB vb
  go_wp2_with (first
    | (go_at_call 17; refine BU.out.mono ?_; clear BU; rintro e w1 ⟨p, rfl, hp, hx1, hb1⟩; have l1 := cell_later hb1 v1; have l2 := cell_later hb1 v2; have l3 := cell_later hb1 v3)
    | (go_at_call 19; refine (riseG_is hx1 lo hi hM HKU.out).mono ?_; rintro e w2 ⟨ua, uc, rfl, hu2, hb2⟩; have hx2 := hx1.later hb2; have hbb2 := Below.on hb1 hb2; have pl1 := hx1.lt; have l1 := cell_later hbb2 v1; have l2 := cell_later hbb2 v2; have l3 := cell_later hbb2 v3; clear hx1)
    | (go_at_call 21; refine (fallG_is hx2 lo hi hM HKU.out).mono ?_; rintro e w3 ⟨fa, fc, rfl, hf3, hb3⟩; have hx3 := hx2.later hb3; have hbb3 := Below.on hbb2 hb3; have hu3 := hu2.later hb3; clear hx2 hu2)
    | (go_at_call 20; refine (same_is (decide_eq_true rfl) hu3.row hf3.row hKl).mono ?_; rintro e w4 ⟨rfl, hb4⟩; have hx4 := hx3.later hb4; have hbb4 := Below.on hbb3 hb4; have hu4 := hu3.later hb4; have l1 := cell_later hbb4 v1; have l2 := cell_later hbb4 v2; clear hx3 hu3 hf3)
    | (go_at_call 12; refine (keysG_is hx4 lo hi hM HKU.out).mono ?_; rintro e w5 ⟨ka, kc, rfl, hk5, hb5⟩; have hx5 := hx4.later hb5; have hbb5 := Below.on hbb4 hb5; have hu5 := hu4.later hb5; clear hx4 hu4)
    | (go_at_call 20; refine (same_is (decide_eq_true rfl) hu5.row hk5.row hKl).mono ?_; rintro e w6 ⟨rfl, hb6⟩; have hx6 := hx5.later hb6; have hbb6 := Below.on hbb5 hb6; have m3 := cell_later hbb6 v3; clear hx5 hu5 hk5)
    | (go_at_call 19; refine (riseG_is hx6 key ⟨#[]⟩ hM HKF.out).mono ?_; rintro e w7 ⟨ra, rc, rfl, hr7, hb7⟩; have hx7 := hx6.later hb7; have hbb7 := Below.on hbb6 hb7; have n3 := cell_later hbb7 v3; have pl6 := hx6.lt; clear hx6))
  have FT : Hid (Calls Try.prog 21 #[.pointer (some ⟨p, 0, none⟩), .agg #[.string ⟨#[]⟩, .string (key ++ ⟨#[0]⟩)]] w7 fun e w' => ∃ ka kc, e = .returned (.slice ka (LA.length + 1) kc) ∧ RowG w' w7.heap.size ka (ks LA ++ [key]) ∧ Below w7.heap.size w7 w') := by
    have := fallG_is hx7 ⟨#[]⟩ (zb key) hM HKT.out
    rw [show (ks LA ++ [key]).length = LA.length + 1 by simp] at this
    exact this
  have hw0 : IntKind.i64.wrap ((LA.length : Int) + 1 - 1) = (LA.length : Int) := by rw [IntKind.wrap_i64]; have := HLM.out; omega
  have hw00 : IntKind.i64.wrap (LA.length : Int) = (LA.length : Int) := by rw [IntKind.wrap_i64]; have := HLM.out; omega
  have hltA : (LA.length : Int) < (LA.length : Int) + 1 := by omega
  have hgeA : (0 : Int) ≤ (LA.length : Int) := by omega
  have qB0 : ((LB.length : Int) + 1 == 0) = false := by rw [beq_eq_false_iff_ne]; omega
  have qA0 : ((LA.length : Int) + 1 == 0) = false := by rw [beq_eq_false_iff_ne]; omega
  have qL0 : ((LA.length : Int) + (LB.length : Int) + 1 != (LB.length : Int) + 1 + ((LA.length : Int) + 1) - 1) = false := by rw [bne_eq_false_iff_eq]; omega
  have bA : LA.length + LB.length + 1 ≤ 1152921504606846976 := by have := HLM.out; omega
  have hlen9 : (9223372036854775807 < key.size + 1) = False := by simp; omega
  go_wp2_with (go_at_call 21; refine FT.out.mono ?_; clear FT; rintro e w8 ⟨ta, tc, rfl, ht8, hb8⟩)
  have hx8 := hx7.later hb8
  have hbb8 := Below.on hbb7 hb8
  have hr8 := hr7.later hb8
  obtain ⟨gF, hra, hgF, cF⟩ := hr8 0 (by simp)
  obtain ⟨gT, hta, hgT, cT⟩ := ht8 LA.length (by simp)
  subst hra hta
  have n8 := cell_later hbb8 v3
  have eF : nthT (key :: ks LB) 0 = key := rfl
  have eT : nthT (ks LA ++ [key]) LA.length = key := by simp [nthT, ks]
  rw [eF] at cF
  rw [eT] at cT
  have HX8 := hid hx8
  have HBB8 := hid hbb8
  have HR8 := hid hr8
  have HT8 := hid ht8
  have hpW : Hid (W0.heap.size ≤ p) := hp
  have hpF : Hid (p < w6.heap.size) := pl6
  have hpT : Hid (p < w7.heap.size) := hx7.lt
  clear hx7 hx8 hbb8 hr8 ht8 hr7 hbb2 hbb3 hbb4 hbb5 hbb6 hbb7 hb1 hb2 hb3 hb4 hb5 hb6 hb7 hb8 l1 l2 l3 m3 n3 hp pl1 pl6 eF eT
  go_wp2_with fail
  go_quiet (fail)
  have HX9 : Hid (Xi (w8.drewN nq) p (bix l key)) := HX8.out.later (Below.drewN (Below.refl _ _) _)
  have LE : Hid (Calls Try.prog 16 #[.pointer (some ⟨p, 0, none⟩)] (w8.drewN nq) fun e w' => e = .returned (.int .i64 ((LA.length : Int) + (LB.length : Int) + 1)) ∧ w' = w8.drewN nq) := by
    have := len_is HX9.out
    rw [HLM.out] at this
    exact this
  go_wp2_with (go_at_call 16; refine LE.out.mono ?_; rintro e w9 ⟨rfl, rfl⟩)
  have DE : Hid (Calls Try.prog 11 #[.pointer (some ⟨p, 0, none⟩), .string key] (w8.drewN nq) fun e w' => ∃ u : Bool, e = .returned (.bool u) ∧ Hid (Xi w' p (LA ++ LB)) ∧ Hid (Onl (fun b => b = p) (w8.drewN nq) w')) :=
    (del_is HX9.out key hM2).mono fun e w' ⟨he, hx, ho⟩ => ⟨_, he, by have h1 := hx; rw [HS.out, delX_mid HA.out HBB.out] at h1; exact h1, ho⟩
  have FL : Hid (∀ w, Xi w p (LA ++ LB) → Calls Try.prog 22 #[.pointer (some ⟨p, 0, none⟩), .string key] w fun e w' => e = .returned (firV LA.reverse.head?) ∧ Below w.heap.size w w') := fun w hx => by
    have h1 := floor_is hx key hkey
    have h2 := gone_upto (v := 1) HA.out HBB.out
    rw [delX_mid HA.out HBB.out] at h2
    rw [h2] at h1
    exact h1
  have CE : Hid (∀ w, Xi w p (LA ++ LB) → Calls Try.prog 23 #[.pointer (some ⟨p, 0, none⟩), .string key] w fun e w' => e = .returned (firV LB.head?) ∧ Below w.heap.size w w') := fun w hx => by
    have h1 := ceil_is hx key
    have h2 := gone_from (v := 1) HA.out HBB.out
    rw [delX_mid HA.out HBB.out] at h2
    rw [h2] at h1
    exact h1
  have HLA : Hid ((LA.length = 0 ∧ firV LA.reverse.head? = .tuple #[.string ⟨#[]⟩, .int .i64 0, .bool false]) ∨ ∃ (m : Nat) (k' : ByteArray) (v' : Int), LA.length = m + 1 ∧ firV LA.reverse.head? = .tuple #[.string k', .int .i64 v', .bool true] ∧ nthT (ks LA ++ [key]) m = k') := by
    rcases List.eq_nil_or_concat LA with e | ⟨L, b, e⟩
    · rw [e]; exact .inl ⟨rfl, rfl⟩
    · rw [e]; exact .inr ⟨L.length, b.1, b.2, by simp, by simp [firV], by simp [nthT, ks]⟩
  have HLB : Hid ((LB.length = 0 ∧ firV LB.head? = .tuple #[.string ⟨#[]⟩, .int .i64 0, .bool false]) ∨ ∃ (m : Nat) (k' : ByteArray) (v' : Int), LB.length = m + 1 ∧ firV LB.head? = .tuple #[.string k', .int .i64 v', .bool true] ∧ nthT (key :: ks LB) 1 = k') := by
    cases LB with
    | nil => exact .inl ⟨rfl, rfl⟩
    | cons b L => exact .inr ⟨L.length, b.1, b.2, rfl, rfl, rfl⟩
  have hB9 : Hid (Below W0.heap.size W0 (w8.drewN nq)) := Below.drewN HBB8.out _
  have HR9 : Hid (RowG (w8.drewN nq) w6.heap.size (some ⟨gF, 0, none⟩) (key :: ks LB)) := HR8.out.later (Below.drewN (Below.refl _ _) _)
  have HT9 : Hid (RowG (w8.drewN nq) w7.heap.size (some ⟨gT, 0, none⟩) (ks LA ++ [key])) := HT8.out.later (Below.drewN (Below.refl _ _) _)
  go_wp2_with (go_at_call 11; refine DE.out.mono ?_; rintro e w10 ⟨u, rfl, hx10, ho10⟩; have hB10 : Hid (Below W0.heap.size W0 w10) := Onl.on_below hB9.out ho10.out hpW.out; have k10 := cell_later hB10.out v3)
  have HR10 : Hid (RowG w10 w6.heap.size (some ⟨gF, 0, none⟩) (key :: ks LB)) := HR9.out.onl hpF.out ho10.out
  have HT10 : Hid (RowG w10 w7.heap.size (some ⟨gT, 0, none⟩) (ks LA ++ [key])) := HT9.out.onl hpT.out ho10.out
  clear HX9 HX8 HR9 HT9 HR8 HT8 LE DE cF cT n8
  rcases HLA.out with ⟨hA0, hFL⟩ | ⟨mA, kA, vA, hA0, hFL, hcA⟩
  · rw [hFL] at FL
    have qA : decide ((1 : Int) < (LA.length : Int) + 1) = false := decide_eq_false (by omega)
    rcases HLB.out with ⟨hB0, hCE⟩ | ⟨mB, kB, vB, hB0, hCE, hcB⟩
    · rw [hCE] at CE
      have qB : decide ((1 : Int) < (LB.length : Int) + 1) = false := decide_eq_false (by omega)
      clear hA0 hB0 hFL hCE
      go_wp2_with (first
        | (go_at_call 22; refine (FL.out _ hx10.out).mono ?_; rintro e w11 ⟨rfl, hb11⟩; have k11 := cell_later (Below.on hB10.out hb11) v3)
        | (go_at_call 23; refine (CE.out _ (hx10.out.later hb11)).mono ?_; rintro e w12 ⟨rfl, hb12⟩; have hB12 := Below.on (Below.on hB10.out hb11) hb12))
      go_ret
      exact ⟨rfl, Below.on HB0.out hB12⟩
    · rw [hCE] at CE
      have qB : decide ((1 : Int) < (LB.length : Int) + 1) = true := decide_eq_true (by omega)
      have hlB : (1 : Int) < (LB.length : Int) + 1 := by omega
      have cB : ∀ w, RowG w w6.heap.size (some ⟨gF, 0, none⟩) (key :: ks LB) → w.cell? ⟨gF, 1, none⟩ = some (.string kB) := fun w hr => by
        obtain ⟨g, e, _, h0⟩ := hr 1 (by simp; omega)
        injection e with e; injection e with e1 _ _; subst e1; rw [hcB] at h0; exact h0
      have CB := hid cB
      clear hA0 hB0 hFL hCE hcB cB
      go_wp2_with (first
        | (go_at_call 22; refine (FL.out _ hx10.out).mono ?_; rintro e w11 ⟨rfl, hb11⟩; have k11 := cell_later (Below.on hB10.out hb11) v3)
        | (go_at_call 23; refine (CE.out _ (hx10.out.later hb11)).mono ?_; rintro e w12 ⟨rfl, hb12⟩; have z2 := CB.out _ (HR10.out.later (Below.on hb11 hb12)); have hB12 := Below.on (Below.on hB10.out hb11) hb12))
      go_ret
      exact ⟨rfl, Below.on HB0.out hB12⟩
  · rw [hFL] at FL
    have qA : decide ((1 : Int) < (LA.length : Int) + 1) = true := decide_eq_true (by omega)
    have hwA : IntKind.i64.wrap ((LA.length : Int) + 1 - 2) = (mA : Int) := by rw [IntKind.wrap_i64]; omega
    have hlA : (mA : Int) < (LA.length : Int) + 1 := by omega
    rcases HLB.out with ⟨hB0, hCE⟩ | ⟨mB, kB, vB, hB0, hCE, hcB⟩
    · rw [hCE] at CE
      have qB : decide ((1 : Int) < (LB.length : Int) + 1) = false := decide_eq_false (by omega)
      have cA : ∀ w, RowG w w7.heap.size (some ⟨gT, 0, none⟩) (ks LA ++ [key]) → w.cell? ⟨gT, mA, none⟩ = some (.string kA) := fun w hr => by
        obtain ⟨g, e, _, h0⟩ := hr mA (by simp; omega)
        injection e with e; injection e with e1 _ _; subst e1; rw [hcA] at h0; exact h0
      have CA := hid cA
      clear hA0 hB0 hFL hCE hcA cA
      go_wp2_with (first
        | (go_at_call 22; refine (FL.out _ hx10.out).mono ?_; rintro e w11 ⟨rfl, hb11⟩; have k11 := cell_later (Below.on hB10.out hb11) v3)
        | (go_at_call 23; refine (CE.out _ (hx10.out.later hb11)).mono ?_; rintro e w12 ⟨rfl, hb12⟩; have z1 := CA.out _ (HT10.out.later (Below.on hb11 hb12)); have hB12 := Below.on (Below.on hB10.out hb11) hb12))
      go_ret
      exact ⟨rfl, Below.on HB0.out hB12⟩
    · rw [hCE] at CE
      have qB : decide ((1 : Int) < (LB.length : Int) + 1) = true := decide_eq_true (by omega)
      have hlB : (1 : Int) < (LB.length : Int) + 1 := by omega
      have cA : ∀ w, RowG w w7.heap.size (some ⟨gT, 0, none⟩) (ks LA ++ [key]) → w.cell? ⟨gT, mA, none⟩ = some (.string kA) := fun w hr => by
        obtain ⟨g, e, _, h0⟩ := hr mA (by simp; omega)
        injection e with e; injection e with e1 _ _; subst e1; rw [hcA] at h0; exact h0
      have cB : ∀ w, RowG w w6.heap.size (some ⟨gF, 0, none⟩) (key :: ks LB) → w.cell? ⟨gF, 1, none⟩ = some (.string kB) := fun w hr => by
        obtain ⟨g, e, _, h0⟩ := hr 1 (by simp; omega)
        injection e with e; injection e with e1 _ _; subst e1; rw [hcB] at h0; exact h0
      have CA := hid cA
      have CB := hid cB
      clear hA0 hB0 hFL hCE hcA cA hcB cB
      go_wp2_with (first
        | (go_at_call 22; refine (FL.out _ hx10.out).mono ?_; rintro e w11 ⟨rfl, hb11⟩; have k11 := cell_later (Below.on hB10.out hb11) v3)
        | (go_at_call 23; refine (CE.out _ (hx10.out.later hb11)).mono ?_; rintro e w12 ⟨rfl, hb12⟩; have z1 := CA.out _ (HT10.out.later (Below.on hb11 hb12)); have z2 := CB.out _ (HR10.out.later (Below.on hb11 hb12)); have hB12 := Below.on (Below.on hB10.out hb11) hb12))
      go_ret
      exact ⟨rfl, Below.on HB0.out hB12⟩

end Go.Proofs.Ytmhpakbkmddfeaa
