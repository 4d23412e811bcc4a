import Derived.Test.YthenfioddnkjbaaGreatDoorRzSt
import Derived.Test.YthenfioddnkjbaaGreatDoorBhWholMT
import Derived.Test.YthenfioddnkjbaaGreatDoorBhWholMA
import Derived.Test.YthenfioddnkjbaaGreatDoorBhWholMS
import Derived.Test.YthenfioddnkjbaaGreatDoorBhWholMW
import Derived.Test.YthenfioddnkjbaaGreatDoorRzTxN
import Derived.Test.YthenfioddnkjbaaGreatDoorRzShC
import Derived.Test.YthenfioddnkjbaaGreatDoorRzShH
import Derived.Test.YthenfioddnkjbaaGreatDoorRzShS
/- whole and settle, at the book of four. -/
namespace Go.Proofs.YthenfioddnkjbaaGreatDoor.Bg
open Go.RowKit Go.Sort Go.Proofs.YthenfioddnkjbaaGreatDoor Go.Proofs.YthenfioddnkjbaaGreatDoor.Rt
set_option linter.unusedVariables false
set_option maxHeartbeats 4000000 in
theorem whole4_is {W w : World} {c : Nat → Nat} {b m : Nat} {x : B4v} (hP : PowTab W) (h : B4 W w c b x m) (hm : m ≤ 1073741824) :
    Calls Tryz.prog 8 #[.pointer (some ⟨b, 0, none⟩)] w fun e w' => e = .returned (.bool true) ∧ Hid (∃ c' x', B4 W w' c' b x' m) := by
  have cT : Hid (∀ {c : Nat → Nat} {x : B4v} (w : World), B4 W w c b x m → Calls Tryz.prog 44 #[.pointer (some ⟨b, 0, none⟩)] w fun e w' => e = .returned (.bool true) ∧ ∃ c' x', B4 W w' c' b x' m) := hid (by
    intro w h
    refine (wholeT_is hP h.t h.bl hm).mono ?_
    rintro e w' ⟨rfl, c', s', k⟩
    exact ⟨rfl, c', _, h.wdT k⟩)
  have cA : Hid (∀ {c : Nat → Nat} {x : B4v} (w : World), B4 W w c b x m → Calls Tryz.prog 45 #[.pointer (some ⟨b, 4, none⟩)] w fun e w' => e = .returned (.bool true) ∧ ∃ c' x', B4 W w' c' b x' m) := hid (by
    intro w h
    refine (wholeA_is hP h.a h.bl hm).mono ?_
    rintro e w' ⟨rfl, c', s', k⟩
    exact ⟨rfl, c', _, h.wdA k⟩)
  have cS : Hid (∀ {c : Nat → Nat} {x : B4v} (w : World), B4 W w c b x m → Calls Tryz.prog 46 #[.pointer (some ⟨b, 8, none⟩)] w fun e w' => e = .returned (.bool true) ∧ ∃ c' x', B4 W w' c' b x' m) := hid (by
    intro w h
    refine (wholeS_is hP h.s h.bl hm).mono ?_
    rintro e w' ⟨rfl, c', s', k⟩
    exact ⟨rfl, c', _, h.wdS k⟩)
  have cW : Hid (∀ {c : Nat → Nat} {x : B4v} (w : World), B4 W w c b x m → Calls Tryz.prog 47 #[.pointer (some ⟨b, 12, none⟩)] w fun e w' => e = .returned (.bool true) ∧ ∃ c' x', B4 W w' c' b x' m) := hid (by
    intro w h
    refine (wholeW_is hP h.v h.bl hm).mono ?_
    rintro e w' ⟨rfl, c', s', k⟩
    exact ⟨rfl, c', _, h.wdW k⟩)
  have H0 := hid h
  clear h hP
  go_enter Tryz.func8, Tryz.ntmps8
  go_wp2_with (first | (go_at_call 44; refine (cT.out _ H0.out).mono ?_; rintro e w1 ⟨rfl, h1⟩; obtain ⟨c1, x1, h1⟩ := h1; have H1 := hid h1; clear h1) | (go_at_call 45; refine (cA.out _ H1.out).mono ?_; rintro e w2 ⟨rfl, h2⟩; obtain ⟨c2, x2, h2⟩ := h2; have H2 := hid h2; clear h2) | (go_at_call 46; refine (cS.out _ H2.out).mono ?_; rintro e w3 ⟨rfl, h3⟩; obtain ⟨c3, x3, h3⟩ := h3; have H3 := hid h3; clear h3) | (go_at_call 47; refine (cW.out _ H3.out).mono ?_; rintro e w4 ⟨rfl, h4⟩; obtain ⟨c4, x4, h4⟩ := h4; have H4 := hid h4; clear h4))
  go_ret
  exact ⟨rfl, hid ⟨c4, x4, H4.out⟩⟩
set_option maxHeartbeats 4000000 in
theorem settle4_is {W w : World} {c : Nat → Nat} {b m : Nat} {x : B4v} (hP : PowTab W) (h : B4 W w c b x m) (hm : m ≤ 1073741824) :
    Calls Tryz.prog 9 #[.pointer (some ⟨b, 0, none⟩)] w fun e w' => e = .returned (.bool true) ∧ Hid (∃ c' x', B4 W w' c' b x' m) := by
  have cT : Hid (∀ {c : Nat → Nat} {x : B4v} (w : World), B4 W w c b x m → Calls Tryz.prog 48 #[.pointer (some ⟨b, 0, none⟩)] w fun e w' => e = .returned (.bool true) ∧ ∃ c' x', B4 W w' c' b x' m) := hid (by
    intro w h
    refine (settleT_of hP h.t h.bl hm).mono ?_
    rintro e w' ⟨rfl, c', s', k⟩
    exact ⟨rfl, c', _, h.wdT k⟩)
  have cA : Hid (∀ {c : Nat → Nat} {x : B4v} (w : World), B4 W w c b x m → Calls Tryz.prog 49 #[.pointer (some ⟨b, 4, none⟩)] w fun e w' => e = .returned (.bool true) ∧ ∃ c' x', B4 W w' c' b x' m) := hid (by
    intro w h
    refine (settleA_of hP h.a h.bl hm).mono ?_
    rintro e w' ⟨rfl, c', s', k⟩
    exact ⟨rfl, c', _, h.wdA k⟩)
  have cS : Hid (∀ {c : Nat → Nat} {x : B4v} (w : World), B4 W w c b x m → Calls Tryz.prog 50 #[.pointer (some ⟨b, 8, none⟩)] w fun e w' => e = .returned (.bool true) ∧ ∃ c' x', B4 W w' c' b x' m) := hid (by
    intro w h
    refine (settleS_of hP h.s h.bl hm).mono ?_
    rintro e w' ⟨rfl, c', s', k⟩
    exact ⟨rfl, c', _, h.wdS k⟩)
  have cW : Hid (∀ {c : Nat → Nat} {x : B4v} (w : World), B4 W w c b x m → Calls Tryz.prog 51 #[.pointer (some ⟨b, 12, none⟩)] w fun e w' => e = .returned (.bool true) ∧ ∃ c' x', B4 W w' c' b x' m) := hid (by
    intro w h
    refine (settleW_of hP h.v h.bl hm).mono ?_
    rintro e w' ⟨rfl, c', s', k⟩
    exact ⟨rfl, c', _, h.wdW k⟩)
  have H0 := hid h
  have HW : Hid (∀ {c : Nat → Nat} {x : B4v} (w : World), B4 W w c b x m → Calls Tryz.prog 8 #[.pointer (some ⟨b, 0, none⟩)] w fun e w' => e = .returned (.bool true) ∧ Hid (∃ c' x', B4 W w' c' b x' m)) := hid (fun w h => whole4_is hP h hm)
  clear h hP
  go_enter Tryz.func9, Tryz.ntmps9
  go_wp2_with (first | (go_at_call 48; refine (cT.out _ H0.out).mono ?_; rintro e w1 ⟨rfl, h1⟩; obtain ⟨c1, x1, h1⟩ := h1; have H1 := hid h1; clear h1) | (go_at_call 49; refine (cA.out _ H1.out).mono ?_; rintro e w2 ⟨rfl, h2⟩; obtain ⟨c2, x2, h2⟩ := h2; have H2 := hid h2; clear h2) | (go_at_call 50; refine (cS.out _ H2.out).mono ?_; rintro e w3 ⟨rfl, h3⟩; obtain ⟨c3, x3, h3⟩ := h3; have H3 := hid h3; clear h3) | (go_at_call 51; refine (cW.out _ H3.out).mono ?_; rintro e w4 ⟨rfl, h4⟩; obtain ⟨c4, x4, h4⟩ := h4; have H4 := hid h4; clear h4) | (go_at_call 8; refine (HW.out _ H4.out).mono ?_; rintro e w5 ⟨rfl, H5⟩))
  go_ret
  exact ⟨rfl, H5⟩
end Go.Proofs.YthenfioddnkjbaaGreatDoor.Bg
/- The law. -/
namespace Go.Proofs.YthenfioddnkjbaaGreatDoor.Bg
open Go.RowKit Go.Sort Go.Stop Go.Proofs.YthenfioddnkjbaaGreatDoor Go.Proofs.YthenfioddnkjbaaGreatDoor.Rt
set_option linter.unusedVariables false

theorem texts_all {W w : World} {x : Sx} {c : Nat → Nat} {b m : Nat} {y : B4v} {ea eb ex ey : Addr} (hP : PowTab W) (hG : Gx W ea eb ex ey) (hx : x.Ok W) (h : B4 W w c b y m) (hm : m + 2 ≤ 1073741824) :
    Calls Tryz.prog 6 #[.agg x.cells, .pointer (some ⟨b, 0, none⟩)] w (After W b (m + 2)) := by
  by_cases h1 : x.kd = 1
  · exact texts_parse hG hx h h1 hm
  by_cases h2 : x.kd = 2
  · exact texts_text hP hx h h2
  by_cases h3 : x.kd = 3
  · exact texts_word hx h h3
  by_cases h4 : x.kd = 4
  · exact texts_unword hx h h4
  exact texts_none h ⟨h1, h2, h3, h4⟩
theorem shards_all {W w : World} {x : Sx} {c : Nat → Nat} {b m : Nat} {y : B4v} (hP : PowTab W) (hx : x.Ok W) (h : B4 W w c b y m) (hm : m + 24 ≤ 1073741824) :
    Calls Tryz.prog 7 #[.agg x.cells, .pointer (some ⟨b, 0, none⟩)] w (After W b (m + 24)) := by
  by_cases h1 : x.kd = 5
  · exact shards_owner hP hx h h1 hm
  by_cases h2 : x.kd = 6
  · exact shards_cut hP hx h h2 hm
  by_cases h3 : x.kd = 7
  · exact shards_shares hP hx h h3 hm
  by_cases h4 : x.kd = 8
  · exact shards_home hP hx h h4 hm
  exact shards_none hP hx h ⟨h1, h2, h3, h4⟩ hm
theorem Bq.nil {α : Type} {E : El α} {M : Nat → Nat → α} {T : TypeId} {W w : World} {b oo d : Nat} {c : Nat → Nat} (hd : d < 4) (hob : Obj4 T w b) (h0 : ∀ o, oo ≤ o → o < oo + 4 → w.cell? ⟨b, o, none⟩ = some (.slice none 0 0)) (hl : W.heap.size ≤ b) (hc : c b = 28) :
    Bq E M T W w b oo d c ⟨.slice none 0 0, .slice none 0 0, .slice none 0 0, .slice none 0 0, [], [], [], [], [], [], []⟩ 0 :=
  ⟨⟨hd, hob, h0 _ (by omega) (by omega), h0 _ (by omega) (by omega), h0 _ (by omega) (by omega), h0 _ (by omega) (by omega), hl, hc, World.ownsRow_nil _ _ _ _, fun g e => (by cases e), World.ownsRow_nil _ _ _ _, fun g e => (by cases e), World.ownsRow_nil _ _ _ _, fun g e => (by cases e), World.ownsRow_nil _ _ _ _, fun g e => (by cases e), rfl, rfl, rfl, rfl, Nat.le_refl _, fun i hi => absurd hi (Nat.not_lt_zero i), fun i hi => absurd hi (Nat.not_lt_zero i), fun i hi => absurd hi (Nat.not_lt_zero i), fun i hi => absurd hi (Nat.not_lt_zero i)⟩, rfl, fun i hi => absurd hi (Nat.not_lt_zero i), fun i hi => absurd hi (Nat.not_lt_zero i), fun i hi => absurd hi (Nat.not_lt_zero i), by simp⟩
theorem B4.new {W w : World} (hb : Below W.heap.size W w) : ∃ c x, B4 W (w.alloc (.cells #[.slice none 0 0, .slice none 0 0, .slice none 0 0, .slice none 0 0, .slice none 0 0, .slice none 0 0, .slice none 0 0, .slice none 0 0, .slice none 0 0, .slice none 0 0, .slice none 0 0, .slice none 0 0, .slice none 0 0, .slice none 0 0, .slice none 0 0, .slice none 0 0] TB)) c w.heap.size x 0 := by
  have hk := World.alloc_heap_new w (.cells #[.slice none 0 0, .slice none 0 0, .slice none 0 0, .slice none 0 0, .slice none 0 0, .slice none 0 0, .slice none 0 0, .slice none 0 0, .slice none 0 0, .slice none 0 0, .slice none 0 0, .slice none 0 0, .slice none 0 0, .slice none 0 0, .slice none 0 0, .slice none 0 0] TB)
  have hc : ∀ o, o < 16 → (w.alloc (.cells #[.slice none 0 0, .slice none 0 0, .slice none 0 0, .slice none 0 0, .slice none 0 0, .slice none 0 0, .slice none 0 0, .slice none 0 0, .slice none 0 0, .slice none 0 0, .slice none 0 0, .slice none 0 0, .slice none 0 0, .slice none 0 0, .slice none 0 0, .slice none 0 0] TB)).cell? ⟨w.heap.size, o, none⟩ = some (.slice none 0 0) := fun o ho => by
    simp only [World.cell?, hk]
    match o, ho with
    | 0, _ | 1, _ | 2, _ | 3, _ | 4, _ | 5, _ | 6, _ | 7, _ | 8, _ | 9, _ | 10, _ | 11, _ | 12, _ | 13, _ | 14, _ | 15, _ => rfl
    | o + 16, h => exact absurd h (by omega)
  have ho : Obj4 TB (w.alloc (.cells #[.slice none 0 0, .slice none 0 0, .slice none 0 0, .slice none 0 0, .slice none 0 0, .slice none 0 0, .slice none 0 0, .slice none 0 0, .slice none 0 0, .slice none 0 0, .slice none 0 0, .slice none 0 0, .slice none 0 0, .slice none 0 0, .slice none 0 0, .slice none 0 0] TB)) w.heap.size := ⟨_, hk⟩
  refine ⟨fun k => if k = w.heap.size then 28 else 0, ⟨_, _, _, _⟩, Bq.nil (by decide) ho (fun o h1 h2 => hc o (by omega)) hb.size (by simp), Bq.nil (by decide) ho (fun o h1 h2 => hc o (by omega)) hb.size (by simp), Bq.nil (by decide) ho (fun o h1 h2 => hc o (by omega)) hb.size (by simp), Bq.nil (by decide) ho (fun o h1 h2 => hc o (by omega)) hb.size (by simp), Below.on hb (Below.al (Below.refl _ _) _)⟩
/-- a row of steps -/
def RowSx (w : World) (a : Option Addr) (xs : List Sx) : Prop := ∀ i (hi : i < xs.length), ∃ b off, a = some ⟨b, off, none⟩ ∧ ∀ o u, xs[i].cells[o]? = some u → w.cell? ⟨b, off + (i * 12 + o), none⟩ = some u
abbrev theText : ByteArray := ⟨#[115, 104, 97, 114, 100, 115, 32, 50, 10, 99, 108, 105, 101, 110, 116, 115, 32, 49, 10, 99, 97, 112, 97, 99, 105, 116, 121, 32, 50, 53, 54, 10, 112, 97, 114, 107, 32, 48, 10, 119, 105, 110, 100, 111, 119, 32, 48, 10, 115, 112, 108, 105, 116, 32, 109]⟩
theorem head_run : parA (runL (lns theText.data.toList) Dr.none false) = 0 := by kernel_rfl
theorem head_cf (a : Option Addr) (c : Nat) : (runL (lns theText.data.toList) Dr.none false).2.cf a c = ⟨2, 1, a, c, [⟨#[109]⟩], 256, 0, 0⟩ := by
  have h0 : (runL (lns theText.data.toList) Dr.none false).2.f 0 = some 2 := by kernel_rfl
  have h1 : (runL (lns theText.data.toList) Dr.none false).2.f 1 = some 1 := by kernel_rfl
  have h2 : (runL (lns theText.data.toList) Dr.none false).2.f 2 = some 256 := by kernel_rfl
  have h3 : (runL (lns theText.data.toList) Dr.none false).2.f 3 = some 0 := by kernel_rfl
  have h4 : (runL (lns theText.data.toList) Dr.none false).2.f 4 = some 0 := by kernel_rfl
  have h5 : (runL (lns theText.data.toList) Dr.none false).2.sp = [[109]] := by kernel_rfl
  unfold Dr.cf
  rw [h0, h1, h2, h3, h4, h5]
  rfl
theorem head_sp : (runL (lns theText.data.toList) Dr.none false).2.sp = [[109]] := by kernel_rfl
theorem head_own (a : Option Addr) (c : Nat) : Cf.own ⟨2, 1, a, c, [⟨#[109]⟩], 256, 0, 0⟩ ⟨#[109]⟩ = 1 := by
  show Cf.own ⟨2, 1, none, 0, [⟨#[109]⟩], 256, 0, 0⟩ ⟨#[109]⟩ = 1
  kernel_rfl
theorem head_is {W : World} {ea eb ex ey : Addr} (hG : Gx W ea eb ex ey) : Calls Tryz.prog 4 #[.string theText] W fun e w' => ∃ a k, e = .returned (.tuple #[.agg #[.int .i64 2, .int .i64 1, .slice a 1 k, .int .i64 256, .int .i64 0, .int .u64 0], .int .i64 0]) ∧ Hid (RowS w' a [⟨#[109]⟩]) ∧ Below W.heap.size W w' := by
  have h := parse_any (t := theText) hG (by decide)
  rw [if_pos (by decide)] at h
  refine h.mono ?_
  rintro e w' ⟨hb, ⟨_, va, vc, rfl, hrow⟩ | ⟨hn, _⟩⟩
  · refine ⟨va, vc, by rw [head_cf va vc]; rfl, hid ?_, hb⟩
    rw [flatT_is] at hrow
    rw [head_sp] at hrow
    have := (owns_rowF okT (xs := [⟨#[109]⟩]) hrow).rd
    exact rowT_of this
  · exact absurd head_run hn
set_option maxRecDepth 16000 in
set_option maxHeartbeats 8000000 in
theorem law_exact {W : World} {a : Option Addr} {cap : Nat} {xs : List Sx} {ea eb ex ey : Addr} (hP : PowTab W) (hG : Gx W ea eb ex ey) (hr : RowSx W a xs) (hx : ∀ x ∈ xs, x.Ok W) (hn : xs.length ≤ 1048576) :
    Calls Tryz.prog 3 #[.slice a xs.length cap] W fun e w' => e = .returned (.bool true) ∧ Below W.heap.size W w' := by
  have HD := hid (head_is hG)
  have HP := hid hP; have HG := hid hG; have HR := hid hr; have HX := hid hx
  clear hP hG hr hx
  go_enter Tryz.func3, Tryz.ntmps3
  go_wp2_with fail
  refine HD.out.mono ?_
  rintro e w1 ⟨a1, k1, rfl, HR1, hb1⟩
  obtain ⟨g1, o1, rfl, hm1⟩ := HR1.out 0 (by simp)
  have hm1 : w1.cell? ⟨g1, o1, none⟩ = some (.string ⟨#[109]⟩) := by simpa [nthS] using hm1
  obtain ⟨wB, hwB⟩ : ∃ wB, wB = w1.alloc (.cells #[.int .i64 2, .int .i64 1, .slice (some ⟨g1, o1, none⟩) 1 k1, .int .i64 256, .int .i64 0, .int .u64 0] 26) := ⟨_, rfl⟩
  have hbB : Below w1.heap.size w1 wB := by rw [hwB]; (repeat (first | with_reducible exact Below.refl _ _ | with_reducible assumption | with_reducible refine Below.drew ?_ | with_reducible refine Below.al ?_ _ | with_reducible refine Below.setCell ?_ (by first | exact Nat.le_refl _ | (simp; omega) | (simp; done)) _ | with_reducible refine Below.on ?_ (by assumption)))
  have hmB := cell_later hbB hm1
  have CO := Owner_is (c := ⟨2, 1, some ⟨g1, o1, none⟩, k1, [⟨#[109]⟩], 256, 0, 0⟩) (w := wB) ⟨HR1.out.later hbB, by simp, ⟨by show (-9223372036854775808 : Int) ≤ 2; decide, by show (2 : Int) ≤ 9223372036854775807; decide⟩⟩ ⟨#[109]⟩
  rw [head_own] at CO
  have CO := hid CO
  have HB1 := hid (Below.on hb1 hbB)
  rw [hwB] at hmB
  clear hb1 hbB hm1
  go_wp2_with (go_at_call 5; rw [← hwB]; refine CO.out.mono ?_; rintro e w2 ⟨rfl, hb2⟩)
  have HN := hid (B4.new (Below.on HB1.out hb2))
  obtain ⟨bk, hbk⟩ : ∃ bk, bk = w2.heap.size := ⟨_, rfl⟩
  obtain ⟨w3, hw3⟩ : ∃ w3, w3 = w2.alloc (.cells #[.slice none 0 0, .slice none 0 0, .slice none 0 0, .slice none 0 0, .slice none 0 0, .slice none 0 0, .slice none 0 0, .slice none 0 0, .slice none 0 0, .slice none 0 0, .slice none 0 0, .slice none 0 0, .slice none 0 0, .slice none 0 0, .slice none 0 0, .slice none 0 0] TB) := ⟨_, rfl⟩
  rw [← hbk, ← hw3] at HN
  have HB2 := hid hb2
  clear hmB hb2 CO hwB
  rw [← hw3, ← hbk]
  clear hw3 hbk
  go_loopg [6] xs.length (fun gg s6 wr => ∃ i : Nat, i ≤ xs.length ∧ gg = xs.length - i ∧ s6 = .int .i64 i ∧ Hid (∃ c x, B4 W wr c bk x (26 * i)))
  case atStart => exact ⟨0, by omega, by omega, rfl, HN⟩
  case round =>
    obtain ⟨i, hi, rfl, rfl, HQ⟩ := hrel
    clear HN
    by_cases hlt : i < xs.length
    · obtain ⟨b, off, rfl, hc⟩ := HR.out i hlt
      have hxo := HX.out xs[i] (List.getElem_mem hlt)
      generalize xs[i] = x at hc hxo
      obtain ⟨kd, t, ⟨sh, cl, sa, sp, ss, ca, pk, wi⟩, ⟨lo, hi2⟩, ra, rc, rs, wa, wc, ws⟩ := x
      have HC : Hid (∀ z, Below W.heap.size W z → z.cell? ⟨b, off + i * 12, none⟩ = some (.int .i64 kd) ∧ z.cell? ⟨b, off + i * 12 + 1, none⟩ = some (.string t) ∧ z.cell? ⟨b, off + i * 12 + 2, none⟩ = some (.int .i64 sh) ∧ z.cell? ⟨b, off + i * 12 + 3, none⟩ = some (.int .i64 cl) ∧ z.cell? ⟨b, off + i * 12 + 4, none⟩ = some (.slice sa ss.length sp) ∧ z.cell? ⟨b, off + i * 12 + 5, none⟩ = some (.int .i64 ca) ∧ z.cell? ⟨b, off + i * 12 + 6, none⟩ = some (.int .i64 pk) ∧ z.cell? ⟨b, off + i * 12 + 7, none⟩ = some (.int .u64 wi) ∧ z.cell? ⟨b, off + i * 12 + 8, none⟩ = some (.string lo) ∧ z.cell? ⟨b, off + i * 12 + 9, none⟩ = some (.string hi2) ∧ z.cell? ⟨b, off + i * 12 + 10, none⟩ = some (.slice ra rs.length rc) ∧ z.cell? ⟨b, off + i * 12 + 11, none⟩ = some (.slice wa ws.length wc)) := hid (fun z hb => ⟨cell_later hb (hc 0 _ rfl), cell_later hb (hc 1 _ rfl), cell_later hb (hc 2 _ rfl), cell_later hb (hc 3 _ rfl), cell_later hb (hc 4 _ rfl), cell_later hb (hc 5 _ rfl), cell_later hb (hc 6 _ rfl), cell_later hb (hc 7 _ rfl), cell_later hb (hc 8 _ rfl), cell_later hb (hc 9 _ rfl), cell_later hb (hc 10 _ rfl), cell_later hb (hc 11 _ rfl)⟩)
      have HXO := hid hxo
      obtain ⟨c, y, hb0⟩ := HQ.out
      have TX := hid (texts_all HP.out HG.out HXO.out hb0 (by omega))
      obtain ⟨d0, d1, d2, d3, d4, d5, d6, d7, d8, d9, d10, d11⟩ := HC.out wr hb0.bl
      have hI : (i : Int) < (xs.length : Int) := by omega
      clear hc hxo hb0
      go_wp2_with (first
        | (go_at_call 6; refine TX.out.mono ?_; rintro e wt ⟨rfl, HT⟩; clear d0 d1 d2 d3 d4 d5 d6 d7 d8 d9 d10 d11; obtain ⟨ct, yt, hbt⟩ := HT.out; obtain ⟨d0, d1, d2, d3, d4, d5, d6, d7, d8, d9, d10, d11⟩ := HC.out wt hbt.bl; have SH := hid (shards_all HP.out HXO.out hbt (by omega)); clear hbt)
        | (go_at_call 7; refine SH.out.mono ?_; rintro e wu ⟨rfl, HU⟩; clear d0 d1 d2 d3 d4 d5 d6 d7 d8 d9 d10 d11; obtain ⟨cu, yu, hbu⟩ := HU.out; have WH := hid (whole4_is HP.out hbu (by omega)); clear hbu)
        | (go_at_call 8; refine WH.out.mono ?_; rintro e wv ⟨rfl, HV⟩))
      go_roundg (xs.length - (i + 1))
      case measure => omega
      case rel => exact ⟨i + 1, by omega, rfl, by go_num, hid (by obtain ⟨c', x', h⟩ := HV.out; exact ⟨c', x', h.mono (by omega)⟩)⟩
    · obtain rfl : i = xs.length := by omega
      obtain ⟨c, y, hb0⟩ := HQ.out
      have ST := hid (settle4_is HP.out hb0 (by omega))
      clear hb0
      go_wp2_with fail
      refine ST.out.mono ?_
      rintro e wz ⟨rfl, HZ⟩
      have HE : Hid (Below W.heap.size W wz) := hid (by obtain ⟨c', x', h⟩ := HZ.out; exact h.bl)
      go_wp2_with fail
      go_ret
      exact ⟨rfl, HE.out⟩
end Go.Proofs.YthenfioddnkjbaaGreatDoor.Bg
