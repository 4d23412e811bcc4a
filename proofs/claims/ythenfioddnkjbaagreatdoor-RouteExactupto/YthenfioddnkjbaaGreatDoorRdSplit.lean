import Derived.Test.YthenfioddnkjbaaGreatDoorRxNum
import Derived.Test.YthenfioddnkjbaaGreatDoorRxNumE
import Derived.Test.YthenfioddnkjbaaGreatDoorDOnl
import Derived.Test.YthenfioddnkjbaaGreatDoorRzMark
import Derived.Test.YthenfioddnkjbaaGreatDoorRMay
import Derived.Laws.AppendOwn
/- A line's number, taken. -/
namespace Go.Proofs.YthenfioddnkjbaaGreatDoor.Rt
open Go.RowKit Go.Sort
set_option linter.unusedVariables false

set_option maxRecDepth 16000 in
set_option maxHeartbeats 2000000 in
theorem ftake_is {u o p : Nat} {t : ByteArray} {ty : TypeId} {a : Option Addr} {w : World} {x : Value} (hu : u < 18446744073709551616) (ht : t.data.toList = Lib.decDigits u) (hs : t.size ≤ 1000) (hg : w.cell? ⟨4, 0, none⟩ = some (.iface ty (.pointer a))) (hp : p ≠ 4)
    (h0 : w.cell? ⟨p, o, none⟩ = some (.bool false)) (h1 : w.cell? ⟨p, o + 1, none⟩ = some x) (hf : ∀ o, w.frozen? ⟨p, o, none⟩ = false) (hl : p < w.heap.size) :
    Calls Tryz.prog 106 #[.pointer (some ⟨p, o, none⟩), .string t] w fun e w' => e = .returned .nilIface ∧ ∃ w1, Below w.heap.size (w.setCell ⟨p, o, none⟩ (.bool true)) w1 ∧ w' = w1.setCell ⟨p, o + 1, none⟩ (.int .u64 (u : Nat)) := by
  obtain ⟨wc, hwc⟩ : ∃ wc, wc = w.setCell ⟨p, o, none⟩ (.bool true) := ⟨_, rfl⟩
  have hgc : wc.cell? ⟨4, 0, none⟩ = some (.iface ty (.pointer a)) := by rw [hwc, World.cell?_setCell_other (h := fun e => hp (congrArg Addr.block e))]; exact hg
  have HN := hid (number_is hu ht hs hgc)
  have f0 := hf o
  have h1c : wc.cell? ⟨p, o + 1, none⟩ = some x := by rw [hwc, World.cell?_setCell_other (h := fun e => by have := congrArg Addr.off e; simp at this)]; exact h1
  have f1 : wc.frozen? ⟨p, o + 1, none⟩ = false := by rw [hwc, World.frozen?_setCell]; exact hf _
  have hlc : p < wc.heap.size := by rw [hwc, World.size_setCell]; exact hl
  have hsz : wc.heap.size = w.heap.size := by rw [hwc, World.size_setCell]
  go_enter Tryz.func106, Tryz.ntmps106
  go_wp2_with fail
  rw [← hwc]
  refine HN.out.mono ?_
  rintro e w2 ⟨rfl, hb⟩
  have k1 := cell_later hb h1c
  have k2 := (hb.frozen (p := ⟨p, o + 1, none⟩) hlc).trans f1
  go_wp2_with fail
  go_ret
  exact ⟨rfl, w2, by rw [← hwc, ← hsz]; exact hb, rfl⟩
theorem ftwice_is {o p : Nat} {t : ByteArray} {x : Value} {w : World} (h0 : w.cell? ⟨p, o, none⟩ = some (.bool true)) (hg : w.cell? ⟨0, 0, none⟩ = some x) :
    Calls Tryz.prog 106 #[.pointer (some ⟨p, o, none⟩), .string t] w fun e w' => e = .returned x ∧ w' = w := by
  go_enter Tryz.func106, Tryz.ntmps106
  go_wp2_with fail
  go_ret
  exact ⟨rfl, rfl⟩
end Go.Proofs.YthenfioddnkjbaaGreatDoor.Rt
/- Unword, as the program reads a word. -/
namespace Go.Proofs.YthenfioddnkjbaaGreatDoor.Rt
open Go.RowKit Go.Sort
set_option linter.unusedVariables false

/-- where a byte stands among the hex digits -/
def hvI (x : Nat) : Int := match hv x with
  | some n => (n : Int)
  | none => -1
theorem hvI_fin : ∀ x : Fin 256, (Lib.indexByte [48, 49, 50, 51, 52, 53, 54, 55, 56, 57, 97, 98, 99, 100, 101, 102] (UInt8.ofNat x.val) : Int) = hvI x.val := by decide +kernel
theorem digit_is {x : Nat} (h : x < 256) (w : World) :
    Calls Tryz.prog 102 #[.string ⟨#[48, 49, 50, 51, 52, 53, 54, 55, 56, 57, 97, 98, 99, 100, 101, 102]⟩, .int .u8 (x : Int)] w fun e w' => e = .returned (.int .i64 (hvI x)) ∧ Below w.heap.size w w' := by
  refine (Tryz.strings_IndexByte _ _ w).mono ?_
  rintro e w' ⟨rfl, rfl⟩
  refine ⟨?_, Below.refl _ _⟩
  rw [← hvI_fin ⟨x, h⟩]
  rfl
theorem or_fin : ∀ p q : Fin 16, bits .or .i64 ((p.val : Int) * 16) (q.val : Int) = ((p.val * 16 + q.val : Nat) : Int) := by decide +kernel
theorem or_is {p q : Nat} (hp : p < 16) (hq : q < 16) : bits .or .i64 ((p : Int) * 16) (q : Int) = ((p * 16 + q : Nat) : Int) := or_fin ⟨p, hp⟩ ⟨q, hq⟩

/-- what first answers -/
def fstA (l : List Nat) : Nat × Nat := (fst l).getD (0, 0)
theorem isAt {l : List Nat} {i : Nat} (h : i < l.length) : ∃ c, l[i]? = some c := ⟨l[i], List.getElem?_eq_getElem h⟩

set_option maxRecDepth 32000 in
set_option maxHeartbeats 4000000 in
theorem first_is {l : List Nat} (h8 : B8 l) (hl : l.length ≤ 140737488355328) (hne : l ≠ []) (w : World) :
    Calls Tryz.prog 74 #[.string (ofNats l)] w fun e w' => e = .returned (.tuple #[.int .u8 ((fstA l).1 : Int), .int .i64 ((fstA l).2 : Int)]) ∧ Below w.heap.size w w' := by
  have H8 := hid h8
  have hsz : (ofNats l).size = l.length := ofNats_size l
  have hpos : 0 < l.length := List.length_pos_iff.2 hne
  obtain ⟨a, ha⟩ := isAt hpos
  have ha8 : a < 256 := h8 a (List.mem_of_getElem? ha)
  have hi0 : ∀ w, (Instr.index 9 (.string (ofNats l)) (.int .i64 0)).run Tryz.prog w = .ok (.int .u8 (a : Int)) w := fun w => index_ofNats (k := 0) h8 ha w
  have HA := hid ha
  clear h8 ha hne
  cases hp : plB a
  · by_cases h37 : a = 37
    · by_cases h3 : l.length < 3
      · have HF : Hid (fstA l = (0, 0)) := hid (by
          have ha := HA.out
          unfold fstA
          rcases l with _ | ⟨b, _ | ⟨x, _ | ⟨y, r⟩⟩⟩
          · rfl
          · simp at ha; subst ha; simp [fst, hp]
          · simp at ha; subst ha; simp [fst, hp]
          · simp at h3; omega)
        subst h37
        clear HA
        go_enter Tryz.func74, Tryz.ntmps74
        go_wp2_with fail
        refine (plain_is ha8 hp _).mono ?_
        rintro e w1 ⟨rfl, rfl⟩
        go_wp2_with fail
        go_ret2
        exact ⟨by rw [HF.out]; rfl, Below.refl _ _⟩
      · obtain ⟨x, hx⟩ := isAt (show 1 < l.length by omega)
        obtain ⟨y, hy⟩ := isAt (show 2 < l.length by omega)
        have hx8 : x < 256 := H8.out x (List.mem_of_getElem? hx)
        have hy8 : y < 256 := H8.out y (List.mem_of_getElem? hy)
        have hi1 : ∀ w, (Instr.index 9 (.string (ofNats l)) (.int .i64 1)).run Tryz.prog w = .ok (.int .u8 (x : Int)) w := fun w => index_ofNats (k := 1) H8.out hx w
        have hi2 : ∀ w, (Instr.index 9 (.string (ofNats l)) (.int .i64 2)).run Tryz.prog w = .ok (.int .u8 (y : Int)) w := fun w => index_ofNats (k := 2) H8.out hy w
        have HL : Hid (∃ r, l = a :: x :: y :: r) := hid (by
          have ha := HA.out
          rcases l with _ | ⟨b, _ | ⟨x', _ | ⟨y', r⟩⟩⟩
          · simp at h3
          · simp at h3
          · simp at h3
          · simp at ha hx hy; exact ⟨r, by rw [ha, hx, hy]⟩)
        subst h37
        have h3' : 3 ≤ l.length := by omega
        clear HA hx hy h3
        go_enter Tryz.func74, Tryz.ntmps74
        go_wp2_with fail
        refine (plain_is ha8 hp _).mono ?_
        rintro e w1 ⟨rfl, rfl⟩
        go_wp2_with fail
        have HX := hid (digit_is hx8)
        have HY := hid (digit_is hy8)
        refine wp_region_quiet_below (by kernel_rfl) (by kernel_rfl) ?_
        repeat (go_big_quiet_step (first | (go_at_call 102; exact Calls.regrown_of (HX.out _)) | (go_at_call 102; exact Calls.regrown_of (HY.out _))))
        refine wpQuiet_nil ?_
        intro w2 hw2
        replace hw2 := below_of_regrown hw2
        clear HX HY
        cases hvx : hv x with
        | none =>
          have ex : hvI x = -1 := by rw [hvI, hvx]
          have HF : Hid (fstA l = (0, 0)) := hid (by obtain ⟨r, rfl⟩ := HL.out; simp [fstA, fst, hp, hvx])
          rw [ex]
          go_wp2_with fail
          go_ret2
          exact ⟨by rw [HF.out]; rfl, hw2⟩
        | some n =>
          have ex : hvI x = n := by rw [hvI, hvx]
          have hn16 := (hx_hv hvx).2
          rw [ex]
          cases hvy : hv y with
          | none =>
            have ey : hvI y = -1 := by rw [hvI, hvy]
            have HF : Hid (fstA l = (0, 0)) := hid (by obtain ⟨r, rfl⟩ := HL.out; simp [fstA, fst, hp, hvx, hvy])
            rw [ey]
            go_wp2_with fail
            go_ret2
            exact ⟨by rw [HF.out]; rfl, hw2⟩
          | some m =>
            have ey : hvI y = m := by rw [hvI, hvy]
            have hm16 := (hx_hv hvy).2
            have hor := or_is hn16 hm16
            rw [ey]
            have hb8 : n * 16 + m < 256 := by omega
            cases hq : plB (n * 16 + m)
            · have HF : Hid (fstA l = (n * 16 + m, 3)) := hid (by obtain ⟨r, rfl⟩ := HL.out; simp [fstA, fst, hp, hvx, hvy, hq])
              go_wp2_with fail
              refine (plain_is hb8 hq _).mono ?_
              rintro e w3 ⟨rfl, rfl⟩
              go_wp2_with fail
              go_ret2
              exact ⟨by rw [HF.out]; rfl, hw2⟩
            · have HF : Hid (fstA l = (0, 0)) := hid (by obtain ⟨r, rfl⟩ := HL.out; simp [fstA, fst, hp, hvx, hvy, hq])
              go_wp2_with fail
              refine (plain_is hb8 hq _).mono ?_
              rintro e w3 ⟨rfl, rfl⟩
              go_wp2_with fail
              go_ret2
              exact ⟨by rw [HF.out]; rfl, hw2⟩
    · have HF : Hid (fstA l = (0, 0)) := hid (by
        have ha := HA.out
        unfold fstA
        rcases l with _ | ⟨b, _ | ⟨x, _ | ⟨y, r⟩⟩⟩
        · rfl
        · simp at ha; subst ha; simp [fst, hp]
        · simp at ha; subst ha; simp [fst, hp]
        · simp at ha; subst ha; simp [fst, hp, h37])
      have h37' : ((a : Int) == 37) = false := by simp; omega
      clear HA
      go_enter Tryz.func74, Tryz.ntmps74
      go_wp2_with fail
      refine (plain_is ha8 hp _).mono ?_
      rintro e w1 ⟨rfl, rfl⟩
      go_wp2_with fail
      go_ret2
      exact ⟨by rw [HF.out]; rfl, Below.refl _ _⟩
  · have HF : Hid (fstA l = (a, 1)) := hid (by
      have ha := HA.out
      rcases l with _ | ⟨b, r⟩
      · simp at ha
      · simp at ha; subst ha; simp [fstA, fst, hp])
    clear HA
    go_enter Tryz.func74, Tryz.ntmps74
    go_wp2_with fail
    refine (plain_is ha8 hp _).mono ?_
    rintro e w1 ⟨rfl, rfl⟩
    go_wp2_with fail
    go_ret2
    exact ⟨by rw [HF.out]; rfl, Below.refl _ _⟩

end Go.Proofs.YthenfioddnkjbaaGreatDoor.Rt
/- Unword: the walk. -/
namespace Go.Proofs.YthenfioddnkjbaaGreatDoor.Rt
open Go.RowKit Go.Sort
set_option linter.unusedVariables false

/-- what Unword answers -/
def unA (l : List Nat) : List Nat × Int := match unword l with
  | some r => (r, 0)
  | none => ([], 120)
theorem empty_of {l : List Nat} (h : l ≠ []) : (ofNats l).toList.isEmpty = false := by
  cases l with
  | nil => exact absurd rfl h
  | cons a l => simp [ofNats, ByteArray.toList_eq]
theorem ofNats_nil : ofNats [] = ⟨#[]⟩ := rfl
theorem pct_is {l : List Nat} (h8 : B8 l) : ((ofNats l).toList == [37]) = decide (l = [37]) := by
  rw [Bool.eq_iff_iff, beq_iff_eq, decide_eq_true_eq]
  constructor
  · intro h
    rw [ByteArray.toList_eq] at h
    have h2 : nums (ofNats l) = [37] := by unfold nums; rw [h]; rfl
    rw [nums_ofNats h8] at h2
    exact h2
  · rintro rfl; simp [ofNats, ByteArray.toList_eq]
theorem builder_later {B b : Nat} {p : Value} {bs : List Value} {w w' : World} (h : Lib.BuilderAt BT 5 B b p bs w) (hb : Below w.heap.size w w') : Lib.BuilderAt BT 5 B b p bs w' := by
  have hlt := h.lt
  obtain ⟨h1, v, h2, h3, h4⟩ := h
  exact ⟨h1, v, by rw [hb.block b hlt]; exact h2, h3.kept (row := none) ⟨hb.os, hb.tape, hb.output, hb.size, fun k hk _ => hb.block k hk⟩ (by cases v.ownBlock <;> simp), h4⟩
theorem Bld.on {w0 w w' : World} {b : Nat} {l : List Nat} (h : Bld w0 w b l) (hb : Below w.heap.size w w') : Bld w0 w' b l :=
  ⟨h.is.imp (fun x => builder_later x hb) (fun x => builder_later x hb), Below.on h.bl hb⟩

/-- what is read so far, and what is left -/
structure Rd (w wr : World) (l acc r : List Nat) : Prop where
  b8 : B8 r
  bld : Bld w wr w.heap.size acc
  eq : unw l.length l = (unw l.length r).map (acc ++ ·)
  len : acc.length + r.length ≤ l.length

set_option maxHeartbeats 4000000 in
theorem unword_is {l : List Nat} (h8 : B8 l) (hl : l.length + 1 ≤ 140737488355328) (w : World) :
    Calls Tryz.prog 24 #[.string (ofNats l)] w fun e w' => e = .returned (.tuple #[.string (ofNats (unA l).1), .int .i64 (unA l).2]) ∧ Below w.heap.size w w' := by
  have H8 := hid h8
  by_cases h37 : l = [37]
  · subst h37
    have hpc : ((ofNats [37]).toList == [37]) = true := by rw [pct_is H8.out]; rfl
    go_enter Tryz.func24, Tryz.ntmps24
    go_wp2_with fail
    go_ret2
    exact ⟨rfl, Below.refl _ _⟩
  · have hpc : ((ofNats l).toList == [37]) = false := by rw [pct_is h8]; simp [h37]
    by_cases h0 : l = []
    · subst h0
      have hne : (ofNats []).toList.isEmpty = true := by simp [ofNats, ByteArray.toList_eq]
      go_enter Tryz.func24, Tryz.ntmps24
      go_wp2_with fail
      go_ret2
      exact ⟨rfl, Below.refl _ _⟩
    · have hne := empty_of h0
      have HU : Hid (unword l = unw l.length l) := hid (by rw [unword, if_neg h37, if_neg h0])
      have HR : Hid (Rd w (w.alloc (.cells #[.pointer none, .slice none 0 0] BT)) l [] l) := hid ⟨h8, Bld.new w, by simp, by simp⟩
      clear h8 h37 h0
      go_enter Tryz.func24, Tryz.ntmps24
      go_wp2_with fail
      clear hne hpc
      go_loopg [0] l.length (fun g s0 wr => ∃ acc r : List Nat, s0 = .string (ofNats r) ∧ g = r.length ∧ r.length ≤ l.length ∧ Hid (Rd w wr l acc r))
      case atStart => exact ⟨[], l, rfl, rfl, Nat.le_refl _, HR⟩
      case round =>
        obtain ⟨acc, r, rfl, rfl, hrl, HK⟩ := hrel
        clear HR
        by_cases hr : r = []
        · subst hr
          have hne : (ofNats []).toList.isEmpty = true := by simp [ofNats, ByteArray.toList_eq]
          have HE : Hid (unA l = (acc, 0)) := hid (by
            have h1 := HK.out.eq
            have h2 : unw l.length [] = some [] := by cases l.length <;> rfl
            rw [h2] at h1
            simp at h1
            rw [unA, HU.out, h1])
          go_wp2_with fail
          refine (text_is HK.out.bld).mono ?_
          rintro e w2 ⟨rfl, hw2⟩
          go_wp2_with fail
          go_ret2
          exact ⟨by rw [HE.out]; rfl, hw2⟩
        · have hne := empty_of hr
          have hsz : (ofNats r).size = r.length := ofNats_size r
          go_wp2_with fail
          refine (first_is HK.out.b8 (by omega) hr _).mono ?_
          rintro e w2 ⟨rfl, hw2⟩
          cases hf : fst r with
          | none =>
            have ef : fstA r = (0, 0) := by rw [fstA, hf]; rfl
            have HE : Hid (unA l = ([], 120)) := hid (by
              have h1 := HK.out.eq
              rw [unw_none hr hf] at h1
              rw [unA, HU.out, h1]; rfl)
            rw [ef]
            have HB := hid (Below.on HK.out.bld.bl hw2)
            clear hw2
            go_wp2_with fail
            go_ret2
            exact ⟨by rw [HE.out]; rfl, HB.out⟩
          | some p =>
            obtain ⟨b, n⟩ := p
            have ef : fstA r = (b, n) := by rw [fstA, hf]; rfl
            rw [ef]
            obtain ⟨hn, hnl, hb8⟩ := fst_size HK.out.b8 hf
            have hn0 : n ≠ 0 := by omega
            have HB := hid (HK.out.bld.on hw2)
            have HS : Hid (unw l.length l = (unw l.length (r.drop n)).map ((acc ++ [b]) ++ ·)) := hid (by
              have h1 := HK.out.eq
              rw [unw_step HK.out.b8 hrl hf, Option.map_map] at h1
              rw [h1]
              congr 1
              funext x
              simp)
            have hex : (ofNats r).extract n r.length = ofNats (r.drop n) := by
              rw [ofNats_extract HK.out.b8, List.take_length]
            have HL := hid HK.out.len
            have HD := hid (HK.out.b8.drop n)
            clear hw2 HK hn
            go_wp2_with fail
            refine (add_is HB.out hb8 (by have := HL.out; omega)).mono ?_
            rintro e w3 ⟨rfl, hw3⟩
            have HW := hid hw3
            clear hw3
            go_wp2_with fail
            go_roundg (r.drop n).length
            case measure => simp; omega
            case rel => exact ⟨acc ++ [b], r.drop n, rfl, rfl, by simp; omega, hid ⟨HD.out, HW.out, HS.out, by have := HL.out; simp; omega⟩⟩

end Go.Proofs.YthenfioddnkjbaaGreatDoor.Rt
/- A split key's line, taken. -/
namespace Go.Proofs.YthenfioddnkjbaaGreatDoor.Rt
open Go.RowKit Go.Sort
set_option linter.unusedVariables false

theorem infoStr : (Tryz.prog.info? 9).map (fun i => (i.zero, i.size, i.bytes)) = some (some (.string ⟨#[]⟩), 1, 16) := by kernel_rfl
theorem info_some {t : TypeId} {z : Option Value} {a b : Nat} (h : (Tryz.prog.info? t).map (fun i => (i.zero, i.size, i.bytes)) = some (z, a, b)) : ∃ i, Tryz.prog.info? t = some i ∧ i.zero = z ∧ i.size = a ∧ i.bytes = b := by
  cases e : Tryz.prog.info? t with
  | none => rw [e] at h; cases h
  | some i =>
    rw [e] at h
    have h' : (i.zero, i.size, i.bytes) = (z, a, b) := Option.some.inj h
    injection h' with h1 h2
    injection h2 with h2 h3
    exact ⟨i, rfl, h1, h2, h3⟩
theorem row_sl {w : World} {B n k : Nat} {t : TypeId} {v : Value} {xs : List Value} (h : w.ownsRow B t k v n xs) : ∃ a c, v = .slice a n c := by
  rcases h.2 with ⟨rfl, rfl⟩ | ⟨g, cap, cur, rfl, _⟩
  · exact ⟨_, _, rfl⟩
  · exact ⟨_, _, rfl⟩
set_option maxRecDepth 16000 in
set_option maxHeartbeats 2000000 in
theorem tsplit_is {w : World} {p B n : Nat} {l : List Nat} {s : List Nat} {v : Value} {xs : List Value} (h8 : B8 l) (hl : l.length ≤ 1000) (hs : unA l = (s, 0)) (h10 : w.cell? ⟨p, 10, none⟩ = some v) (hf : ∀ o, w.frozen? ⟨p, o, none⟩ = false) (hp : p < w.heap.size)
    (ho : w.ownsRow B 9 1 v n xs) (hB : B ≤ w.heap.size) (hn : n ≤ 1000) (hv : v.ownBlock ≠ some p) :
    Calls Tryz.prog 107 #[.pointer (some ⟨p, 0, none⟩), .string (ofNats l)] w fun e w' => e = .returned .nilIface ∧ ∃ v' w1, w1.ownsRow B 9 1 v' (n + 1) (xs ++ [.string (ofNats s)]) ∧ w1.cell? ⟨p, 10, none⟩ = some v ∧ Onl (fun k => v.ownBlock = some k) w w1 ∧ w' = w1.setCell ⟨p, 10, none⟩ v' := by
  have HU := hid (unword_is h8 (by omega) w)
  rw [hs] at HU
  obtain ⟨i0, hi0, hz0, hs0, hb0⟩ := info_some infoStr
  obtain ⟨va, vc, rfl⟩ := row_sl ho
  go_enter Tryz.func107, Tryz.ntmps107
  go_wp2_with fail
  refine HU.out.mono ?_
  rintro e w1 ⟨rfl, hb⟩
  have k10 := cell_later hb h10
  have ho1 := owns_keep ho fun g hg => hb.block g (World.ownsRow.lt ho g hg).2
  have hlp : p < w1.heap.size := Nat.lt_of_lt_of_le hp hb.size
  have hfz := fun o => (hb.frozen (p := ⟨p, o, none⟩) hp).trans (hf o)
  have HB1 := hid hb
  clear hb
  have HAL : Hid (∀ o, Below w1.heap.size w1 (w1.alloc o)) := hid fun o => Below.al (Below.refl _ _) _
  have HOX : Hid (∀ o, (w1.alloc o).ownsRow B 9 1 (.slice va n vc) n xs) := hid fun o => owns_keep ho1 fun g hg => (HAL.out o).block g (World.ownsRow.lt ho1 g hg).2
  have HB2 : Hid (B ≤ w1.heap.size) := hid (Nat.le_trans hB HB1.out.size)
  have HNT : Hid (∀ j u, [Value.string (ofNats s)][j]? = some u → (w1.alloc (.cells #[.string (ofNats s)] 9)).cell? ((⟨w1.heap.size, 0, none⟩ : Addr).add j) = some u) := hid fun j u hj => by
    rw [Addr.add_lit, Nat.zero_add]
    rw [World.cell?_alloc_new]
    simpa using hj
  have HM1 : Hid (n + 1 ≤ maxLen) := by show _ ≤ _; unfold maxLen; omega
  have HM2 : Hid ((n + 1) * 16 ≤ 140737488355328) := by show _ ≤ _; omega
  have HK10 := hid k10
  have HFZ := hid hfz
  have HLP := hid hlp
  clear k10 hfz hlp h10 hf ho ho1
  go_upto_region 4 with fail
  have k10 := HK10.out
  go_wp2_with (at_builtin; refine wpList_append_own _ rfl _ _ 23 rfl B 9 i0 (.string ⟨#[]⟩) 1 16 Tryz.underlying23 hi0 hz0 hs0 hb0 rfl (by decide) (.slice va n vc) n xs rfl (HOX.out _) ⟨w1.heap.size, 0, none⟩ 1 1 [.string (ofNats s)] rfl rfl HNT.out (by intro u hu; rw [List.mem_singleton.1 hu]; rfl) HM1.out HM2.out (Nat.le_trans HB2.out (HAL.out _).size) ?_; intro v' w3 hown hgrow hold; obtain ⟨va', vc', e9⟩ := row_sl hown; subst e9; have HOWN := hid hown; have HGR := hid hgrow; have ho3 : Onl (fun k => (Value.slice va n vc).ownBlock = some k) w1 w3 := (Onl.of_below (HAL.out _)).trans (grown_onl hgrow); have c10 := ho3.cell hv HK10.out; have f10 : w3.frozen? ⟨p, 10, none⟩ = false := (ho3.loose hv HLP.out HFZ.out) 10; have HO3 := hid ho3; clear hown hgrow hold ho3)
  go_ret
  exact ⟨rfl, _, w3, HOWN.out, c10, (Onl.of_below HB1.out).trans HO3.out, rfl⟩
end Go.Proofs.YthenfioddnkjbaaGreatDoor.Rt
