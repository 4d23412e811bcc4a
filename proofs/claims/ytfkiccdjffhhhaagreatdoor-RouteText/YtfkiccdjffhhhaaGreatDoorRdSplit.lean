import Derived.Test.YtfkiccdjffhhhaaGreatDoorRdDraft
import Derived.Test.YtfkiccdjffhhhaaGreatDoorRRead
import Derived.Test.YtfkiccdjffhhhaaGreatDoorDOnl
import Derived.Test.YtfkiccdjffhhhaaGreatDoorGRows
import Derived.Laws.AppendOwn
/- A split key's line, taken. -/
namespace Go.Proofs.YtfkiccdjffhhhaaGreatDoor.Rt
open Go.RowKit Go.Sort
set_option linter.unusedVariables false

theorem infoStr : (Tryz.prog.info? 9).map (fun i => (i.zero, i.size, i.bytes)) = some (some (.string ⟨#[]⟩), 1, 16) := by kernel_rfl
theorem info_some {t : TypeId} {z : Option Value} {a b : Nat} (h : (Tryz.prog.info? t).map (fun i => (i.zero, i.size, i.bytes)) = some (z, a, b)) : ∃ i, Tryz.prog.info? t = some i ∧ i.zero = z ∧ i.size = a ∧ i.bytes = b := by
  cases e : Tryz.prog.info? t with
  | none => rw [e] at h; cases h
  | some i =>
    rw [e] at h
    have h' : (i.zero, i.size, i.bytes) = (z, a, b) := Option.some.inj h
    injection h' with h1 h2
    injection h2 with h2 h3
    exact ⟨i, rfl, h1, h2, h3⟩
theorem row_sl {w : World} {B n k : Nat} {t : TypeId} {v : Value} {xs : List Value} (h : w.ownsRow B t k v n xs) : ∃ a c, v = .slice a n c := by
  rcases h.2 with ⟨rfl, rfl⟩ | ⟨g, cap, cur, rfl, _⟩
  · exact ⟨_, _, rfl⟩
  · exact ⟨_, _, rfl⟩
set_option maxRecDepth 16000 in
set_option maxHeartbeats 2000000 in
theorem tsplit_is {w : World} {p B n : Nat} {l : List Nat} {s : List Nat} {v : Value} {xs : List Value} (h8 : B8 l) (hl : l.length ≤ 1000) (hs : unA l = (s, 0)) (h10 : w.cell? ⟨p, 10, none⟩ = some v) (hf : ∀ o, w.frozen? ⟨p, o, none⟩ = false) (hp : p < w.heap.size)
    (ho : w.ownsRow B 9 1 v n xs) (hB : B ≤ w.heap.size) (hn : n ≤ 1000) (hv : v.ownBlock ≠ some p) :
    Calls Tryz.prog 55 #[.pointer (some ⟨p, 0, none⟩), .string (ofNats l)] w fun e w' => e = .returned .nilIface ∧ ∃ v' w1, w1.ownsRow B 9 1 v' (n + 1) (xs ++ [.string (ofNats s)]) ∧ w1.cell? ⟨p, 10, none⟩ = some v ∧ Onl (fun k => v.ownBlock = some k) w w1 ∧ w' = w1.setCell ⟨p, 10, none⟩ v' := by
  have HU := hid (unword_is h8 (by omega) w)
  rw [hs] at HU
  obtain ⟨i0, hi0, hz0, hs0, hb0⟩ := info_some infoStr
  obtain ⟨va, vc, rfl⟩ := row_sl ho
  go_enter Tryz.func55, Tryz.ntmps55
  go_wp2_with fail
  refine HU.out.mono ?_
  rintro e w1 ⟨rfl, hb⟩
  have k10 := cell_later hb h10
  have ho1 := owns_keep ho fun g hg => hb.block g (World.ownsRow.lt ho g hg).2
  have hlp : p < w1.heap.size := Nat.lt_of_lt_of_le hp hb.size
  have hfz := fun o => (hb.frozen (p := ⟨p, o, none⟩) hp).trans (hf o)
  have HB1 := hid hb
  clear hb
  have HAL : Hid (∀ o, Below w1.heap.size w1 (w1.alloc o)) := hid fun o => Below.al (Below.refl _ _) _
  have HOX : Hid (∀ o, (w1.alloc o).ownsRow B 9 1 (.slice va n vc) n xs) := hid fun o => owns_keep ho1 fun g hg => (HAL.out o).block g (World.ownsRow.lt ho1 g hg).2
  have HB2 : Hid (B ≤ w1.heap.size) := hid (Nat.le_trans hB HB1.out.size)
  have HNT : Hid (∀ j u, [Value.string (ofNats s)][j]? = some u → (w1.alloc (.cells #[.string (ofNats s)] 9)).cell? ((⟨w1.heap.size, 0, none⟩ : Addr).add j) = some u) := hid fun j u hj => by
    rw [Addr.add_lit, Nat.zero_add]
    rw [World.cell?_alloc_new]
    simpa using hj
  have HM1 : Hid (n + 1 ≤ maxLen) := by show _ ≤ _; unfold maxLen; omega
  have HM2 : Hid ((n + 1) * 16 ≤ 140737488355328) := by show _ ≤ _; omega
  have HK10 := hid k10
  have HFZ := hid hfz
  have HLP := hid hlp
  clear k10 hfz hlp h10 hf ho ho1
  go_upto_region 4 with fail
  have k10 := HK10.out
  go_wp2_with (at_builtin; refine wpList_append_own _ rfl _ _ 22 rfl B 9 i0 (.string ⟨#[]⟩) 1 16 Tryz.underlying22 hi0 hz0 hs0 hb0 rfl (by decide) (.slice va n vc) n xs rfl (HOX.out _) ⟨w1.heap.size, 0, none⟩ 1 1 [.string (ofNats s)] rfl rfl HNT.out (by intro u hu; rw [List.mem_singleton.1 hu]; rfl) HM1.out HM2.out (Nat.le_trans HB2.out (HAL.out _).size) ?_; intro v' w3 hown hgrow hold; obtain ⟨va', vc', e9⟩ := row_sl hown; subst e9; have HOWN := hid hown; have HGR := hid hgrow; have ho3 : Onl (fun k => (Value.slice va n vc).ownBlock = some k) w1 w3 := (Onl.of_below (HAL.out _)).trans (grown_onl hgrow); have c10 := ho3.cell hv HK10.out; have f10 : w3.frozen? ⟨p, 10, none⟩ = false := (ho3.loose hv HLP.out HFZ.out) 10; have HO3 := hid ho3; clear hown hgrow hold ho3)
  go_ret
  exact ⟨rfl, _, w3, HOWN.out, c10, (Onl.of_below HB1.out).trans HO3.out, rfl⟩
end Go.Proofs.YtfkiccdjffhhhaaGreatDoor.Rt
