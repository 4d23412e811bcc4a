import Derived.Test.YtgplnbdankfobaaGreatDoorQLawP
/- All, copied, in plain words; rows that stay. -/
namespace Go.Proofs.YtgplnbdankfobaaGreatDoor.Lk
open Go.RowKit Go.Sort
set_option linter.unusedVariables false

theorem RowH.onl {B : Nat} {w w' : World} {a : Option Addr} {n c p : Nat} {m1 m2 : Option Nat} {U V : List Hv} {I : It} (h : RowH B w a n c U) (T : Tb w p m1 m2 V I) (ho : Onl (Its p m1 m2) w w') : RowH B w' a n c U := by
  refine ⟨owns_keep h.own fun g hg => ho.block g (h.own.lt g hg).2 (fun hI => ?_), h.len, fun u hu => (h.ok u hu).onl ho (fun b hb => T.bare hb)⟩
  obtain ⟨cur, hc⟩ := own_type h.own hg
  rcases hI with rfl | rfl | rfl
  · obtain ⟨cs, this⟩ := T.blk
    rw [hc] at this
    injection this with this
    injection this with _ this
    revert this; decide
  · obtain ⟨es, clock, hb, _⟩ := T.held.at
    rw [hc] at hb; cases hb
  · obtain ⟨es, clock, hb, _⟩ := T.ints.at
    rw [hc] at hb; cases hb
theorem Tb.its_lt {w : World} {p : Nat} {m1 m2 : Option Nat} {V : List Hv} {I : It} (T : Tb w p m1 m2 V I) {b : Nat} (h : Its p m1 m2 b) : b < w.heap.size := by
  rcases h with rfl | h | h
  · exact T.lt
  · exact T.held.lt b h
  · exact T.ints.lt b h
/-- All, in plain words -/
theorem allT_is {w : World} {p : Nat} {m1 m2 : Option Nat} {V : List Hv} {I : It} (T : Tb w p m1 m2 V I) (hlen : V.length ≤ 1759218604441) :
    Calls Tryz.prog 12 #[.pointer (some ⟨p, 0, none⟩)] w fun e w' => ∃ (a : Option Addr) (n c : Nat) (U : List Hv), e = .returned (.slice a n c) ∧ Hid (RowH w.heap.size w' a n c U) ∧ Hid (Told (U.map Hv.h) (V.map Hv.h)) ∧ Hid (Below w.heap.size w w') :=
  (all_is T hlen).mono fun e w' ⟨a, n, c, U, h1, h2, h3, h4, h5, h6, h7⟩ => ⟨a, n, c, U, h1, ⟨h3, h2, fun u hu => (h4 u hu).2⟩, ⟨h5, h6⟩, h7⟩
/-- copied, in plain words -/
theorem copiedT_is {w : World} {v : Hv} (h : v.ok w) :
    Calls Tryz.prog 6 #[.agg #[.int .u32 v.h.id.1, .int .u32 v.h.id.2, .int .u32 v.h.home, .int .u64 v.h.w, .int .u32 v.h.l, .int .u32 v.h.n, .slice v.ra v.h.rs.length v.rc, .slice v.wa v.h.ws.length v.wc]] w fun e w' => ∃ g1 g2 : Nat, e = .returned (.agg #[.int .u32 v.h.id.1, .int .u32 v.h.id.2, .int .u32 v.h.home, .int .u64 v.h.w, .int .u32 v.h.l, .int .u32 v.h.n, .slice (some ⟨g1, 0, none⟩) v.h.rs.length (v.h.rs.length + 1), .slice (some ⟨g2, 0, none⟩) v.h.ws.length (v.h.ws.length + 1)]) ∧ Hid ((v.roomy g1 g2).ok w') ∧ Hid (Below w.heap.size w w') :=
  (copied_is h).mono fun e w' ⟨g1, g2, h1, h2, h3⟩ => ⟨g1, g2, h1, ⟨h2.row, h3.row, h.rl, h.wl⟩, h2.bl⟩

end Go.Proofs.YtgplnbdankfobaaGreatDoor.Lk
