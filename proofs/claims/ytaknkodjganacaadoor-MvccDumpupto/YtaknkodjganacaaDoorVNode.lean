import Derived.Test.YtaknkodjganacaaDoorVTree
import Derived.Deep.RegionHeld3
import Derived.RangeFuncBox
namespace Go.Proofs.YtaknkodjganacaaDoor.Vs
open Go.RowKit Go.Sort
set_option linter.unusedVariables false

theorem node_new {S : Nat → Prop} {w w' : World} {k : ByteArray} {v : Hd} {l r : Tr} {n : Int} (hn : n = ((l.n + 1 + r.n : Nat) : Int)) (hl : TrIn S w l) (hr : TrIn S w r) (hS : S w.heap.size)
    (h : w' = w.alloc (.cells #[.string k, .slice (some ⟨v.g, 0, none⟩) v.n v.cap, .pointer l.pt, .pointer r.pt, .int .i64 n] 105)) : TrIn S w' (.node w.heap.size k v l r) ∧ Below w.heap.size w w' := by
  subst h hn
  have hb : Below w.heap.size w (w.alloc (.cells #[.string k, .slice (some ⟨v.g, 0, none⟩) v.n v.cap, .pointer l.pt, .pointer r.pt, .int .i64 ((l.n + 1 + r.n : Nat) : Int)] 105)) := Below.al (Below.refl _ _) _
  have hc := World.alloc_heap_new w (.cells #[.string k, .slice (some ⟨v.g, 0, none⟩) v.n v.cap, .pointer l.pt, .pointer r.pt, .int .i64 ((l.n + 1 + r.n : Nat) : Int)] 105)
  refine ⟨⟨⟨hS, hc⟩, ?_, ?_, ?_, ?_, ?_, hl.later hb, hr.later hb⟩, hb⟩ <;> (simp only [World.cell?, hc]; rfl)

theorem count_is {S : Nat → Prop} {T : Tr} {w : World} (h : TrIn S w T) :
    Calls Tryd.prog 65 #[.pointer T.pt] w fun e w' => e = .returned (.int .i64 (T.n : Int)) ∧ w' = w := by
  cases T with
  | nil =>
    show Calls Tryd.prog 65 #[.pointer none] w _
    go_enter Tryd.func65, Tryd.ntmps65
    go_wp2_with fail
    go_ret
    exact ⟨rfl, rfl⟩
  | node b k v l r =>
    obtain ⟨hb, h0, h1, h2, h3, h4, hl, hr⟩ := h
    show Calls Tryd.prog 65 #[.pointer (some ⟨b, 0, none⟩)] w _
    clear h0 h1 h2 h3 hl hr
    obtain ⟨m, hm⟩ : ∃ m : Int, m = ((Tr.node b k v l r).n : Int) := ⟨_, rfl⟩
    rw [show ((l.n + 1 + r.n : Nat) : Int) = m from hm.symm] at h4
    rw [← hm]
    clear hm
    go_enter Tryd.func65, Tryd.ntmps65
    go_wp2_with fail
    go_ret
    exact ⟨rfl, rfl⟩
theorem weight_is {S : Nat → Prop} {T : Tr} {w : World} (h : TrIn S w T) (hn : T.n ≤ 1152921504606846976) :
    Calls Tryd.prog 69 #[.pointer T.pt] w fun e w' => e = .returned (.int .i64 ((T.n : Int) + 1)) ∧ w' = w := by
  have hc := count_is h
  obtain ⟨m, hm⟩ : ∃ m : Nat, m = T.n := ⟨_, rfl⟩
  obtain ⟨p, hp⟩ : ∃ p, p = T.pt := ⟨_, rfl⟩
  rw [← hm] at hc hn ⊢
  rw [← hp] at hc ⊢
  clear h hm hp
  go_enter Tryd.func69, Tryd.ntmps69
  go_wp2_with (go_at_call 65; refine hc.mono ?_; clear hc; rintro e w' ⟨rfl, rfl⟩)
  go_ret
  exact ⟨by go_num, rfl⟩

theorem over_is {S : Nat → Prop} {b : Nat} {k : ByteArray} {v : Hd} {l r : Tr} {w : World} (hS : ∀ i, w.heap.size ≤ i → S i) (h0 : w.cell? ⟨b, 0, none⟩ = some (.string k)) (h1 : w.cell? ⟨b, 1, none⟩ = some (.slice (some ⟨v.g, 0, none⟩) v.n v.cap))
    (hl : TrIn S w l) (hr : TrIn S w r) (hn : l.n + r.n ≤ 1152921504606846976) :
    Calls Tryd.prog 72 #[.pointer (some ⟨b, 0, none⟩), .pointer l.pt, .pointer r.pt] w fun e w' => ∃ b', e = .returned (.pointer (some ⟨b', 0, none⟩)) ∧ TrIn S w' (.node b' k v l r) ∧ Below w.heap.size w w' := by
  have cl : ∀ W, Below w.heap.size w W → _ := fun W hb => count_is (hl.later hb)
  have cr : ∀ W, Below w.heap.size w W → _ := fun W hb => count_is (hr.later hb)
  have HL := hid hl
  have HR := hid hr
  obtain ⟨pl, hpl⟩ : ∃ p, p = l.pt := ⟨_, rfl⟩
  obtain ⟨pr, hpr⟩ : ∃ p, p = r.pt := ⟨_, rfl⟩
  obtain ⟨nl, hnl⟩ : ∃ p, p = l.n := ⟨_, rfl⟩
  obtain ⟨nr, hnr⟩ : ∃ p, p = r.n := ⟨_, rfl⟩
  rw [← hpl, ← hnl] at cl
  rw [← hpr, ← hnr] at cr
  rw [← hpl, ← hpr]
  rw [← hnl, ← hnr] at hn
  have HQ := hid (And.intro hpl (And.intro hpr (And.intro hnl hnr)))
  have HS := hid hS
  have CL := hid cl
  have CR := hid cr
  clear hl hr hpl hpr hnl hnr cl cr hS
  go_enter Tryd.func72, Tryd.ntmps72
  go_wp2_with fail
  go_region_held3 (fun w' => w'.cell? ⟨b, 0, none⟩ = some (.string k) ∧ w'.cell? ⟨b, 1, none⟩ = some (.slice (some ⟨v.g, 0, none⟩) v.n v.cap) ∧ Below w.heap.size w w')
    ((refine (fun (hB : Below w.heap.size w _) => ⟨cell_later hB h0, cell_later hB h1, hB⟩) ?_; (repeat (first | exact Below.refl _ _ | assumption | refine Below.drew ?_ | refine Below.al ?_ _ | refine Below.setCell ?_ (by first | exact Nat.le_refl _ | (simp; omega) | (simp; done)) _ | refine Below.on ?_ (by assumption)))))
    (first | (go_at_call_of 65 pl; refine (CL.out _ ?_).mono ?_; ((repeat (first | exact Below.refl _ _ | assumption | refine Below.drew ?_ | refine Below.al ?_ _ | refine Below.setCell ?_ (by first | exact Nat.le_refl _ | (simp; omega) | (simp; done)) _ | refine Below.on ?_ (by assumption)))); rintro e w1 ⟨rfl, rfl⟩) | (go_at_call_of 65 pr; refine (CR.out _ ?_).mono ?_; ((repeat (first | exact Below.refl _ _ | assumption | refine Below.drew ?_ | refine Below.al ?_ _ | refine Below.setCell ?_ (by first | exact Nat.le_refl _ | (simp; omega) | (simp; done)) _ | refine Below.on ?_ (by assumption)))); rintro e w1 ⟨rfl, rfl⟩))
  go_wp2_with fail
  obtain ⟨rfl, rfl, rfl, rfl⟩ := HQ.out
  obtain ⟨t1, t2⟩ := node_new (S := S) (k := k) (v := v) (show (IntKind.i64.wrap (IntKind.i64.wrap ((l.n : Int) + 1) + (r.n : Int))) = ((l.n + 1 + r.n : Nat) : Int) by rw [IntKind.wrap_i64, IntKind.wrap_i64]; omega) HL.out HR.out (HS.out _ (Nat.le_refl _)) rfl
  go_ret
  exact ⟨_, rfl, t1.later (Below.drew (Below.refl _ _)), Below.drew t2⟩

theorem toList_beq' {a b : ByteArray} {u : Bool} (h : decide (a = b) = u) : (a.toList == b.toList) = u := by
  rw [← h, Bool.eq_iff_iff]
  simp only [beq_iff_eq, decide_eq_true_eq]
  exact ⟨bytes_inj, fun e => by rw [e]⟩

theorem find_is {S : Nat → Prop} {T : Tr} {w : World} (key : ByteArray) (h : TrIn S w T) :
    Calls Tryd.prog 46 #[.pointer T.pt, .string key] w fun e w' => e = .returned (.pointer (T.find key).pt) ∧ w' = w := by
  have HT := hid h
  clear h
  go_enter Tryd.func46, Tryd.ntmps46
  go_wp2_with fail
  go_loopg [0] T.n (fun g s0 wr => ∃ C : Tr, g = C.n ∧ s0 = .pointer C.pt ∧ Hid (TrIn S w C) ∧ Hid (T.find key = C.find key) ∧ wr = w)
  case atStart => exact ⟨T, rfl, rfl, HT, rfl, rfl⟩
  case round =>
    obtain ⟨C, rfl, rfl, HC, HE, rfl⟩ := hrel
    cases C with
    | nil =>
      show Code.wp _ _ _ _ _
      simp only [Tr.pt]
      go_wp2_with fail
      go_ret
      exact ⟨by rw [HE.out]; rfl, rfl⟩
    | node b k v l r =>
      obtain ⟨hb, h0, h1, h2, h3, h4, hl, hr⟩ := HC.out
      simp only [Tr.pt]
      clear h1 h4
      by_cases hk : k = key
      · have q1 := toList_beq' (decide_eq_true hk)
        have HF : Hid ((Tr.node b k v l r).find key = .node b k v l r) := by show _ = _; rw [Tr.find, if_pos hk]
        clear hk
        go_wp2_with fail
        go_ret
        exact ⟨by rw [HE.out, HF.out]; rfl, rfl⟩
      · have q1 := toList_beq' (decide_eq_false hk)
        cases hlt : lt key k with
        | true =>
          have q2 : Op.bytesLess key.toList k.toList = true := hlt
          have HF : Hid ((Tr.node b k v l r).find key = l.find key) := by show _ = _; rw [Tr.find, if_neg hk, if_pos hlt]
          clear hk hlt
          have HL := hid hl
          clear hl hr h3
          go_wp2_with fail
          go_roundg l.n
          case measure => simp only [Tr.n]; omega
          case rel => exact ⟨l, rfl, rfl, HL, by show _ = _; rw [HE.out, HF.out], rfl⟩
        | false =>
          have q2 : Op.bytesLess key.toList k.toList = false := hlt
          have HF : Hid ((Tr.node b k v l r).find key = r.find key) := by show _ = _; rw [Tr.find, if_neg hk, if_neg (by rw [hlt]; decide)]
          clear hk hlt
          have HL := hid hr
          clear hl hr h2
          go_wp2_with fail
          go_roundg r.n
          case measure => simp only [Tr.n]; omega
          case rel => exact ⟨r, rfl, rfl, HL, by show _ = _; rw [HE.out, HF.out], rfl⟩

/-- the least key's node -/
def Tr.least : Tr → Tr
  | .nil => .nil
  | .node b k v .nil r => .node b k v .nil r
  | .node _ _ _ (.node b k v l r) _ => (Tr.node b k v l r).least
theorem least_is {S : Nat → Prop} {T : Tr} {w : World} (h : TrIn S w T) (hT : T ≠ .nil) :
    Calls Tryd.prog 68 #[.pointer T.pt] w fun e w' => e = .returned (.pointer T.least.pt) ∧ w' = w := by
  have HT := hid h
  clear h
  have HN := hid hT
  clear hT
  go_enter Tryd.func68, Tryd.ntmps68
  go_wp2_with fail
  go_loopg [0] T.n (fun g s0 wr => ∃ C : Tr, g = C.n ∧ s0 = .pointer C.pt ∧ Hid (TrIn S w C) ∧ Hid (T.least = C.least) ∧ Hid (C ≠ .nil) ∧ wr = w)
  case atStart => exact ⟨T, rfl, rfl, HT, rfl, HN, rfl⟩
  case round =>
    obtain ⟨C, rfl, rfl, HC, HE, HN, rfl⟩ := hrel
    cases C with
    | nil => exact absurd rfl HN.out
    | node b k v l r =>
      obtain ⟨hb, h0, h1, h2, h3, h4, hl, hr⟩ := HC.out
      simp only [Tr.pt]
      clear h0 h1 h3 h4 hr
      cases l with
      | nil =>
        simp only [Tr.pt] at h2
        go_wp2_with fail
        go_ret
        exact ⟨by rw [HE.out]; rfl, rfl⟩
      | node b2 k2 v2 l2 r2 =>
        simp only [Tr.pt] at h2
        have HL := hid hl
        clear hl
        go_wp2_with fail
        go_roundg (Tr.node b2 k2 v2 l2 r2).n
        case measure => simp only [Tr.n]; omega
        case rel => exact ⟨_, rfl, rfl, HL, by show _ = _; rw [HE.out]; rfl, fun e => (by cases e), rfl⟩
theorem Tr.least_spec : ∀ (T : Tr), T ≠ .nil → ∃ b k v l r, T.least = .node b k v l r ∧ ∃ rest, T.list = (k, v) :: rest
  | .nil, h => absurd rfl h
  | .node b k v .nil r, _ => ⟨b, k, v, .nil, r, rfl, r.list, rfl⟩
  | .node b0 k0 v0 (.node b k v l r) r0, _ => by
    obtain ⟨b', k', v', l', r', e, rest, hl⟩ := Tr.least_spec (.node b k v l r) (fun e => by cases e)
    exact ⟨b', k', v', l', r', e, rest ++ (k0, v0) :: r0.list, by rw [Tr.list, hl]; rfl⟩
theorem TrIn.least {S : Nat → Prop} {w : World} : ∀ {T : Tr}, TrIn S w T → TrIn S w T.least
  | .nil, h => h
  | .node _ _ _ .nil _, h => h
  | .node _ _ _ (.node b k v l r) _, h => TrIn.least (T := .node b k v l r) h.2.2.2.2.2.2.1

end Go.Proofs.YtaknkodjganacaaDoor.Vs
