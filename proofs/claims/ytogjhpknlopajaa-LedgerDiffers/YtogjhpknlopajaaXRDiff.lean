import Derived.Test.YtogjhpknlopajaaXDifP
/- The document's differs. -/
namespace Go.Proofs.Ytogjhpknlopajaa.Lg
open Go.RowKit Go.Sort Go.Shelf Go.Lib Lk
set_option linter.unusedVariables false

/-- a ledger of the document's: where it lies, what it holds -/
structure Rd where
  q : Nat
  a : Option Addr
  n : Nat
  c : Nat
  M : List En
abbrev Rd.at (w : World) (d : Rd) : Prop := Rl w d.q d.a d.n d.c d.M
abbrev ptr (d : Option Rd) : Value := .pointer (d.map fun d => ⟨d.q, 0, none⟩)
def matR (d : Option Rd) : List En := match d with | some d => d.M | none => []
abbrev matsR (D : List (Option Rd)) : List (List En) := D.map matR
def nthR (D : List (Option Rd)) (i : Nat) : Option Rd := (D[i]?).getD none
theorem nthR_take {D : List (Option Rd)} {k : Nat} (h : k < D.length) : D.take (k + 1) = D.take k ++ [nthR D k] := by
  rw [List.take_succ_eq_append_getElem h]; simp [nthR, h]
theorem rout_nil (w : World) (t : Ix) : Calls Try.prog 60 #[.pointer none, .agg #[.int .u32 t.1, .int .u32 t.2]] w fun r w' => r = .returned (.tuple #[.agg #[.int .u32 0, .int .u32 0, .int .u32 0, .int .i64 0, .int .u64 0, .int .u32 0, .int .u32 0], .bool false]) ∧ Below w.heap.size w w' := by
  obtain ⟨wx, hwx⟩ : ∃ wx, wx = (w.alloc (.cells #[.int .u32 t.1, .int .u32 t.2] 27)).alloc (.cells #[.int .u32 0, .int .u32 0, .int .u32 0, .int .i64 0, .int .u64 0, .int .u32 0, .int .u32 0] 33) := ⟨_, rfl⟩
  have hbx : Below w.heap.size w wx := by rw [hwx]; exact Below.al (Below.al (Below.refl _ _) _) _
  have hz3 : wx.heap[w.heap.size + 1]? = some (.cells #[.int .u32 0, .int .u32 0, .int .u32 0, .int .i64 0, .int .u64 0, .int .u32 0, .int .u32 0] 33) := by
    rw [hwx, show w.heap.size + 1 = (w.alloc (.cells #[.int .u32 t.1, .int .u32 t.2] 27)).heap.size by simp]
    exact (MapKept.heap_alloc _ _).1
  have HH := hid hz3
  have HBn := hid hbx
  clear hz3 hbx
  go_enter Try.func60, Try.ntmps60
  go_wp2_with fail
  refine bodyPost_ret (v := .tuple #[.agg #[.int .u32 0, .int .u32 0, .int .u32 0, .int .i64 0, .int .u64 0, .int .u32 0, .int .u32 0], .bool false]) (by simp [results, Try.results60, go_sem]) rfl ⟨rfl, ?_⟩
  rw [← hwx]; exact HBn.out
set_option maxHeartbeats 4000000 in
theorem differs_is {w : World} {a : Option Addr} {n c : Nat} {D : List (Option Rd)} {e : En} {u : Bool} (hu : difB (matsR D) e = u) (hrow : RowC none (fun d => [ptr d]) 1 w a D) (hn : D.length = n) (hl : n ≤ 9223372036854775807) (hL : ∀ d, some d ∈ D → d.at w) :
    Calls Try.prog 96 #[.slice a n c, .agg #[.int .u32 e.id.1, .int .u32 e.id.2, .int .u32 e.home, .int .i64 e.oc, .int .u64 e.w, .int .u32 e.l, .int .u32 e.n]] w fun r w' => r = .returned (.bool u) ∧ Below w.heap.size w w' := by
  obtain ⟨wx, hwx⟩ : ∃ wx, wx = w.alloc (.cells #[.int .u32 e.id.1, .int .u32 e.id.2, .int .u32 e.home, .int .i64 e.oc, .int .u64 e.w, .int .u32 e.l, .int .u32 e.n] 33) := ⟨_, rfl⟩
  have HBX : Hid (Below w.heap.size w wx) := by rw [hwx]; exact Below.al (Below.refl _ _) _
  have HKB : Hid (BoxE wx w.heap.size e) := by rw [hwx]; exact box_new _ _
  have HR := hid (RowC.later hrow HBX.out)
  have HL : Hid (∀ d, some d ∈ D → d.at wx) := fun d hd => (hL d hd).later HBX.out
  have HLN := hid hn
  have HU := hid hu
  clear hrow hn hL hu
  go_enter Try.func96, Try.ntmps96
  go_wp2_with fail
  rw [← hwx]
  clear hwx
  go_loopg [5] n (fun g s5 wr => ∃ k : Nat, k ≤ n ∧ g = n - k ∧ s5 = .int .i64 k ∧ Hid (Below wx.heap.size wx wr) ∧ Hid (difB (matsR (D.take k)) e = false))
  case atStart => exact ⟨0, by omega, by omega, rfl, Below.refl _ _, hid (by simp [difB])⟩
  case round =>
    obtain ⟨k, hk, rfl, rfl, HB, HA⟩ := hrel
    by_cases hlt : k < n
    · obtain ⟨b, off, eb, hc⟩ := RowC.later HR.out HB.out k (by rw [HLN.out]; exact hlt)
      have hk1 : (k : Int) < (n : Int) := by omega
      obtain ⟨d, hde⟩ : ∃ d, d = nthR D k := ⟨_, rfl⟩
      have hde' : (D[k]?).getD none = d := hde.symm
      rw [hde'] at hc
      have g0 : wr.cell? ⟨b, off + k, none⟩ = some (ptr d) := by have := hc 0 _ rfl; simpa using this
      subst eb
      have hmem : d ∈ D := by
        rw [hde]
        have e1 : nthR D k = D[k]'(by rw [HLN.out]; exact hlt) := by simp [nthR, HLN.out, hlt]
        rw [e1]; exact List.getElem_mem _
      have hdt : difB (matsR (D.take (k + 1))) e = clB (matR d) e := by
        have h1 := HA.out
        rw [nthR_take (by rw [HLN.out]; exact hlt), ← hde, matsR, List.map_append, difB, List.any_append]
        rw [matsR, difB] at h1
        rw [h1]; simp
      have HDT := hid hdt
      have HDK : Hid (clB (matR d) e = true → u = true) := fun h => by
        rw [← HU.out, difB, List.any_eq_true]
        exact ⟨matR d, List.mem_map.2 ⟨d, hmem, rfl⟩, h⟩
      obtain ⟨ok, hok⟩ : ∃ ok, ok = (outM (matR d) e.id).isSome := ⟨_, rfl⟩
      obtain ⟨f, hf⟩ : ∃ f, f = (outM (matR d) e.id).getD En.zero := ⟨_, rfl⟩
      have OUT : Hid (∀ W, Below wr.heap.size wr W → Calls Try.prog 60 #[ptr d, .agg #[.int .u32 e.id.1, .int .u32 e.id.2]] W fun r w' => r = .returned (.tuple #[.agg #[.int .u32 f.id.1, .int .u32 f.id.2, .int .u32 f.home, .int .i64 f.oc, .int .u64 f.w, .int .u32 f.l, .int .u32 f.n], .bool ok]) ∧ Below W.heap.size W w') := fun W hb => by
        cases d with
        | none =>
          have e1 : ok = false := hok
          have e2 : f = En.zero := hf
          subst e1 e2
          exact rout_nil W e.id
        | some d =>
          exact (routcome_is ((HL.out d hmem).later (Below.on HB.out hb)) e.id).mono fun r w' ⟨g, o, h1, h2, h3, h4⟩ => by
            have h2' : o = ok := by rw [hok]; exact h2
            have h3' : g = f := by rw [hf]; exact h3
            subst h2' h3'
            exact ⟨h1, h4⟩
      obtain ⟨z, hz⟩ : ∃ z, agrB e f = z := ⟨_, rfl⟩
      have AGR := hid (fun W => refagree_is hz W)
      have hcl : clB (matR d) e = (ok && !z) := by
        rw [clB, hok, ← hz, hf]
        cases outM (matR d) e.id <;> rfl
      have HCL := hid hcl
      have bE := HKB.out.later HB.out
      have HBE := hid bE
      obtain ⟨p0, p1, p2, p3, p4, p5, p6⟩ := bE
      obtain ⟨pv, hpv⟩ : ∃ pv, pv = ptr d := ⟨_, rfl⟩
      rw [← hpv] at g0
      have OUT2 : Hid (∀ W, Below wr.heap.size wr W → Calls Try.prog 60 #[pv, .agg #[.int .u32 e.id.1, .int .u32 e.id.2]] W fun r w' => r = .returned (.tuple #[.agg #[.int .u32 f.id.1, .int .u32 f.id.2, .int .u32 f.home, .int .i64 f.oc, .int .u64 f.w, .int .u32 f.l, .int .u32 f.n], .bool ok]) ∧ Below W.heap.size W w') := by rw [hpv]; exact OUT
      clear hc hde hde' hmem hdt hok hf hz hcl OUT p2 p3 p4 p5 p6 hpv
      go_wp2_with fail
      go_cut [6, 7] (fun s6 s7 wz => ∃ q : Nat, s6 = .pointer (some ⟨q, 0, none⟩) ∧ s7 = .bool ok ∧ Hid (BoxE wz q f) ∧ Hid (Below wr.heap.size wr wz))
      case first =>
        go_region_held3 (fun w' => w'.cell? ⟨b, off + k, none⟩ = some pv ∧ w'.cell? ⟨w.heap.size, 0, none⟩ = some (.int .u32 e.id.1) ∧ w'.cell? ⟨w.heap.size, 1, none⟩ = some (.int .u32 e.id.2) ∧ Below wr.heap.size wr w')
          ((refine (fun (hB : Below wr.heap.size wr _) => ⟨cell_later hB g0, cell_later hB p0, cell_later hB p1, hB⟩) ?_; (repeat (first | with_reducible exact Below.refl _ _ | with_reducible assumption | with_reducible refine Below.drew ?_ | with_reducible refine Below.al ?_ _ | with_reducible refine Below.setCell ?_ (by first | exact Nat.le_refl _ | (simp; omega) | (simp; done)) _ | with_reducible refine Below.on ?_ (by assumption)))))
          ((go_at_call 60; refine (OUT2.out _ (by (repeat (first | with_reducible exact Below.refl _ _ | with_reducible assumption | with_reducible refine Below.drew ?_ | with_reducible refine Below.al ?_ _ | with_reducible refine Below.setCell ?_ (by first | exact Nat.le_refl _ | (simp; omega) | (simp; done)) _ | with_reducible refine Below.on ?_ (by assumption))))).mono ?_; rintro r w2 ⟨rfl, hb2⟩; (first | (have hk2 : w2.heap[wr.heap.size]? = some (.cells #[.int .u32 0, .int .u32 0, .int .u32 0, .int .i64 0, .int .u64 0, .int .u32 0, .int .u32 0] 33) := (hb2.block _ (by simp)).trans (MapKept.heap_alloc wr.drew _).1; have f2 : ∀ o, w2.frozen? ⟨wr.heap.size, o, none⟩ = false := (fun o => by simp [World.frozen?, hk2]); have r0 : w2.cell? ⟨wr.heap.size, 0, none⟩ = some (.int .u32 0) := cell_of_obj hk2 rfl; have r1 : w2.cell? ⟨wr.heap.size, 1, none⟩ = some (.int .u32 0) := cell_of_obj hk2 rfl; have r2 : w2.cell? ⟨wr.heap.size, 2, none⟩ = some (.int .u32 0) := cell_of_obj hk2 rfl; have r3 : w2.cell? ⟨wr.heap.size, 3, none⟩ = some (.int .i64 0) := cell_of_obj hk2 rfl; have r4 : w2.cell? ⟨wr.heap.size, 4, none⟩ = some (.int .u64 0) := cell_of_obj hk2 rfl; have r5 : w2.cell? ⟨wr.heap.size, 5, none⟩ = some (.int .u32 0) := cell_of_obj hk2 rfl; have r6 : w2.cell? ⟨wr.heap.size, 6, none⟩ = some (.int .u32 0) := cell_of_obj hk2 rfl; have HK2 := hid hk2; clear hk2) | skip)))
        all_goals (try go_wp2_with fail)
        all_goals go_meet
        all_goals refine ⟨_, rfl, rfl, hid ?_, hid ?_⟩
        all_goals (first | with_reducible exact box_chain0 f HK2.out | with_reducible exact box_new _ _ | ((repeat (first | with_reducible exact Below.refl _ _ | with_reducible assumption | with_reducible refine Below.drew ?_ | with_reducible refine Below.al ?_ _ | with_reducible refine Below.setCell ?_ (by first | exact Nat.le_refl _ | (simp; omega) | (simp; done)) _ | with_reducible refine Below.on ?_ (by assumption)))))
      case rest =>
        obtain ⟨q, rfl, rfl, HQ, HC⟩ := hcut
        rename World => wz
        obtain ⟨q0, q1, q2, q3, q4, q5, q6⟩ := HQ.out
        obtain ⟨p0, p1, p2, p3, p4, p5, p6⟩ := HBE.out.later HC.out
        have HBz : Hid (Below wx.heap.size wx wz) := Below.on HB.out HC.out
        clear g0 OUT2
        have STEP : Hid (∀ (P : Prop), (ok = false → P) → (ok = true → z = true → P) → (ok = true → z = false → P) → P) := fun P h1 h2 h3 => by
          cases ok with
          | false => exact h1 rfl
          | true =>
            cases z with
            | true => exact h2 rfl rfl
            | false => exact h3 rfl rfl
        refine STEP.out _ (fun ho => ?_) (fun ho hz => ?_) (fun ho hz => ?_)
        · subst ho
          have HN : Hid (difB (matsR (D.take (k + 1))) e = false) := by show _ = _; rw [HDT.out, HCL.out]; rfl
          go_wp2_with (go_at_call 16; refine (AGR.out _).mono ?_; rintro r w3 ⟨rfl, hb3⟩)
          go_roundg (n - (k + 1))
          case measure => omega
          case rel => exact ⟨k + 1, by omega, rfl, by go_num, Below.on HBz.out hb3, HN⟩
        · subst ho hz
          have HN : Hid (difB (matsR (D.take (k + 1))) e = false) := by show _ = _; rw [HDT.out, HCL.out]; rfl
          go_wp2_with (go_at_call 16; refine (AGR.out _).mono ?_; rintro r w3 ⟨rfl, hb3⟩)
          go_roundg (n - (k + 1))
          case measure => omega
          case rel => exact ⟨k + 1, by omega, rfl, by go_num, Below.on HBz.out hb3, HN⟩
        · subst ho hz
          have hu1 : u = true := HDK.out (by rw [HCL.out]; rfl)
          subst hu1
          go_wp2_with (go_at_call 16; refine (AGR.out _).mono ?_; rintro r w3 ⟨rfl, hb3⟩)
          go_ret
          exact ⟨rfl, Below.on HBX.out (Below.on HBz.out hb3)⟩
    · obtain rfl : k = n := by omega
      have hu0 : u = false := by
        have := HA.out
        rwa [← HLN.out, List.take_length, HU.out] at this
      subst hu0
      go_wp2_with fail
      go_ret
      exact ⟨rfl, Below.on HBX.out HB.out⟩
end Go.Proofs.Ytogjhpknlopajaa.Lg
