import Derived.Test.YtfdbffadajepfaaGreatB36
import Derived.Shelf.SlSortCmp.NoneTotal
import Derived.Shelf.SlGeneric
import Derived.Ground.SlsfProg
import Derived.Test.YtfdbffadajepfaaGreatProg
import Derived.Test.YtfdbffadajepfaaGreatB19
import Derived.Test.YtfdbffadajepfaaGreatB39
import Derived.Lib.SlicesCompact
import Derived.Lib.SliceRun
import Derived.Test.YtfdbffadajepfaaGreatB17
/- Read. -/
namespace Go.Proofs.YtfdbffadajepfaaGreat.Ys
open Go.RowKit Go.Sort
set_option linter.unusedVariables false

/-- a row of pairs of its own -/
def RdO (B : Nat) (w : World) (a : Option Addr) (n c : Nat) (l : Vs.Prs) : Prop := n = l.length ∧ Vs.OwnP w B (.slice a n c) l
section
variable {F : Nat → Prop} {w : World} {p : Nat} {m1 m2 m : Option Nat} {V : List Lk.Hv} {I : Lk.It} {s : Ps}
set_option maxHeartbeats 1000000 in
theorem sread_is (T : St F w p m1 m2 m V I s) (hn : Vs.countM s.M ≤ 268435456) (lo hi : ByteArray) (t : Vs.Sp) :
    Calls Tryz.prog 7 #[sp p, .agg #[.string lo, .string hi], .agg #[.int .u64 t.a, .int .u32 t.b, .int .u32 t.c]] w fun e w' => ∃ (a : Option Addr) (n c : Nat), e = .returned (.tuple #[.slice a n c, .int .i64 (Vs.rdE s.M s.wm lo hi t)]) ∧ Hid (RdO w.heap.size w' a n c (Vs.rdL s.M s.wm lo hi t)) ∧ Below w.heap.size w w' := by
  obtain ⟨wx, hwx⟩ : ∃ wx, wx = (w.alloc (.cells #[.string lo, .string hi] 25)).alloc (.cells #[.int .u64 t.a, .int .u32 t.b, .int .u32 t.c] 28) := ⟨_, rfl⟩
  have hbx : Below w.heap.size w wx := by rw [hwx]; exact Below.al (Below.al (Below.refl _ _) _) _
  have x0 : wx.cell? ⟨w.heap.size, 0, none⟩ = some (.string lo) := by rw [hwx]; simp [go_sem]
  have x1 : wx.cell? ⟨w.heap.size, 1, none⟩ = some (.string hi) := by rw [hwx]; simp [go_sem]
  have c0 : wx.cell? ⟨w.heap.size + 1, 0, none⟩ = some (.int .u64 t.a) := by rw [hwx]; simp [go_sem]
  have c1 : wx.cell? ⟨w.heap.size + 1, 1, none⟩ = some (.int .u32 t.b) := by rw [hwx]; simp [go_sem]
  have c2 : wx.cell? ⟨w.heap.size + 1, 2, none⟩ = some (.int .u32 t.c) := by rw [hwx]; simp [go_sem]
  have RD : Hid (∀ W, Below wx.heap.size wx W → Calls Tryz.prog 23 #[.pointer (some ⟨p, 5, none⟩), .agg #[.string lo, .string hi], .agg #[.int .u64 t.a, .int .u32 t.b, .int .u32 t.c]] W fun e w' => ∃ (a : Option Addr) (n c : Nat), e = .returned (.tuple #[.slice a n c, .int .i64 (Vs.rdE s.M s.wm lo hi t)]) ∧ Hid (RdO w.heap.size w' a n c (Vs.rdL s.M s.wm lo hi t)) ∧ Below W.heap.size W w') := hid fun W hb => by
    refine (Vs.read_is (T.later (Below.on hbx hb)).st lo hi t hn).mono ?_
    rintro e w' ⟨v, he, ho, hbw⟩
    obtain ⟨a, c, rfl⟩ := owns_slice ho
    exact ⟨a, _, c, he, hid ⟨rfl, Lk.owns_base ho (Below.on hbx hb).size⟩, hbw⟩
  obtain ⟨E, hE⟩ : ∃ E, Vs.rdE s.M s.wm lo hi t = E := ⟨_, rfl⟩
  obtain ⟨l, hl⟩ : ∃ l, Vs.rdL s.M s.wm lo hi t = l := ⟨_, rfl⟩
  rw [hE, hl] at RD ⊢
  have HBX := hid hbx
  clear T hn hbx hE hl
  go_enter Tryz.func7, Tryz.ntmps7
  go_wp2_with fail
  rw [← hwx]
  clear hwx
  go_region_held3 (fun w' => w'.cell? ⟨w.heap.size, 0, none⟩ = some (.string lo) ∧ w'.cell? ⟨w.heap.size, 1, none⟩ = some (.string hi) ∧ w'.cell? ⟨w.heap.size + 1, 0, none⟩ = some (.int .u64 t.a) ∧ w'.cell? ⟨w.heap.size + 1, 1, none⟩ = some (.int .u32 t.b) ∧ w'.cell? ⟨w.heap.size + 1, 2, none⟩ = some (.int .u32 t.c) ∧ Below wx.heap.size wx w')
    ((refine (fun (hB : Below wx.heap.size wx _) => ⟨cell_later hB x0, cell_later hB x1, cell_later hB c0, cell_later hB c1, cell_later hB c2, hB⟩) ?_; (repeat (first | with_reducible exact Below.refl _ _ | with_reducible assumption | with_reducible refine Below.drew ?_ | with_reducible refine Below.al ?_ _ | with_reducible refine Below.setCell ?_ (by first | exact Nat.le_refl _ | (simp; omega) | (simp; done)) _ | with_reducible refine Below.on ?_ (by assumption)))))
    (first | (go_at_call 23; refine (RD.out _ (by (repeat (first | with_reducible exact Below.refl _ _ | with_reducible assumption | with_reducible refine Below.drew ?_ | with_reducible refine Below.al ?_ _ | with_reducible refine Below.setCell ?_ (by first | exact Nat.le_refl _ | (simp; omega) | (simp; done)) _ | with_reducible refine Below.on ?_ (by assumption))))).mono ?_; rintro e w2 ⟨a, n, c, rfl, HG, hb2⟩; have hB2 : Below wx.heap.size wx w2 := (by refine Below.on ?_ hb2; (repeat (first | with_reducible exact Below.refl _ _ | with_reducible assumption | with_reducible refine Below.drew ?_ | with_reducible refine Below.al ?_ _ | with_reducible refine Below.setCell ?_ (by first | exact Nat.le_refl _ | (simp; omega) | (simp; done)) _ | with_reducible refine Below.on ?_ (by assumption))))))
  all_goals (try go_wp2_with fail)
  all_goals (refine bodyPost_ret (v := .tuple #[.slice a n c, .int .i64 E]) (by simp [results, Tryz.results7, go_sem]) rfl ⟨a, n, c, rfl, ?_, Below.on HBX.out (by (repeat (first | with_reducible exact Below.refl _ _ | with_reducible assumption | with_reducible refine Below.drew ?_ | with_reducible refine Below.al ?_ _ | with_reducible refine Below.setCell ?_ (by first | exact Nat.le_refl _ | (simp; omega) | (simp; done)) _ | with_reducible refine Below.on ?_ (by assumption))))⟩)
  all_goals exact HG
end
end Go.Proofs.YtfdbffadajepfaaGreat.Ys
/- samePairs. -/
namespace Go.Proofs.YtfdbffadajepfaaGreat.Vs
open Go.RowKit Go.Sort
set_option linter.unusedVariables false

def eqP (x y : T2) : Bool := decide (x = y)
theorem run_nePair (x y : T2) (w : World) : (binOp .neq 89 (.agg #[.string x.1, .string x.2]) (.agg #[.string y.1, .string y.2])).run Tryz.prog w = .ok (.bool (!eqP x y)) w := by
  obtain ⟨a, b⟩ := x
  obtain ⟨c, d⟩ := y
  by_cases h1 : a = c
  · by_cases h2 : b = d
    · subst h1 h2; simp [eqP, go_sem, Tryz.underlying89]
    · have q2 := toList_beq' (decide_eq_false h2)
      subst h1; simp [eqP, go_sem, Tryz.underlying89, h2, q2]
  · have q1 := toList_beq' (decide_eq_false h1)
    simp [eqP, go_sem, Tryz.underlying89, h1, q1]
/-- the first k are alike -/
def allP (xs ys : Prs) (k : Nat) : Bool := allB (fun i => eqP (nth2 xs i) (nth2 ys i)) k
theorem allP_eq {xs ys : Prs} (h : xs.length = ys.length) (ha : allP xs ys xs.length = true) : xs = ys := by
  have hi : ∀ n i, i < n → allB (fun i => eqP (nth2 xs i) (nth2 ys i)) n = true → nth2 xs i = nth2 ys i := by
    intro n
    induction n with
    | zero => intro i hi; omega
    | succ n ih =>
      intro i hi ha
      rw [allB, Bool.and_eq_true] at ha
      by_cases e : i = n
      · subst e; simpa [eqP] using ha.2
      · exact ih i (by omega) ha.1
  apply List.ext_getElem h
  intro i h1 h2
  have := hi _ i h1 ha
  simpa [nth2, h1, h2] using this
set_option maxHeartbeats 1000000 in
theorem samePairs_is {a b : Option Addr} {c d : Nat} {xs ys : Prs} {w : World} {u : Bool} (hu : decide (xs = ys) = u) (h : Row2 w a xs) (k : Row2 w b ys) (hl : xs.length ≤ 1152921504606846976) (hl2 : ys.length ≤ 1152921504606846976) :
    Calls Tryz.prog 12 #[.slice a xs.length c, .slice b ys.length d] w fun e w' => e = .returned (.bool u) ∧ Below w.heap.size w w' := by
  subst hu
  by_cases hne : xs.length = ys.length
  · have q0 : ((xs.length : Int) != (ys.length : Int)) = false := by simp [hne]
    obtain ⟨n, hn⟩ : ∃ n, n = xs.length := ⟨_, rfl⟩
    have hn2 : n = ys.length := hn.trans hne
    have HA := hid (show _ ∧ _ ∧ _ ∧ _ from ⟨h, k, hn, hn2⟩)
    rw [← hn, ← hn2] at q0
    rw [← hn] at hl ⊢
    rw [← hn2]
    clear h k hn hn2 hne hl2
    go_enter Tryz.func12, Tryz.ntmps12
    go_wp2_with fail
    go_loopg [5] n (fun g s5 wr => ∃ i : Nat, i ≤ n ∧ g = n - i ∧ s5 = .int .i64 i ∧ Hid (Below w.heap.size w wr) ∧ Hid (allP xs ys i = true))
    case atStart => exact ⟨0, by omega, by omega, rfl, Below.refl _ _, rfl⟩
    case round =>
      obtain ⟨i, hi, rfl, rfl, HB, HP⟩ := hrel
      by_cases hlt : i < n
      · obtain ⟨ba, oa, ea, a0, a1⟩ := (HA.out.1.later HB.out) i (by have := HA.out.2.2.1; omega)
        obtain ⟨bb, ob, eb, b0, b1⟩ := (HA.out.2.1.later HB.out) i (by have := HA.out.2.2.2; omega)
        subst ea eb
        obtain ⟨x, hx⟩ : ∃ x, x = nth2 xs i := ⟨_, rfl⟩
        obtain ⟨y, hy⟩ : ∃ y, y = nth2 ys i := ⟨_, rfl⟩
        rw [← hx] at a0 a1
        rw [← hy] at b0 b1
        obtain ⟨u, hu⟩ : ∃ u, eqP x y = u := ⟨_, rfl⟩
        have HU : Hid (eqP (nth2 xs i) (nth2 ys i) = u) := by show _ = _; rw [← hx, ← hy]; exact hu
        have hrun := fun w => run_nePair x y w
        rw [hu] at hrun
        have ka0 := cell_regrown a0; have ka1 := cell_regrown a1; have kb0 := cell_regrown b0; have kb1 := cell_regrown b1
        clear hx hy hu
        obtain ⟨x1, x2⟩ := x
        obtain ⟨y1, y2⟩ := y
        simp only at hrun a0 a1 b0 b1 ka0 ka1 kb0 kb1
        cases u with
        | true =>
          go_wp2_with fail
          go_quiet (fail)
          go_wp2_with fail
          go_roundg (n - (i + 1))
          case measure => omega
          case rel => exact ⟨i + 1, by omega, rfl, by go_num, Below.drewN HB.out _, allB_yes HP.out HU.out⟩
        | false =>
          have HE : Hid (decide (xs = ys) = false) := decide_eq_false fun e => by have := HU.out; rw [e] at this; simp [eqP] at this
          go_wp2_with fail
          go_quiet (fail)
          go_wp2_with fail
          go_ret
          exact ⟨ret_bool (by rw [HE.out]), Below.drewN HB.out _⟩
      · obtain rfl : i = n := by omega
        have HE : Hid (xs = ys) := allP_eq (HA.out.2.2.1.symm.trans HA.out.2.2.2) (by rw [← HA.out.2.2.1]; exact HP.out)
        go_wp2_with fail
        go_ret
        exact ⟨ret_bool (by rw [HE.out]; simp), HB.out⟩
  · have q0 : ((xs.length : Int) != (ys.length : Int)) = true := by simp; omega
    have HE : Hid (decide (xs = ys) = false) := decide_eq_false fun e => hne (by rw [e])
    clear hne
    go_enter Tryz.func12, Tryz.ntmps12
    go_wp2_with fail
    go_ret
    exact ⟨ret_bool (by rw [HE.out]), by (repeat (first | exact Below.refl _ _ | assumption | refine Below.drew ?_ | refine Below.al ?_ _ | refine Below.setCell ?_ (by first | exact Nat.le_refl _ | (simp; omega) | (simp; done)) _ | refine Below.on ?_ (by assumption)))⟩
end Go.Proofs.YtfdbffadajepfaaGreat.Vs
/-
  DERIVED: THE SHELF's CONTRACTS AT THIS DUMP, IN PLAIN WORDS (tools/lay-plain.mjs out of 'TryzShelfs.lean', which tools/lay-shelf.mjs wrote): THE SAME DECLARATIONS UNDER THE SAME NAMES: 'import', 'namespace', 'open', 'def', 'theorem' AND NOTHING ELSE: no command of the shelf's: FOR A HAND-IN. Each laying: the table of numbers ('.._ren') and one theorem, a field a fact of the dump's own or the kernel's comparison; each contract: ONE APPLICATION.
-/
namespace Go.Proofs
open Go.Shelf
def Tryz.sortH_ren : Go.Shelf.Ren := ⟨fun | 6 => 226 | 15 => 76 | 14 => 235 | 28 => 121 | 29 => 122 | 20 => 240 | 21 => 241 | 22 => 242 | 23 => 243 | 24 => 244 | 25 => 245 | 26 => 246 | 27 => 247 | 46 => 250 | 47 => 165 | 48 => 166 | 49 => 251 | 50 => 252 | 57 => 261 | n => n, fun | 22 => 182 | 24 => 62 | 25 => 277 | 3 => 3 | 39 => 140 | 0 => 0 | 53 => 22 | 55 => 26 | 4 => 4 | 46 => 172 | 45 => 171 | 50 => 176 | 5 => 5 | 9 => 9 | 66 => 225 | 70 => 228 | 76 => 262 | 77 => 263 | n => n, fun | n => n⟩
theorem Tryz.sortH : Go.Proofs.SlLaysF0.n6 Tryz.prog Tryz.sortH_ren := {
  mixed := by kernel_rfl
  f6 := ⟨Tryz.f226.name, by decide, Tryz.func226.trans (congrArg some (by kernel_rfl))⟩
  f14 := ⟨Tryz.f235.name, by decide, Tryz.func235.trans (congrArg some (by kernel_rfl))⟩
  f15 := Tryz.func76.trans (congrArg some (by kernel_rfl))
  f20 := ⟨Tryz.f240.name, by decide, Tryz.func240.trans (congrArg some (by kernel_rfl))⟩
  f21 := ⟨Tryz.f241.name, by decide, Tryz.func241.trans (congrArg some (by kernel_rfl))⟩
  f22 := ⟨Tryz.f242.name, by decide, Tryz.func242.trans (congrArg some (by kernel_rfl))⟩
  f23 := ⟨Tryz.f243.name, by decide, Tryz.func243.trans (congrArg some (by kernel_rfl))⟩
  f24 := ⟨Tryz.f244.name, by decide, Tryz.func244.trans (congrArg some (by kernel_rfl))⟩
  f25 := ⟨Tryz.f245.name, by decide, Tryz.func245.trans (congrArg some (by kernel_rfl))⟩
  f26 := ⟨Tryz.f246.name, by decide, Tryz.func246.trans (congrArg some (by kernel_rfl))⟩
  f27 := ⟨Tryz.f247.name, by decide, Tryz.func247.trans (congrArg some (by kernel_rfl))⟩
  f28 := Tryz.func121.trans (congrArg some (by kernel_rfl))
  f29 := Tryz.func122.trans (congrArg some (by kernel_rfl))
  f46 := ⟨Tryz.f250.name, by decide, Tryz.func250.trans (congrArg some (by kernel_rfl))⟩
  f47 := Tryz.func165.trans (congrArg some (by kernel_rfl))
  f48 := Tryz.func166.trans (congrArg some (by kernel_rfl))
  f49 := ⟨Tryz.f251.name, by decide, Tryz.func251.trans (congrArg some (by kernel_rfl))⟩
  f50 := ⟨Tryz.f252.name, by decide, Tryz.func252.trans (congrArg some (by kernel_rfl))⟩
  f57 := ⟨Tryz.f261.name, by decide, Tryz.func261.trans (congrArg some (by kernel_rfl))⟩
  t0 := Tryz.underlying0
  a0 := Tryz.isAgg0
  z0 := Tryz.sizeOf0
  v0 := Tryz.zeroValue0
  t3 := Tryz.underlying3
  a3 := Tryz.isAgg3
  z3 := Tryz.sizeOf3
  v3 := Tryz.zeroValue3
  t4 := Tryz.underlying4
  a4 := Tryz.isAgg4
  z4 := Tryz.sizeOf4
  v4 := Tryz.zeroValue4
  t5 := Tryz.underlying5
  a5 := Tryz.isAgg5
  z5 := Tryz.sizeOf5
  v5 := Tryz.zeroValue5
  t9 := Tryz.underlying9
  a9 := Tryz.isAgg9
  z9 := Tryz.sizeOf9
  v9 := Tryz.zeroValue9
  t22 := Tryz.underlying182
  a22 := Tryz.isAgg182
  z22 := Tryz.sizeOf182
  v22 := Tryz.zeroValue182
  t25 := Tryz.underlying277
  a25 := Tryz.isAgg277
  z25 := Tryz.sizeOf277
  v25 := Tryz.zeroValue277
  t39 := Tryz.underlying140
  a39 := Tryz.isAgg140
  z39 := Tryz.sizeOf140
  v39 := Tryz.zeroValue140
  t45 := Tryz.underlying171
  a45 := Tryz.isAgg171
  z45 := Tryz.sizeOf171
  v45 := Tryz.zeroValue171
  t46 := Tryz.underlying172
  a46 := Tryz.isAgg172
  z46 := Tryz.sizeOf172
  v46 := Tryz.zeroValue172
  t50 := Tryz.underlying176
  a50 := Tryz.isAgg176
  z50 := Tryz.sizeOf176
  v50 := Tryz.zeroValue176
  t53 := Tryz.underlying22
  a53 := Tryz.isAgg22
  z53 := Tryz.sizeOf22
  v53 := Tryz.zeroValue22
  t55 := Tryz.underlying26
  a55 := Tryz.isAgg26
  z55 := Tryz.sizeOf26
  v55 := Tryz.zeroValue26
  t66 := Tryz.underlying225
  a66 := Tryz.isAgg225
  z66 := Tryz.sizeOf225
  v66 := Tryz.zeroValue225
  t70 := Tryz.underlying228
  a70 := Tryz.isAgg228
  z70 := Tryz.sizeOf228
  v70 := Tryz.zeroValue228
  t76 := Tryz.underlying262
  a76 := Tryz.isAgg262
  z76 := Tryz.sizeOf262
  v76 := Tryz.zeroValue262
  t77 := Tryz.underlying263
  a77 := Tryz.isAgg263
  z77 := Tryz.sizeOf263
  v77 := Tryz.zeroValue263 }
def Tryz.sortT_ren : Go.Shelf.Ren := ⟨fun | 6 => 45 | 15 => 76 | 14 => 75 | 28 => 121 | 29 => 122 | 20 => 113 | 21 => 114 | 22 => 115 | 23 => 116 | 24 => 117 | 25 => 118 | 26 => 119 | 27 => 120 | 46 => 164 | 47 => 165 | 48 => 166 | 49 => 167 | 50 => 168 | 57 => 208 | n => n, fun | 22 => 39 | 24 => 43 | 25 => 109 | 3 => 3 | 39 => 140 | 0 => 0 | 53 => 22 | 55 => 26 | 4 => 4 | 46 => 172 | 45 => 171 | 50 => 176 | 5 => 5 | 9 => 9 | 66 => 225 | 70 => 228 | 76 => 262 | 77 => 263 | n => n, fun | n => n⟩
theorem Tryz.sortT : Go.Proofs.SlLaysF0.n6 Tryz.prog Tryz.sortT_ren := {
  mixed := by kernel_rfl
  f6 := ⟨Tryz.f45.name, by decide, Tryz.func45.trans (congrArg some (by kernel_rfl))⟩
  f14 := ⟨Tryz.f75.name, by decide, Tryz.func75.trans (congrArg some (by kernel_rfl))⟩
  f15 := Tryz.func76.trans (congrArg some (by kernel_rfl))
  f20 := ⟨Tryz.f113.name, by decide, Tryz.func113.trans (congrArg some (by kernel_rfl))⟩
  f21 := ⟨Tryz.f114.name, by decide, Tryz.func114.trans (congrArg some (by kernel_rfl))⟩
  f22 := ⟨Tryz.f115.name, by decide, Tryz.func115.trans (congrArg some (by kernel_rfl))⟩
  f23 := ⟨Tryz.f116.name, by decide, Tryz.func116.trans (congrArg some (by kernel_rfl))⟩
  f24 := ⟨Tryz.f117.name, by decide, Tryz.func117.trans (congrArg some (by kernel_rfl))⟩
  f25 := ⟨Tryz.f118.name, by decide, Tryz.func118.trans (congrArg some (by kernel_rfl))⟩
  f26 := ⟨Tryz.f119.name, by decide, Tryz.func119.trans (congrArg some (by kernel_rfl))⟩
  f27 := ⟨Tryz.f120.name, by decide, Tryz.func120.trans (congrArg some (by kernel_rfl))⟩
  f28 := Tryz.func121.trans (congrArg some (by kernel_rfl))
  f29 := Tryz.func122.trans (congrArg some (by kernel_rfl))
  f46 := ⟨Tryz.f164.name, by decide, Tryz.func164.trans (congrArg some (by kernel_rfl))⟩
  f47 := Tryz.func165.trans (congrArg some (by kernel_rfl))
  f48 := Tryz.func166.trans (congrArg some (by kernel_rfl))
  f49 := ⟨Tryz.f167.name, by decide, Tryz.func167.trans (congrArg some (by kernel_rfl))⟩
  f50 := ⟨Tryz.f168.name, by decide, Tryz.func168.trans (congrArg some (by kernel_rfl))⟩
  f57 := ⟨Tryz.f208.name, by decide, Tryz.func208.trans (congrArg some (by kernel_rfl))⟩
  t0 := Tryz.underlying0
  a0 := Tryz.isAgg0
  z0 := Tryz.sizeOf0
  v0 := Tryz.zeroValue0
  t3 := Tryz.underlying3
  a3 := Tryz.isAgg3
  z3 := Tryz.sizeOf3
  v3 := Tryz.zeroValue3
  t4 := Tryz.underlying4
  a4 := Tryz.isAgg4
  z4 := Tryz.sizeOf4
  v4 := Tryz.zeroValue4
  t5 := Tryz.underlying5
  a5 := Tryz.isAgg5
  z5 := Tryz.sizeOf5
  v5 := Tryz.zeroValue5
  t9 := Tryz.underlying9
  a9 := Tryz.isAgg9
  z9 := Tryz.sizeOf9
  v9 := Tryz.zeroValue9
  t22 := Tryz.underlying39
  a22 := Tryz.isAgg39
  z22 := Tryz.sizeOf39
  v22 := Tryz.zeroValue39
  t25 := Tryz.underlying109
  a25 := Tryz.isAgg109
  z25 := Tryz.sizeOf109
  v25 := Tryz.zeroValue109
  t39 := Tryz.underlying140
  a39 := Tryz.isAgg140
  z39 := Tryz.sizeOf140
  v39 := Tryz.zeroValue140
  t45 := Tryz.underlying171
  a45 := Tryz.isAgg171
  z45 := Tryz.sizeOf171
  v45 := Tryz.zeroValue171
  t46 := Tryz.underlying172
  a46 := Tryz.isAgg172
  z46 := Tryz.sizeOf172
  v46 := Tryz.zeroValue172
  t50 := Tryz.underlying176
  a50 := Tryz.isAgg176
  z50 := Tryz.sizeOf176
  v50 := Tryz.zeroValue176
  t53 := Tryz.underlying22
  a53 := Tryz.isAgg22
  z53 := Tryz.sizeOf22
  v53 := Tryz.zeroValue22
  t55 := Tryz.underlying26
  a55 := Tryz.isAgg26
  z55 := Tryz.sizeOf26
  v55 := Tryz.zeroValue26
  t66 := Tryz.underlying225
  a66 := Tryz.isAgg225
  z66 := Tryz.sizeOf225
  v66 := Tryz.zeroValue225
  t70 := Tryz.underlying228
  a70 := Tryz.isAgg228
  z70 := Tryz.sizeOf228
  v70 := Tryz.zeroValue228
  t76 := Tryz.underlying262
  a76 := Tryz.isAgg262
  z76 := Tryz.sizeOf262
  v76 := Tryz.zeroValue262
  t77 := Tryz.underlying263
  a77 := Tryz.isAgg263
  z77 := Tryz.sizeOf263
  v77 := Tryz.zeroValue263 }
end Go.Proofs
/- Rows that are sorted. -/
namespace Go.Proofs.YtfdbffadajepfaaGreat.Lk
open Go.RowKit Go.Sort Go.Shelf Go.Lib
set_option linter.unusedVariables false
theorem swo_of {α : Type} (f : α → Ix) : SWO (ltOf fun x y => cmpI (f x) (f y)) where
  irrefl x := by show decide (_ < _) = _; rw [cmp_lt]; simp [ltI]
  trans x y z h1 h2 := by
    change decide (_ < _) = _ at h1 h2 ⊢
    rw [cmp_lt] at *
    simp only [ltI, Bool.or_eq_true, Bool.and_eq_true, decide_eq_true_eq] at *
    omega
  ntrans x y z h1 h2 := by
    change decide (_ < _) = _ at h1 h2 ⊢
    rw [cmp_lt] at *
    simp only [ltI, Bool.or_eq_false_iff, Bool.and_eq_false_iff, decide_eq_false_iff_not] at *
    omega
section
variable {α : Type} {enc : α → List Value} {k : Nat}
theorem fm_len (hk : ∀ x, (enc x).length = k) : ∀ xs : List α, (xs.flatMap enc).length = xs.length * k
  | [] => by simp
  | x :: xs => by rw [List.flatMap_cons, List.length_append, hk, fm_len hk xs, List.length_cons, Nat.add_mul, Nat.one_mul, Nat.add_comm]
theorem fm_one (h1 : ∀ x, ∀ v ∈ enc x, v.oneCell' = true) (xs : List α) : ∀ v ∈ xs.flatMap enc, v.oneCell' = true := by
  intro v hv
  obtain ⟨x, _, hv⟩ := List.mem_flatMap.1 hv
  exact h1 x v hv
variable [Inhabited α]
theorem fm_get (hk : ∀ x, (enc x).length = k) : ∀ (xs : List α) (i o : Nat), i < xs.length → o < k → (xs.flatMap enc)[i * k + o]? = (enc xs[i]!)[o]?
  | x :: xs, 0, o, _, ho => by
    rw [List.flatMap_cons, List.getElem?_append_left (by rw [hk]; omega)]; simp
  | x :: xs, i + 1, o, hi, ho => by
    have ih := fm_get hk xs i o (by simpa using hi) ho
    rw [List.flatMap_cons, List.getElem?_append_right (by rw [hk, Nat.add_mul]; omega), show (i + 1) * k + o - (enc x).length = i * k + o by rw [hk, Nat.add_mul]; omega, ih]
    simp
theorem flatK_fm (hk : ∀ x, (enc x).length = k) (h0 : 0 < k) (xs : List α) : (flatK enc k xs.toArray).toList = xs.flatMap enc := by
  apply List.ext_getElem?
  intro j
  rw [Array.getElem?_toList]
  by_cases hj : j < xs.length * k
  · have hi : j / k < xs.length := Nat.div_lt_of_lt_mul (by rw [Nat.mul_comm]; exact hj)
    have ho : j % k < k := Nat.mod_lt _ h0
    have h := fm_get hk xs (j / k) (j % k) hi ho
    rw [show j / k * k + j % k = j by rw [Nat.mul_comm]; exact Nat.div_add_mod j k] at h
    have ho' : j % k < (enc xs[j / k]!).length := by rw [hk]; exact ho
    have hsz : j < (flatK enc k xs.toArray).size := by rw [size_flatK]; simpa using hj
    rw [h, List.getElem?_eq_getElem ho', Array.getElem?_eq_getElem hsz]
    have := get_flatK enc k xs.toArray j (by simpa using hj)
    rw [getElem!_pos _ j hsz] at this
    rw [this]
    simp only [List.getElem!_toArray]
    rw [getElem!_pos (enc xs[j / k]!) (j % k) ho']
  · have e1 : (flatK enc k xs.toArray)[j]? = none := Array.getElem?_eq_none (by rw [size_flatK]; simpa using hj)
    have e2 : (xs.flatMap enc)[j]? = none := List.getElem?_eq_none (by rw [fm_len hk]; omega)
    rw [e1, e2]
variable {T : TypeId} {w : World} {B g n c : Nat} {xs ys : List α}
theorem holds_row (hk : ∀ x, (enc x).length = k) (h0 : 0 < k) (h : w.ownsRow B T k (.slice (some ⟨g, 0, none⟩) n c) n (xs.flatMap enc)) : HoldsK enc k w g 0 xs.toArray := by
  obtain ⟨hl, ⟨e1, _⟩ | ⟨g', cap, cur, e1, hB, hh, h1, h2, h3, h4⟩⟩ := h
  · cases e1
  · injection e1 with e1
    injection e1 with e1
    injection e1 with e1
    subst e1
    intro j hj
    rw [size_flatK] at hj
    have hj' : j < xs.length * k := by simpa using hj
    have hv : (flatK enc k xs.toArray)[j]? = (xs.flatMap enc)[j]? := by rw [← Array.getElem?_toList, flatK_fm hk h0]
    have hlt : j < (xs.flatMap enc).length := by rw [fm_len hk]; exact hj'
    have hsz : j < (flatK enc k xs.toArray).size := by rw [size_flatK]; exact hj
    have hc : cur[j]? = (flatK enc k xs.toArray)[j]? := by
      rw [hv, ← h4, List.getElem?_take]
      rw [if_pos (by rw [← hl]; exact hlt)]
      simp
    constructor
    · rw [Nat.zero_add]
      refine cell_of_obj hh ?_
      rw [hc, getElem!_pos _ j hsz, Array.getElem?_eq_getElem hsz]; rfl
    · simp [World.frozen?, hh]
theorem sorted_row (hk : ∀ x, (enc x).length = k) (h0 : 0 < k) (h : w.ownsRow B T k (.slice (some ⟨g, 0, none⟩) n c) n (xs.flatMap enc)) (hy : ys.length = xs.length) (m : Nat) (os : Array Obj) :
    (sortWorldK enc k w g 0 m ys.toArray os).ownsRow B T k (.slice (some ⟨g, 0, none⟩) n c) n (ys.flatMap enc) ∧ Onl (fun b => b = g) w (sortWorldK enc k w g 0 m ys.toArray os) := by
  obtain ⟨hl, ⟨e1, _⟩ | ⟨g', cap, cur, e1, hB, hh, h1, h2, h3, h4⟩⟩ := h
  · cases e1
  · injection e1 with e1 e2 e3
    injection e1 with e1
    injection e1 with e1
    subst e1 e3
    have hlt : g < w.heap.size := (Array.getElem?_eq_some_iff.1 hh).1
    have hly : (ys.flatMap enc).length = n * k := by rw [fm_len hk, hy, ← fm_len hk, hl]
    constructor
    · refine ⟨hly, .inr ⟨g, c, putCells id 0 (flatK enc k ys.toArray) cur, rfl, hB, ?_, h1, h2, ?_, ?_⟩⟩
      · unfold sortWorldK grow putRowK putRow mapBlock Sort.ahead
        simp only
        rw [Array.getElem?_append_left (by simpa using hlt), Array.getElem?_modify, if_pos rfl, hh]
        rfl
      · simp [putCells, h3]
      · apply List.ext_getElem?
        intro j
        rw [List.getElem?_take, ← flatK_fm hk h0, Array.getElem?_toList, Array.getElem?_toList]
        have hs : (flatK enc k ys.toArray).size = n * k := by rw [size_flatK]; simpa [fm_len hk] using hly
        by_cases hj : j < n * k
        · have hjc : j < cur.size := by rw [h3]; exact Nat.lt_of_lt_of_le hj (Nat.mul_le_mul_right _ h1)
          have hjf : j < (flatK enc k ys.toArray).size := by rw [hs]; exact hj
          rw [if_pos hj]
          simp only [putCells, Array.getElem?_mapIdx, Array.getElem?_eq_getElem hjc, Option.map_some, Array.getElem?_eq_getElem hjf]
          simp [hs, hj]
        · rw [if_neg hj, Array.getElem?_eq_none (by rw [hs]; omega)]
    · refine ⟨rfl, rfl, rfl, by simp [sortWorldK, grow, putRowK, putRow, mapBlock, Sort.ahead], fun b hb hne => ?_⟩
      unfold sortWorldK grow putRowK putRow mapBlock Sort.ahead
      simp only
      rw [Array.getElem?_append_left (by simpa using hb), Array.getElem?_modify, if_neg (fun e => hne e.symm)]
theorem perm_of {d d' : Array α} (h : PermIn 0 d.size d d') : d'.toList.Perm d.toList := by
  obtain ⟨h1, _, h2⟩ := h
  have e1 : d'.extract 0 d.size = d' := by rw [← h1]; simp
  have e2 : d.extract 0 d.size = d := by simp
  rwa [e1, e2] at h2
theorem sorted_of {lt : α → α → Bool} {d : Array α} (h : SortedIn lt 0 d.size d) : d.toList.Pairwise (fun x y => lt y x = false) := by
  rw [List.pairwise_iff_getElem]
  intro i j hi hj hij
  have := h i j (Nat.zero_le _) hij (by simpa using hj)
  rwa [getElem!_pos _ j (by simpa using hj), getElem!_pos _ i (by simpa using hi)] at this
end
end Go.Proofs.YtfdbffadajepfaaGreat.Lk
/- slices.Compact at ids. -/
namespace Go.Proofs.YtfdbffadajepfaaGreat.Lk
open Go.RowKit Go.Sort Go.Lib
set_option linter.unusedVariables false

abbrev ics (i : Ix) : List Value := [.int .u32 i.1, .int .u32 i.2]
abbrev RowI (w : World) (a : Option Addr) (xs : List Ix) : Prop := RowC ((0, 0) : Ix) ics 2 w a xs
/-- a row of ids in a block of its own -/
def OwnI (B : Nat) (w : World) (s : Value) (n : Nat) (xs : List Ix) : Prop := w.ownsRow B 43 2 s n (xs.flatMap ics)
def CellI (w : World) (g : Nat) (f : Nat → Ix) (n : Nat) : Prop := ∀ i, i < n → w.cell? ⟨g, i * 2, none⟩ = some (.int .u32 (f i).1) ∧ w.cell? ⟨g, i * 2 + 1, none⟩ = some (.int .u32 (f i).2)
abbrev setI (w : World) (g k : Nat) (y : Ix) : World := (w.setCell ⟨g, k * 2, none⟩ (.int .u32 y.1)).setCell ⟨g, k * 2 + 1, none⟩ (.int .u32 y.2)
theorem CellI.put {w : World} {g n k : Nat} {f : Nat → Ix} (h : CellI w g f n) (y : Ix) : CellI (setI w g k y) g (put f k y) n := by
  intro i hi
  by_cases e : i = k
  · subst e
    rw [put_same]
    refine ⟨cell_setc (by simp) (World.cell?_setCell_same _ _ _ (h i hi).1), World.cell?_setCell_same _ _ _ (cell_setc (by simp) (h i hi).2)⟩
  · rw [put_other _ _ e]
    exact ⟨cell_setc (by simp only [ne_eq, Addr.mk.injEq]; omega) (cell_setc (by simp only [ne_eq, Addr.mk.injEq]; omega) (h i hi).1), cell_setc (by simp only [ne_eq, Addr.mk.injEq]; omega) (cell_setc (by simp only [ne_eq, Addr.mk.injEq]; omega) (h i hi).2)⟩
theorem CellI.congr {w : World} {g n : Nat} {f f' : Nat → Ix} (h : CellI w g f n) (e : ∀ i, i < n → f i = f' i) : CellI w g f' n := fun i hi => by rw [← e i hi]; exact h i hi
theorem CellI.later {w w' : World} {g n : Nat} {f : Nat → Ix} (h : CellI w g f n) (hb : Below w.heap.size w w') : CellI w' g f n := fun i hi => ⟨cell_later hb (h i hi).1, cell_later hb (h i hi).2⟩
theorem onl_setI (w : World) (g k : Nat) (y : Ix) : Onl (fun b => b = g) w (setI w g k y) := ((Onl.refl (fun b => b = g) w).set (p := g) rfl _ _).set (p := g) rfl _ _
theorem put_arr {d : Array Ix} {k : Nat} {y : Ix} (hk : k < d.size) (j : Nat) : put (fun j => d[j]!) k y j = (d.setIfInBounds k y)[j]! := by
  by_cases e : j = k
  · subst e; rw [put_same, getElem!_set_same d j y hk]
  · rw [put_other _ _ e, getElem!_set_other d k j y e]
/-- the row's cells -/
theorem ownI_cells {B n : Nat} {w : World} {a : Option Addr} {c : Nat} {xs : List Ix} (h : OwnI B w (.slice a n c) n xs) (hn : xs.length = n) (h0 : 0 < n) : ∃ g, a = some ⟨g, 0, none⟩ ∧ B ≤ g ∧ g < w.heap.size ∧ Loose w g ∧ n ≤ c ∧ c ≤ maxLen ∧ CellI w g (fun j => xs.toArray[j]!) n := by
  obtain ⟨g, rfl, hB, hc⟩ := own_cells h h0
  have hlt : g < w.heap.size := (h.lt g rfl).2
  obtain ⟨cur, hcur⟩ := own_type h (g := g) rfl
  refine ⟨g, rfl, hB, hlt, fun o => by simp [World.frozen?, hcur], ?_, ?_, fun i hi => ?_⟩
  · obtain ⟨_, ⟨e1, _⟩ | ⟨g', cap, cur', e1, _, _, h1, h2, _⟩⟩ := h
    · cases e1
    · injection e1 with _ _ e1; omega
  · obtain ⟨_, ⟨e1, _⟩ | ⟨g', cap, cur', e1, _, _, h1, h2, _⟩⟩ := h
    · cases e1
    · injection e1 with _ _ e1; omega
  · have e : xs.toArray[i]! = xs[i]! := by simp [getElem!_def]
    have h0 := fm_get (enc := ics) (k := 2) (fun _ => rfl) xs i 0 (by omega) (by decide)
    have h1 := fm_get (enc := ics) (k := 2) (fun _ => rfl) xs i 1 (by omega) (by decide)
    simp only [e]
    exact ⟨hc _ _ h0, hc _ _ h1⟩

theorem run_clearI (w : World) (ty : TypeId) (g k n c : Nat) (hk : k < n) (hc : ∀ j, j < (n - k) * 2 → (w.cell? ⟨g, k * 2 + j, none⟩).isSome = true) (hf : Loose w g) :
    (Builtin.clear_ #[39] ty #[.slice (some ⟨g, k * 2, none⟩) (n - k) c]).run Tryz.prog w = .ok (.tuple #[]) (w.setCells g (k * 2) (List.replicate ((n - k) * 2) (.int .u32 0))) := by
  obtain ⟨m, hm⟩ : ∃ m, n - k = m + 1 := ⟨n - k - 1, by omega⟩
  have hzc : (Builtin.zeroCells (Value.agg #[.int .u32 0, .int .u32 0]).cells (m + 1)).toList = List.replicate ((m + 1) * 2) (.int .u32 0) := by
    simp only [Value.cells, Builtin.zeroCells]
    apply List.ext_getElem
    · simp
    · intro i h1 h2
      simp only [List.getElem_replicate]
      have : i % 2 = 0 ∨ i % 2 = 1 := by omega
      rcases this with e | e <;> simp [e]
  have hst := run_storeCells_cells (P := Tryz.prog) g (k * 2) (List.replicate ((m + 1) * 2) (.int .u32 0)) 0 w (by rw [← hm]; simpa using hc) (by intro j _; exact hf _) (by intro v hv'; rw [List.eq_of_mem_replicate hv']; rfl)
  simp only [Nat.add_zero] at hst
  rw [hm]
  simp [Builtin.clear_, run_underlying Tryz.underlying39, hzc, hst]
theorem onl_setCells (g : Nat) : ∀ (vs : List Value) (o : Nat) (w : World), Onl (fun b => b = g) w (w.setCells g o vs)
  | [], _, w => Onl.refl _ _
  | v :: r, o, w => ((Onl.refl (fun b => b = g) w).set (p := g) rfl _ _).trans (onl_setCells g r (o + 1) _)
/-- what is kept -/
theorem rowI_of {w : World} {g n : Nat} {f : Nat → Ix} {ys : List Ix} (h : CellI w g f n) (hl : ys.length ≤ n) (e : ∀ j, j < ys.length → ys[j]? = some (f j)) : RowI w (some ⟨g, 0, none⟩) ys := fun i hi => by
  refine ⟨g, 0, rfl, fun o u ho => ?_⟩
  rw [e i hi] at ho
  obtain ⟨h0, h1⟩ := h i (by omega)
  match o, ho with
  | 0, ho => simp at ho; subst ho; simpa using h0
  | 1, ho => simp at ho; subst ho; simpa using h1
  | o + 2, ho => simp at ho

set_option maxHeartbeats 4000000 in
theorem compact_is {B n : Nat} {w : World} {a : Option Addr} {c : Nat} {xs : List Ix} (h : OwnI B w (.slice a n c) n xs) (hn : xs.length = n) :
    Calls Tryz.prog 47 #[.slice a n c] w fun e w' => ∃ m : Nat, e = .returned (.slice a m c) ∧ Hid ((compactUpTo xs.toArray n).length = m) ∧ Hid (RowI w' a (compactUpTo xs.toArray n)) ∧ Hid (Onl (fun b => (Value.slice a n c).ownBlock = some b) w w') := by
  have hnl := own_le h
  by_cases h2 : n < 2
  · have hD : compactUpTo xs.toArray n = xs := by
      have := compactUpTo_all xs.toArray n (fun j hj => keeps_lt_one _ j (by omega))
      rw [this, ← hn]
      have := range_map_get xs.toArray
      simpa using this
    have HR : Hid (RowI w a xs) := by
      by_cases h0 : n = 0
      · have : xs = [] := List.eq_nil_of_length_eq_zero (by omega)
        subst this
        intro i hi; simp at hi
      · obtain ⟨g, rfl, _, _, _, _, _, hc⟩ := ownI_cells h hn (by omega)
        refine rowI_of hc (by omega) (fun j hj => by simp [hj])
    rw [hD]
    have hd : decide ((n : Int) < 2) = true := decide_eq_true (by omega)
    clear h hD
    go_enter Tryz.func47, Tryz.ntmps47
    go_wp2_with fail
    go_ret
    exact ⟨n, rfl, hn, HR, Onl.refl _ _⟩
  · obtain ⟨g, rfl, hB, hlt, hlo, hcap, hcm, hc⟩ := ownI_cells h hn (by omega)
    obtain ⟨d, hd⟩ : ∃ d, d = xs.toArray := ⟨_, rfl⟩
    rw [← hd] at hc ⊢
    have hds : d.size = n := by rw [hd]; simpa using hn
    have HC := hid hc
    have HLO := hid hlo
    have HDS := hid hds
    have HLT := hid hlt
    clear h hd hc hlo hn hlt hds
    have hd2 : ((n : Int) < 2) = False := by simp; omega
    go_enter Tryz.func47, Tryz.ntmps47
    go_wp2_with fail
    go_loopg [3] (n - 1) (fun gg s3 wr => ∃ k : Nat, 1 ≤ k ∧ k ≤ n ∧ gg = n - k ∧ s3 = .int .i64 k ∧ Hid (Below w.heap.size w wr) ∧ Hid (∀ j, j < k → keeps d j = true))
    case atStart => exact ⟨1, by omega, by omega, by omega, rfl, Below.refl _ _, fun j hj => keeps_lt_one _ j hj⟩
    case round =>
      obtain ⟨k, hk0, hk, rfl, rfl, HB, HA⟩ := hrel
      by_cases hkn : k < n
      · have hcr := HC.out.later HB.out
        obtain ⟨c0, c1⟩ := hcr k hkn
        obtain ⟨m, hm⟩ : ∃ m, m = k - 1 := ⟨_, rfl⟩
        obtain ⟨d0, d1⟩ := hcr m (by omega)
        have hw1 : IntKind.i64.wrap ((k : Int) - 1) = (m : Int) := by rw [IntKind.wrap_i64]; omega
        have hk1 : (k : Int) < (n : Int) := by omega
        have hm1 : (m : Int) < (n : Int) := by omega
        obtain ⟨x, hx⟩ : ∃ x, x = d[k]! := ⟨_, rfl⟩
        obtain ⟨y, hy⟩ : ∃ y, y = d[m]! := ⟨_, rfl⟩
        simp only [← hx, ← hy] at c0 c1 d0 d1
        have s0 := cell_regrown c0
        have s1 := cell_regrown c1
        have t0 := cell_regrown d0
        have t1 := cell_regrown d1
        obtain ⟨z, hz⟩ : ∃ z, sameI x y = z := ⟨_, rfl⟩
        have qq : ∀ W, (binOp .eql 43 (.agg #[.int .u32 x.1, .int .u32 x.2]) (.agg #[.int .u32 y.1, .int .u32 y.2])).run Tryz.prog W = .ok (.bool z) W := fun W => by rw [← hz]; exact run_eqI x y W
        have HZ : Hid (sameI d[k]! d[k - 1]! = z) := by rw [← hm, ← hx, ← hy]; exact hz
        clear hcr c0 c1 d0 d1 hx hy hz hm
        cases z with
        | false =>
          go_wp2_with fail
          refine wp_region_quiet_below (by kernel_rfl) (by kernel_rfl) ?_
          repeat (go_big_quiet_step (fail))
          refine wpQuiet_nil ?_
          intro wn hwn
          replace hwn := below_of_regrown hwn
          go_wp2_with fail
          go_roundg (n - (k + 1))
          case measure => omega
          case rel =>
            refine ⟨k + 1, by omega, by omega, rfl, by go_num, Below.on HB.out hwn, fun j hj => ?_⟩
            by_cases e : j = k
            · subst e
              exact keeps_pos (by have := HZ.out; simpa [sameI] using this)
            · exact HA.out j (by omega)
        | true =>
          have HS : Hid (CompInv d (k + 1) k d) := CompInv.start HA.out (keeps_neg (by omega) (by have := HZ.out; simpa [sameI] using this))
          go_wp2_with fail
          refine wp_region_quiet_below (by kernel_rfl) (by kernel_rfl) ?_
          repeat (go_big_quiet_step (fail))
          refine wpQuiet_nil ?_
          intro wn hwn
          replace hwn := below_of_regrown hwn
          have HBN : Hid (Below w.heap.size w wn) := Below.on HB.out hwn
          clear hwn s0 s1 t0 t1 qq HA HB hw1 hm1
          have hck : (c = k) = False := by simp; omega
          go_wp2_with fail
          obtain ⟨L2, hL2⟩ : ∃ L2, L2 = n - k := ⟨_, rfl⟩
          obtain ⟨C2, hC2⟩ : ∃ C2, C2 = c - k := ⟨_, rfl⟩
          rw [← hL2, ← hC2]
          have HL2 := hid hL2
          clear hL2 hC2
          go_loopg [3, 5] (n - (k + 1)) (fun gg s3 s5 wr => ∃ (kk k2 : Nat) (dk : Array Ix), s3 = .int .i64 kk ∧ s5 = .int .i64 k2 ∧ 1 ≤ k2 ∧ k + k2 ≤ n ∧ gg = n - (k + k2) ∧ Hid (CompInv d (k + k2) kk dk) ∧ Hid (CellI wr g (fun j => dk[j]!) n ∧ Loose wr g ∧ Onl (fun b => b = g) w wr))
          case atStart => exact ⟨k, 1, d, rfl, rfl, by omega, by omega, by omega, HS, ⟨HC.out.later HBN.out, HLO.out.later HBN.out HLT.out, Onl.of_below HBN.out⟩⟩
          case round =>
            obtain ⟨kk, k2, dk, rfl, rfl, h1, hle, rfl, HI, HW⟩ := hrel
            have hkk : kk < k + k2 := HI.out.lt
            have hsz : dk.size = n := HI.out.size.trans HDS.out
            by_cases hlt2 : k + k2 < n
            · obtain ⟨m2, hm2⟩ : ∃ m2, m2 = k2 - 1 := ⟨_, rfl⟩
              have a0 : wr.cell? ⟨g, k * 2 + k2 * 2, none⟩ = some (.int .u32 (dk[k + k2]!).1) := by rw [show k * 2 + k2 * 2 = (k + k2) * 2 by omega]; exact (HW.out.1 (k + k2) hlt2).1
              have a1 : wr.cell? ⟨g, k * 2 + k2 * 2 + 1, none⟩ = some (.int .u32 (dk[k + k2]!).2) := by rw [show k * 2 + k2 * 2 + 1 = (k + k2) * 2 + 1 by omega]; exact (HW.out.1 (k + k2) hlt2).2
              have b0 : wr.cell? ⟨g, k * 2 + m2 * 2, none⟩ = some (.int .u32 (dk[k + k2 - 1]!).1) := by rw [show k * 2 + m2 * 2 = (k + k2 - 1) * 2 by omega]; exact (HW.out.1 (k + k2 - 1) (by omega)).1
              have b1 : wr.cell? ⟨g, k * 2 + m2 * 2 + 1, none⟩ = some (.int .u32 (dk[k + k2 - 1]!).2) := by rw [show k * 2 + m2 * 2 + 1 = (k + k2 - 1) * 2 + 1 by omega]; exact (HW.out.1 (k + k2 - 1) (by omega)).2
              have e0 := (HW.out.1 kk (by omega)).1
              have e1 := (HW.out.1 kk (by omega)).2
              have l0 := HW.out.2.1 (kk * 2)
              have l1 := HW.out.2.1 (kk * 2 + 1)
              have hu := HI.out.high (k + k2) (by omega)
              have hv := HI.out.high (k + k2 - 1) (by omega)
              obtain ⟨x, hx⟩ : ∃ x, x = dk[k + k2]! := ⟨_, rfl⟩
              obtain ⟨y, hy⟩ : ∃ y, y = dk[k + k2 - 1]! := ⟨_, rfl⟩
              obtain ⟨o, ho⟩ : ∃ o, o = dk[kk]! := ⟨_, rfl⟩
              rw [← hx] at a0 a1 hu
              rw [← hy] at b0 b1 hv
              simp only [← ho] at e0 e1
              have s0 := cell_regrown a0
              have s1 := cell_regrown a1
              have t0 := cell_regrown b0
              have t1 := cell_regrown b1
              obtain ⟨z, hz⟩ : ∃ z, sameI x y = z := ⟨_, rfl⟩
              have qq : ∀ W, (binOp .neq 43 (.agg #[.int .u32 x.1, .int .u32 x.2]) (.agg #[.int .u32 y.1, .int .u32 y.2])).run Tryz.prog W = .ok (.bool !z) W := fun W => by rw [← hz]; exact run_neI x y W
              have HZ : Hid (sameI d[k + k2]! d[k + k2 - 1]! = z) := by rw [← hu, ← hv]; exact hz
              have HU := hid hu
              have hw1 : IntKind.i64.wrap ((k2 : Int) - 1) = (m2 : Int) := by rw [IntKind.wrap_i64]; omega
              have hk2 : (k2 : Int) < (L2 : Int) := by have := HL2.out; omega
              have hm1 : (m2 : Int) < (L2 : Int) := by have := HL2.out; omega
              have hkn : (kk : Int) < (n : Int) := by omega
              have hkb : kk + 1 ≤ 9223372036854775807 := by omega
              have hk2b : k2 + 1 ≤ 9223372036854775807 := by omega
              have HA0 := hid a0
              have HA1 := hid a1
              clear hx hy ho hz hu hv hm2 a0 a1 b0 b1
              cases z with
              | true =>
                simp only [Bool.not_true] at qq
                have HI2 : Hid (CompInv d (k + (k2 + 1)) kk dk) := HI.out.skip (keeps_neg (by omega) (by have := HZ.out; simpa [sameI] using this))
                go_wp2_with fail
                refine wp_region_quiet_below (by kernel_rfl) (by kernel_rfl) ?_
                repeat (go_big_quiet_step (fail))
                refine wpQuiet_nil ?_
                intro wn hwn
                replace hwn := below_of_regrown hwn
                have HW2 : Hid (CellI wn g (fun j => dk[j]!) n ∧ Loose wn g ∧ Onl (fun b => b = g) w wn) := ⟨HW.out.1.later hwn, HW.out.2.1.later hwn (Nat.lt_of_lt_of_le HLT.out HW.out.2.2.size), HW.out.2.2.on hwn⟩
                clear hwn
                go_wp2_with fail
                go_roundg (n - (k + (k2 + 1)))
                case measure => omega
                case rel => exact ⟨kk, k2 + 1, dk, rfl, by go_num, by omega, by omega, rfl, HI2, HW2⟩
              | false =>
                simp only [Bool.not_false] at qq
                have HI2 : Hid (CompInv d (k + (k2 + 1)) (kk + 1) (dk.setIfInBounds kk x)) := by
                  have := HI.out.keep (by rw [HDS.out]; exact hlt2) (keeps_pos (by have := HZ.out; simpa [sameI] using this))
                  rw [← HU.out] at this
                  exact this
                go_wp2_with fail
                refine wp_region_quiet_below (by kernel_rfl) (by kernel_rfl) ?_
                repeat (go_big_quiet_step (fail))
                refine wpQuiet_nil ?_
                intro wn hwn
                replace hwn := below_of_regrown hwn
                have a0 := cell_later hwn HA0.out
                have a1 := cell_later hwn HA1.out
                have e0 := cell_later hwn e0
                have e1 := cell_later hwn e1
                have hlo2 : Loose wn g := HW.out.2.1.later hwn (Nat.lt_of_lt_of_le HLT.out HW.out.2.2.size)
                have l0 := hlo2 (kk * 2)
                have l1 := hlo2 (kk * 2 + 1)
                have HW2 : Hid (CellI (setI wn g kk x) g (fun j => (dk.setIfInBounds kk x)[j]!) n ∧ Loose (setI wn g kk x) g ∧ Onl (fun b => b = g) w (setI wn g kk x)) :=
                  ⟨((HW.out.1.later hwn).put x).congr (fun i _ => put_arr (by omega) i), (hlo2.setc _ _).setc _ _, (HW.out.2.2.on hwn).trans (onl_setI wn g kk x)⟩
                clear hwn hlo2
                go_wp2_with fail
                go_roundg (n - (k + (k2 + 1)))
                case measure => omega
                case rel => exact ⟨kk + 1, k2 + 1, dk.setIfInBounds kk x, by go_num, by go_num, by omega, by omega, rfl, HI2, HW2⟩
            · have hend : k + k2 = n := by omega
              have hI := HI.out
              rw [hend] at hI
              have hcl : ∀ ty, (Builtin.clear_ #[39] ty #[.slice (some ⟨g, kk * 2, none⟩) (n - kk) (c - kk)]).run Tryz.prog wr = .ok (.tuple #[]) (wr.setCells g (kk * 2) (List.replicate ((n - kk) * 2) (.int .u32 0))) := fun ty =>
                run_clearI wr ty g kk n (c - kk) (by omega) (fun j hj => by
                  obtain ⟨u0, u1⟩ := HW.out.1 (kk + j / 2) (by omega)
                  have : j % 2 = 0 ∨ j % 2 = 1 := by omega
                  rcases this with e | e
                  · rw [show kk * 2 + j = (kk + j / 2) * 2 by omega, u0]; rfl
                  · rw [show kk * 2 + j = (kk + j / 2) * 2 + 1 by omega, u1]; rfl) HW.out.2.1
              obtain ⟨wE, hwE⟩ : ∃ wE, wE = wr.setCells g (kk * 2) (List.replicate ((n - kk) * 2) (.int .u32 0)) := ⟨_, rfl⟩
              rw [← hwE] at hcl
              have HF : Hid ((compactUpTo d n).length = kk) := hI.len
              have HR : Hid (RowI wE (some ⟨g, 0, none⟩) (compactUpTo d n)) := by
                refine rowI_of (n := kk) (f := fun j => dk[j]!) (fun i hi => ?_) (by rw [hI.len]; exact Nat.le_refl _) (fun j hj => hI.low j (by rw [hI.len] at hj; exact hj))
                obtain ⟨u0, u1⟩ := HW.out.1 i (by omega)
                rw [hwE]
                exact ⟨(World.cell?_setCells_out g _ _ wr _ (fun _ _ => .inl (by show i * 2 < kk * 2; omega))).trans u0, (World.cell?_setCells_out g _ _ wr _ (fun _ _ => .inl (by show i * 2 + 1 < kk * 2; omega))).trans u1⟩
              have HO : Hid (Onl (fun b => (Value.slice (some ⟨g, 0, none⟩) n c).ownBlock = some b) w wE) := by
                have h1 : Onl (fun b => b = g) w wE := by rw [hwE]; exact HW.out.2.2.trans (onl_setCells g _ _ wr)
                exact h1.mono (fun b hb => by rw [hb]; rfl)
              have hck2 : (c = kk) = False := by simp; omega
              have hL2 : ¬ k2 < L2 := by have := HL2.out; omega
              have hL3 : (k2 : Int) < (L2 : Int) → False := by omega
              have hkn1 : kk ≤ n := by omega
              have hkn2 : kk ≤ c := by omega
              clear hwE hI HI HW
              go_wp2_with fail
              go_ret
              exact ⟨kk, rfl, HF, HR, HO⟩
      · obtain rfl : k = n := by omega
        have hD : compactUpTo d k = (List.range k).map (d[·]!) := compactUpTo_all d k HA.out
        have HF : Hid ((compactUpTo d k).length = k) := by rw [hD]; show _ = _; simp
        have HR : Hid (RowI wr (some ⟨g, 0, none⟩) (compactUpTo d k)) := rowI_of (HC.out.later HB.out) (by rw [hD]; simp) (fun j hj => by
          rw [hD] at hj ⊢
          have hj' : j < k := by rw [List.length_map, List.length_range] at hj; exact hj
          rw [List.getElem?_map, List.getElem?_range hj']; rfl)
        clear hD
        go_wp2_with fail
        go_ret
        exact ⟨k, rfl, HF, HR, Onl.of_below HB.out⟩
end Go.Proofs.YtfdbffadajepfaaGreat.Lk
/- Blocks, in plain words. -/
namespace Go.Proofs.YtfdbffadajepfaaGreat.Lk
open Go.RowKit Go.Sort Go.Lib
set_option linter.unusedVariables false

/-- does a transaction block a read of a span at a stamp? -/
def blkB (s : T2) (aw al an : Int) (h : Hd) : Bool := h.ws.any (fun x => insB x.key s) && !lessB aw al an h.w h.l h.n
theorem le_lt {i j k : Ix} (h1 : ltI j i = false) (h2 : ltI j k = true) : ltI i k = true := by
  obtain ⟨a, b⟩ := i
  obtain ⟨c, d⟩ := j
  obtain ⟨e, f⟩ := k
  simp [ltI] at h1 h2 ⊢
  omega
theorem lt_irr (i : Ix) : ltI i i = false := by simp [ltI]
/-- a sorted list, each only once -/
theorem comp_mem {d : Array Ix} : ∀ {j m : Nat}, j < m → d[j]! ∈ compactUpTo d m := by
  intro j
  induction j with
  | zero =>
    intro m hm
    exact List.mem_map.2 ⟨0, List.mem_filter.2 ⟨List.mem_range.2 hm, keeps_lt_one d 0 (by omega)⟩, rfl⟩
  | succ j ih =>
    intro m hm
    by_cases e : d[j + 1]! = d[j]!
    · rw [e]; exact ih (by omega)
    · exact List.mem_map.2 ⟨j + 1, List.mem_filter.2 ⟨List.mem_range.2 hm, keeps_pos (by simpa using e)⟩, rfl⟩
theorem comp_sub {d : Array Ix} {m : Nat} {x : Ix} (h : x ∈ compactUpTo d m) : ∃ j, j < m ∧ d[j]! = x := by
  obtain ⟨j, hj, rfl⟩ := List.mem_map.1 h
  exact ⟨j, List.mem_range.1 (List.mem_filter.1 hj).1, rfl⟩
theorem comp_rise {d : Array Ix} {m : Nat} (hs : ∀ i j, i < j → j < m → ltI d[j]! d[i]! = false) : (compactUpTo d m).Pairwise (fun x y => ltI x y = true) := by
  rw [compactUpTo, List.pairwise_map]
  refine (List.Pairwise.filter _ List.pairwise_lt_range).imp_of_mem ?_
  intro p q hp hq hpq
  obtain ⟨hq1, hq2⟩ := List.mem_filter.1 hq
  have hq1 := List.mem_range.1 hq1
  have hne : d[q]! ≠ d[q - 1]! := by
    simp only [keeps, decide_eq_true_eq] at hq2
    rcases hq2 with h | h
    · omega
    · exact h
  have h1 : ltI d[q - 1]! d[q]! = true := ltI_of (hs (q - 1) q (by omega) hq1) (fun e => hne e.symm)
  by_cases e : p = q - 1
  · rw [e]; exact h1
  · exact le_lt (hs p (q - 1) (by omega) (by omega)) h1
theorem rise_uniq {X Y : List Ix} (hX : X.Pairwise (fun x y => ltI x y = true)) (hY : Y.Pairwise (fun x y => ltI x y = true)) (hm : ∀ i, i ∈ X ↔ i ∈ Y) : X = Y := by
  have asym : ∀ {a b : Ix}, ltI a b = true → ltI b a = true → False := fun {a b} h1 h2 => by
    have := le_lt (i := a) (j := a) (k := b) (lt_irr a) h1
    obtain ⟨x, y⟩ := a
    obtain ⟨z, t⟩ := b
    simp [ltI] at h1 h2
    omega
  have nd : ∀ {l : List Ix}, l.Pairwise (fun x y => ltI x y = true) → l.Nodup := fun h => h.imp fun {a b} h1 e => by
    subst e; rw [lt_irr] at h1; cases h1
  exact List.Perm.eq_of_pairwise (le := fun x y => ltI x y = true) (fun a b _ _ h1 h2 => (asym h1 h2).elim) hX hY ((List.perm_ext_iff_of_nodup (nd hX) (nd hY)).2 hm)
/-- the intents are no more than the writes -/
def sumW (M : List Hd) : Nat := (M.map fun h => h.ws.length).sum
theorem ints_le {M : List Hd} {I : It} (ok : Ok M I) : I.length ≤ sumW M := by
  have h1 : I.map (·.1) ⊆ M.flatMap (fun h => h.ws.map Wr.key) := fun k hk => by
    obtain ⟨⟨k', i⟩, hp, rfl⟩ := List.mem_map.1 hk
    obtain ⟨h, hh, _, x, hx, e⟩ := (ok.tie _ _).1 hp
    exact List.mem_flatMap.2 ⟨h, hh, List.mem_map.2 ⟨x, hx, e⟩⟩
  have h2 := List.Nodup.length_le_of_subset ok.keys h1
  rw [List.length_map, List.length_flatMap] at h2
  simpa [sumW, Function.comp_def] using h2
theorem holdM_sum (M : List Hd) (h : Hd) : sumW (holdM M h) ≤ sumW M + h.ws.length := by
  unfold holdM
  split
  · omega
  · split
    · omega
    · simp [sumW]
end Go.Proofs.YtfdbffadajepfaaGreat.Lk
