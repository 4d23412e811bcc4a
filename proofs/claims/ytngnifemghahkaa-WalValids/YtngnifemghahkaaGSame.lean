import Derived.Test.YtngnifemghahkaaGSameA
import Derived.Test.YtngnifemghahkaaGSameB
import Derived.Test.YtngnifemghahkaaGSameC
namespace Go.Proofs.Ytngnifemghahkaa
open Go.RowKit Go.Sort
set_option linter.unusedVariables false

theorem refsame_is {m n : Rg} {w : World} {u : Bool} (hu : sameR m n = u) (h : m.ok w) (hn : n.ok w) (hr : m.rs.length = n.rs.length → m.rs = n.rs) (hw : m.ws.length = n.ws.length → m.ws = n.ws) :
    Calls Try.prog 15 #[m.val, n.val] w fun e w' => e = .returned (.bool u) ∧ Below w.heap.size w w' := by
  have e3 : ∀ {b}, sameT m.c m.s n.c n.s = b → ∀ w, (binOp .neq 26 (txv m.c m.s) (txv n.c n.s)).run Try.prog w = .ok (.bool !b) w := fun h w => by rw [run_neT, h]
  have e6 : ∀ {b}, sameB m.w m.l m.n n.w n.l n.n = b → ∀ w, (binOp .neq 29 (stv m.w m.l m.n) (stv n.w n.l n.n)).run Try.prog w = .ok (.bool !b) w := fun h w => by rw [run_ne, h]
  have ln : ∀ {a b : Nat} {u : Bool}, decide (a = b) = u → ((a : Int) != (b : Int)) = !u := fun {a b u} h => by
    rw [← h, bne, Bool.not_inj_iff, Bool.eq_iff_iff]; simp; omega
  have nn : ∀ {a b : Int} {u : Bool}, (a == b) = u → (a != b) = !u := fun h => by rw [bne, h]
  have tt : ∀ {a b : ByteArray} {u : Bool}, decide (a = b) = u → (a.toList == b.toList) = !!u := fun {a b u} h => by
    rw [← h, Bool.not_not, Bool.eq_iff_iff, ByteArray.toList_eq, ByteArray.toList_eq]
    simp only [beq_iff_eq, decide_eq_true_eq]
    exact ⟨fun e => ByteArray.ext (Array.toList_inj.1 e), fun e => by rw [e]⟩
  subst hu
  cases g1 : (m.k == n.k)
  · rw [sameR, g1]; exact rsame_no1 w (nn g1)
  cases g2 : (m.x == n.x)
  · rw [sameR, g1, g2]; exact rsame_no2 w (nn g1) (nn g2)
  cases g3 : sameT m.c m.s n.c n.s
  · rw [sameR, g1, g2, g3]; exact rsame_no3 w (nn g1) (nn g2) (e3 g3)
  cases g4 : (m.h == n.h)
  · rw [sameR, g1, g2, g3, g4]; exact rsame_no4 w (nn g1) (nn g2) (e3 g3) (nn g4)
  cases g5 : (m.oc == n.oc)
  · rw [sameR, g1, g2, g3, g4, g5]; exact rsame_no5 w (nn g1) (nn g2) (e3 g3) (nn g4) (nn g5)
  cases g6 : sameB m.w m.l m.n n.w n.l n.n
  · rw [sameR, g1, g2, g3, g4, g5, g6]; exact rsame_no6 w (nn g1) (nn g2) (e3 g3) (nn g4) (nn g5) (e6 g6)
  cases g7 : decide (m.im = n.im)
  · rw [sameR, g1, g2, g3, g4, g5, g6, g7]; exact rsame_no7 w (nn g1) (nn g2) (e3 g3) (nn g4) (nn g5) (e6 g6) (tt g7)
  cases g8 : decide (m.rs.length = n.rs.length)
  · rw [sameR, g1, g2, g3, g4, g5, g6, g7, g8]; exact rsame_no8 w (nn g1) (nn g2) (e3 g3) (nn g4) (nn g5) (e6 g6) (tt g7) (ln g8)
  cases g9 : decide (m.ws.length = n.ws.length)
  · rw [sameR, g1, g2, g3, g4, g5, g6, g7, g8, g9]; exact rsame_no9 w (nn g1) (nn g2) (e3 g3) (nn g4) (nn g5) (e6 g6) (tt g7) (ln g8) (ln g9)
  rw [sameR, g1, g2, g3, g4, g5, g6, g7, g8, g9]
  exact rsame_yes (nn g1) (nn g2) (e3 g3) (nn g4) (nn g5) (e6 g6) (tt g7) (ln g8) (ln g9) h hn ⟨hr (of_decide_eq_true g8), hw (of_decide_eq_true g9)⟩

end Go.Proofs.Ytngnifemghahkaa
