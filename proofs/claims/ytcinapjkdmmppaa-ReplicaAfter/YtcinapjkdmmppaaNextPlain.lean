import Derived.Test.YtcinapjkdmmppaaPlain
/- Plain mathematics of Next: no Go. -/
namespace Go.Proofs.Ytcinapjkdmmppaa

/-- wall, logical, node, error of the stamp behind (a, b) at node n -/
structure Nxt where
  W : Int
  L : Int
  N : Int
  E : Int
def nxt (a b n : Int) : Nxt :=
  if a = 18446744073709551615 then ⟨0, 0, 0, 11⟩ else if b < 4294967295 then ⟨a, b + 1, n, 0⟩ else if a + 1 = 18446744073709551615 then ⟨0, 0, 0, 11⟩ else ⟨a + 1, 0, n, 0⟩

/-- the bounds of a stamp's numbers -/
def StB (a b c : Int) : Prop := (0 ≤ a ∧ a ≤ 18446744073709551615) ∧ (0 ≤ b ∧ b ≤ 4294967295) ∧ (0 ≤ c ∧ c ≤ 4294967295)

theorem nxt_top {a b n : Int} (h : a = 18446744073709551615) : nxt a b n = ⟨0, 0, 0, 11⟩ := by unfold nxt; rw [if_pos h]
theorem nxt_in {a b n : Int} (h : ¬ a = 18446744073709551615) (k : b < 4294967295) : nxt a b n = ⟨a, b + 1, n, 0⟩ := by unfold nxt; rw [if_neg h, if_pos k]
theorem nxt_end {a b n : Int} (h : ¬ a = 18446744073709551615) (k : ¬ b < 4294967295) (l : a + 1 = 18446744073709551615) : nxt a b n = ⟨0, 0, 0, 11⟩ := by unfold nxt; rw [if_neg h, if_neg k, if_pos l]
theorem nxt_up {a b n : Int} (h : ¬ a = 18446744073709551615) (k : ¬ b < 4294967295) (l : ¬ a + 1 = 18446744073709551615) : nxt a b n = ⟨a + 1, 0, n, 0⟩ := by unfold nxt; rw [if_neg h, if_neg k, if_neg l]

theorem nxt_cases {a b c : Int} (n : Int) (hs : StB a b c) (hn : 0 ≤ n ∧ n ≤ 4294967295) :
    (nxt a b n = ⟨0, 0, 0, 11⟩ ∧ (a = 18446744073709551615 ∨ (a = 18446744073709551614 ∧ b = 4294967295))) ∨
    ((nxt a b n).E = 0 ∧ StB (nxt a b n).W (nxt a b n).L (nxt a b n).N ∧ (nxt a b n).N = n ∧ (nxt a b n).W ≤ 18446744073709551614 ∧ lessB a b c (nxt a b n).W (nxt a b n).L (nxt a b n).N = true) := by
  obtain ⟨⟨h1, h2⟩, ⟨h3, h4⟩, h5, h6⟩ := hs
  by_cases ha : a = 18446744073709551615
  · exact .inl ⟨nxt_top ha, .inl ha⟩
  · by_cases hb : b < 4294967295
    · rw [nxt_in ha hb]
      refine .inr ⟨rfl, ⟨⟨?_, ?_⟩, ⟨?_, ?_⟩, ?_, ?_⟩, rfl, ?_, lessB_iff.2 ?_⟩ <;> dsimp only <;> omega
    · by_cases hl : a + 1 = 18446744073709551615
      · exact .inl ⟨nxt_end ha hb hl, .inr ⟨by omega, by omega⟩⟩
      · rw [nxt_up ha hb hl]
        refine .inr ⟨rfl, ⟨⟨?_, ?_⟩, ⟨?_, ?_⟩, ?_, ?_⟩, rfl, ?_, lessB_iff.2 ?_⟩ <;> dsimp only <;> omega

end Go.Proofs.Ytcinapjkdmmppaa
