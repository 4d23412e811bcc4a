import Derived.Test.YtchfoipkaookmabDoorSPackBoth
import Derived.Test.YtchfoipkaookmabDoorSPack
import Derived.Test.YtchfoipkaookmabDoorWBytes
namespace Go.Proofs.YtchfoipkaookmabDoor
open Go.RowKit Go.Sort

/-- a stamp's numbers -/
structure Sm where
  w : Int
  l : Int
  n : Int
def Sm.ok (x : Sm) : Prop := StB x.w x.l x.n
/-- a stamp's 16 bytes -/
def pkN (x : Sm) : List Nat := (pk x.w x.l x.n).map Int.toNat
/-- the stamp of 16 bytes -/
def unS (t : List Nat) : Sm := ⟨piece (ofNats t) 0 8, piece (ofNats t) 8 12, piece (ofNats t) 12 16⟩
def zSm : Sm := ⟨0, 0, 0⟩
theorem pkN_length (x : Sm) : (pkN x).length = 16 := by simp [pkN, pk_length]
theorem pkN_b8 (x : Sm) : B8 (pkN x) := by
  intro b hb
  simp only [pkN, List.mem_map] at hb
  obtain ⟨y, hy, rfl⟩ := hb
  have := pk_byte x.w x.l x.n y hy
  omega
theorem str_pkN (x : Sm) : strOfNums (pk x.w x.l x.n) = ofNats (pkN x) := by
  rw [← strOfNums_nats, pkN, List.map_map]
  congr 1
  conv => lhs; rw [← List.map_id (pk x.w x.l x.n)]
  refine List.map_congr_left fun y hy => ?_
  have := pk_byte x.w x.l x.n y hy
  show y = ((y.toNat : Nat) : Int)
  omega
theorem unS_pkN {x : Sm} (h : x.ok) : unS (pkN x) = x := by
  have := piece_pk h
  rw [str_pkN] at this
  unfold unS
  rw [this.1, this.2.1, this.2.2]
theorem pkN_unS {t : List Nat} (h : t.length = 16) (hb : B8 t) : pkN (unS t) = t := by
  have := pk_pieces (ofNats t) (by rw [ofNats_size, h])
  have e : ofNats (pkN (unS t)) = ofNats t := by rw [← str_pkN]; exact this
  exact ofNats_inj (pkN_b8 _) hb e
theorem unS_ok {t : List Nat} (h : t.length = 16) : (unS t).ok := by
  have hs : (ofNats t).size = 16 := by rw [ofNats_size, h]
  have h1 := piece_bound (ofNats t) (i := 0) (j := 8) (n := 8) (by simp [hs])
  have h2 := piece_bound (ofNats t) (i := 8) (j := 12) (n := 4) (by simp [hs])
  have h3 := piece_bound (ofNats t) (i := 12) (j := 16) (n := 4) (by simp [hs])
  refine ⟨⟨h1.1, ?_⟩, ⟨h2.1, ?_⟩, h3.1, ?_⟩
  · have := h1.2; show piece (ofNats t) 0 8 ≤ _; omega
  · have := h2.2; show piece (ofNats t) 8 12 ≤ _; omega
  · have := h3.2; show piece (ofNats t) 12 16 ≤ _; omega

end Go.Proofs.YtchfoipkaookmabDoor
