import Derived.Test.YtcphmahbhecfaaaZMarked
import Derived.Test.YtcphmahbhecfaaaZStill
/- The book of lists beside the ledger. -/
namespace Go.Proofs.Ytcphmahbhecfaaa.Lg
open Go.RowKit Go.Sort Go.Shelf Go.Lib Lk
set_option linter.unusedVariables false

theorem own_block {w : World} {B t size n : Nat} {v : Value} {xs : List Value} (h : w.ownsRow B t size v n xs) (g : Nat) (hg : v.ownBlock = some g) : ∃ cur, w.heap[g]? = some (.cells cur t (0, 0)) := own_type h hg
/-- the ledger stays while a row grows -/
theorem led_grown {w w' : World} {p : Nat} {m : Option Nat} {M : List En} {row : Option Nat} {t : TypeId} (T : Lg w p m M) (hg : w.grownBy w' row) (hr : ∀ g, row = some g → ∃ cur, w.heap[g]? = some (.cells cur t (0, 0))) (ht : t ≠ 50) : Lg w' p m M := by
  have ho : Onl (fun k => row = some k) w w' := ⟨hg.os, hg.tape, hg.output, hg.size, fun k hk hn => hg.block k hk (fun e => hn e.symm)⟩
  refine LgO.onl T ho fun b hb e => ?_
  obtain ⟨cur, hc⟩ := hr b e
  rcases hb with rfl | hb
  · obtain ⟨cs, hcs⟩ := T.blk
    rw [hc] at hcs
    injection hcs with hcs
    injection hcs with _ e2 _
    exact ht e2
  · subst hb
    exact mapat_ne T.ents hc rfl
/-- a row stays while the ledger is written -/
theorem row_dec {w w' : World} {p : Nat} {m : Option Nat} {M : List En} (T : Lg w p m M) (ho : Onl (ItsL p m) w w') {B size n : Nat} {t : TypeId} {v : Value} {xs : List Value} (h : w.ownsRow B t size v n xs) (ht : t ≠ 50) : w'.ownsRow B t size v n xs :=
  owns_keep h fun g hg => ho.block g (World.ownsRow.lt h g hg).2 fun hi => by
    obtain ⟨cur, hc⟩ := own_type h hg
    rcases hi with rfl | hb
    · obtain ⟨cs, hcs⟩ := T.blk
      rw [hc] at hcs
      injection hcs with hcs
      injection hcs with _ e2 _
      exact ht e2
    · subst hb
      exact mapat_ne T.ents hc rfl
/-- the book: rows of lists, each alike to what must stand in it -/
structure Bk (B : Nat) (w : World) (v : Value) (l : List En2) : Prop where
  own : OwnW2 w B v l
  ent : ∀ e ∈ l, Ent w e
theorem Bk.later {B : Nat} {w w' : World} {v : Value} {l : List En2} (h : Bk B w v l) (hb : Below w.heap.size w w') : Bk B w' v l := ⟨h.own.later hb, fun e he => (h.ent e he).later hb⟩
theorem Bk.dec {B : Nat} {w w' : World} {v : Value} {l : List En2} {p : Nat} {m : Option Nat} {M : List En} (h : Bk B w v l) (T : Lg w p m M) (ho : Onl (ItsL p m) w w') : Bk B w' v l :=
  ⟨row_dec T ho h.own (by decide), fun e he => by
    obtain ⟨U, hU, h1, h2⟩ := h.ent e he
    exact ⟨U, hU, row_dec T ho h1 (by decide), row_dec T ho h2 (by decide)⟩⟩
/-- entries stay while the book grows -/
theorem by_book {B B' : Nat} {w w' : World} {v u : Value} {l : List En2} {T : List En} (h : OwnW2 w B v l) (hg : w.grownBy w' v.ownBlock) (ht : OwnE w B' u T) : OwnE w' B' u T := World.ownsRow.kept ht hg (rows_apart ht h (by decide))
theorem Bk.grow {B : Nat} {w w' : World} {v v' : Value} {l : List En2} {e : En2} (h : Bk B w v l) (hg : w.grownBy w' v.ownBlock) (ho : OwnW2 w' B v' (l ++ [e])) (he : Ent w e) : Bk B w' v' (l ++ [e]) := by
  refine ⟨ho, fun x hx => ?_⟩
  have hx' : Ent w x := by
    rcases List.mem_append.1 hx with hx | hx
    · exact h.ent x hx
    · rw [List.mem_singleton.1 hx]; exact he
  obtain ⟨T, hT, h1, h2⟩ := hx'
  exact ⟨T, hT, by_book h.own hg h1, by_book h.own hg h2⟩
theorem Bk.off {B B' : Nat} {w w' : World} {v b : Value} {l : List En2} {T : List En} (h : Bk B w v l) (hb : OwnE w B' b T) (hg : w.grownBy w' b.ownBlock) (ho : ∀ e ∈ l, Off b.ownBlock e) : Bk B w' v l :=
  ⟨World.ownsRow.kept h.own hg (rows_apart h.own hb (by decide)), fun e he => (h.ent e he).kept hg (ho e he)⟩
theorem apart_blocks {v b : Value} (h : ∀ j k, v.ownBlock = some j → b.ownBlock = some k → j ≠ k) : v.ownBlock = none ∨ v.ownBlock ≠ b.ownBlock := by
  cases hj : v.ownBlock with
  | none => exact .inl rfl
  | some j => exact .inr fun e => h j j hj e.symm rfl
/-- the ledger and the book -/
structure StL (W w : World) (p : Nat) (m : Option Nat) (M : List En) (v : Value) (l : List En2) : Prop where
  led : Lg w p m M
  hp : W.heap.size ≤ p
  hm : ∀ b, m = some b → W.heap.size ≤ b
  book : Bk W.heap.size w v l
  below : Below W.heap.size W w
theorem StL.later {W w w' : World} {p : Nat} {m : Option Nat} {M : List En} {v : Value} {l : List En2} (h : StL W w p m M v l) (hb : Below w.heap.size w w') : StL W w' p m M v l :=
  ⟨h.led.later hb, h.hp, h.hm, h.book.later hb, Below.on h.below hb⟩
theorem StL.dec {W w w' : World} {p : Nat} {m m' : Option Nat} {M M' : List En} {v : Value} {l : List En2} (h : StL W w p m M v l) (ho : Onl (ItsL p m) w w') (hL : Lg w' p m' M') (hm' : m' = m ∨ ∃ b, m' = some b ∧ w.heap.size ≤ b) : StL W w' p m' M' v l := by
  refine ⟨hL, h.hp, fun b e => ?_, h.book.dec h.led ho, h.below.trans (ho.below (fun k hk => ?_) h.below.size)⟩
  · rcases hm' with e' | ⟨b2, e', hle⟩
    · exact h.hm b (by rw [← e', e])
    · rw [e] at e'
      injection e' with e'
      have := h.below.size
      omega
  · rcases hk with rfl | e
    · exact h.hp
    · exact h.hm k e
theorem StL.add {W w w' : World} {p : Nat} {m : Option Nat} {M : List En} {v v' : Value} {l : List En2} {e : En2} (h : StL W w p m M v l) (hg : w.grownBy w' v.ownBlock) (ho : OwnW2 w' W.heap.size v' (l ++ [e])) (he : Ent w e) : StL W w' p m M v' (l ++ [e]) :=
  ⟨led_grown h.led hg (own_block h.book.own) (by decide), h.hp, h.hm, h.book.grow hg ho he, grown_below hg h.below (Nat.le_refl _) fun j hj => (World.ownsRow.lt h.book.own j hj).1⟩
theorem StL.off {W w w' : World} {p : Nat} {m : Option Nat} {M : List En} {v b : Value} {l : List En2} {T : List En} (h : StL W w p m M v l) (hb : OwnE w W.heap.size b T) (hg : w.grownBy w' b.ownBlock) (ho : ∀ e ∈ l, Off b.ownBlock e) : StL W w' p m M v l :=
  ⟨led_grown h.led hg (own_block hb) (by decide), h.hp, h.hm, h.book.off hb hg ho, grown_below hg h.below (Nat.le_refl _) fun j hj => (World.ownsRow.lt hb j hj).1⟩
/-- two lists that may be written into lie apart from the book's -/
structure Af (W w : World) (p : Nat) (m : Option Nat) (M : List En) (v : Value) (l : List En2) (b d : Value) (U C : List En) : Prop where
  st : StL W w p m M v l
  ob : OwnE w W.heap.size b U
  od : OwnE w W.heap.size d C
  offb : ∀ e ∈ l, Off b.ownBlock e
  offd : ∀ e ∈ l, Off d.ownBlock e
  ap : d.ownBlock = none ∨ d.ownBlock ≠ b.ownBlock
theorem Af.later {W w w' : World} {p : Nat} {m : Option Nat} {M : List En} {v : Value} {l : List En2} {b d : Value} {U C : List En} (h : Af W w p m M v l b d U C) (hb : Below w.heap.size w w') : Af W w' p m M v l b d U C :=
  ⟨h.st.later hb, h.ob.later hb, h.od.later hb, h.offb, h.offd, h.ap⟩
theorem Af.add {W w w' : World} {p : Nat} {m : Option Nat} {M : List En} {v v' : Value} {l : List En2} {b d : Value} {U C : List En} {e : En2} (h : Af W w p m M v l b d U C) (hg : w.grownBy w' v.ownBlock) (ho : OwnW2 w' W.heap.size v' (l ++ [e])) (he : Ent w e) (h1 : Off b.ownBlock e) (h2 : Off d.ownBlock e) : Af W w' p m M v' (l ++ [e]) b d U C := by
  refine ⟨h.st.add hg ho he, by_book h.st.book.own hg h.ob, by_book h.st.book.own hg h.od, fun x hx => ?_, fun x hx => ?_, h.ap⟩
  · rcases List.mem_append.1 hx with hx | hx
    · exact h.offb x hx
    · rw [List.mem_singleton.1 hx]; exact h1
  · rcases List.mem_append.1 hx with hx | hx
    · exact h.offd x hx
    · rw [List.mem_singleton.1 hx]; exact h2
/-- where two rows were made one behind the other, they lie apart -/
theorem apart_time {w1 w2 : World} {B1 B2 : Nat} {x b : Value} {X Y : List En} (hx : OwnE w1 B1 x X) (hb : OwnE w2 B2 b Y) (h : w1.heap.size ≤ B2 ∨ w2.heap.size ≤ B1) : x.ownBlock = none ∨ x.ownBlock ≠ b.ownBlock :=
  apart_blocks fun j k hj hk => by
    have h1 := World.ownsRow.lt hx j hj
    have h2 := World.ownsRow.lt hb k hk
    omega
theorem Af.start {W w w1 w2 w3 w4 : World} {p : Nat} {m : Option Nat} {M : List En} {v : Value} {l : List En2} {b d : Value} {U C : List En} (S : StL W w p m M v l) (h01 : Below w.heap.size w w1) (h12 : Below w1.heap.size w1 w2) (ob : OwnE w2 w1.heap.size b U) (h23 : Below w2.heap.size w2 w3) (h34 : Below w3.heap.size w3 w4) (od : OwnE w4 w3.heap.size d C) : Af W w4 p m M v l b d U C := by
  have h24 := Below.on h23 h34
  have s0 := S.below.size
  have s1 := h01.size
  have s2 := h12.size
  have s3 := h23.size
  refine ⟨S.later (Below.on (Below.on h01 h12) h24), (ob.base (by omega)).later h24, od.base (by omega), fun e he => ?_, fun e he => ?_, apart_time od ob (.inr (by omega))⟩
  · obtain ⟨X, _, u1, u2⟩ := S.book.ent e he
    exact ⟨apart_time u1 ob (.inl (by omega)), apart_time u2 ob (.inl (by omega))⟩
  · obtain ⟨X, _, u1, u2⟩ := S.book.ent e he
    exact ⟨apart_time u1 od (.inl (by omega)), apart_time u2 od (.inl (by omega))⟩
/-- the marked lists join the book one by one -/
structure Lp (W w : World) (p : Nat) (m : Option Nat) (M : List En) (v : Value) (l es fs : List En2) (g9 g10 : Nat) : Prop where
  st : StL W w p m M v l
  r1 : OwnW2 w 0 (.slice (some ⟨g9, 0, none⟩) 3 3) es
  r2 : OwnW2 w 0 (.slice (some ⟨g10, 0, none⟩) 3 3) fs
  n1 : v.ownBlock ≠ some g9
  n2 : v.ownBlock ≠ some g10
  en : ∀ e ∈ es ++ fs, Ent w e
theorem OwnW2.zero {w : World} {B : Nat} {v : Value} {l : List En2} (h : OwnW2 w B v l) : OwnW2 w 0 v l := owns_base h (Nat.zero_le _)
theorem off_nr {w : World} {b d x : Value} {C : List En} {B : Nat} (od : OwnE w B d C) (ap : d.ownBlock = none ∨ d.ownBlock ≠ b.ownBlock) (h : Nrv w b x) : x.ownBlock = none ∨ x.ownBlock ≠ d.ownBlock := by
  refine apart_blocks fun j k hj hk e => ?_
  subst e
  have hk2 := (World.ownsRow.lt od j hk).2
  rcases h with h | h | ⟨i, h, hi⟩
  · rw [hj] at h; cases h
  · rcases ap with ap | ap
    · rw [hk] at ap; cases ap
    · exact ap (by rw [hk, ← h, hj])
  · rw [hj] at h
    injection h with h
    omega
theorem lp_of {W w w1 w2 : World} {p : Nat} {m : Option Nat} {M : List En} {v : Value} {l : List En2} {b d : Value} {U C : List En} {e1 e2 e3 f1 f2 f3 : En2} {g9 g10 : Nat} (h : Af W w p m M v l b d U C)
    (o1 : OwnW2 w1 w.heap.size (.slice (some ⟨g9, 0, none⟩) 3 3) [e1, e2, e3]) (k1 : ∀ e ∈ [e1, e2, e3], Ent w1 e ∧ Nr w b e) (hg1 : w.grownBy w1 b.ownBlock)
    (o2 : OwnW2 w2 w1.heap.size (.slice (some ⟨g10, 0, none⟩) 3 3) [f1, f2, f3]) (k2 : ∀ e ∈ [f1, f2, f3], Ent w2 e ∧ Nr w1 d e) (hg2 : w1.grownBy w2 d.ownBlock) : Lp W w2 p m M v l [e1, e2, e3] [f1, f2, f3] g9 g10 := by
  have S1 := h.st.off h.ob hg1 h.offb
  have od1 : OwnE w1 W.heap.size d C := World.ownsRow.kept h.od hg1 h.ap
  have S2 := S1.off od1 hg2 h.offd
  have hv : ∀ g, v.ownBlock = some g → g < w.heap.size := fun g e => (World.ownsRow.lt h.st.book.own g e).2
  have hs1 := hg1.size
  refine ⟨S2, World.ownsRow.kept o1.zero hg2 (rows_apart o1 od1 (by decide)), o2.zero, fun e => ?_, fun e => ?_, fun e he => ?_⟩
  · have h1 := hv _ e
    have h2 := (World.ownsRow.lt o1 g9 rfl).1
    omega
  · have h1 := hv _ e
    have h2 := (World.ownsRow.lt o2 g10 rfl).1
    omega
  · rcases List.mem_append.1 he with he | he
    · obtain ⟨h1, h2, h3⟩ := k1 e he
      exact h1.kept hg2 ⟨off_nr h.od h.ap h2, off_nr h.od h.ap h3⟩
    · exact (k2 e he).1
theorem Lp.step {W w w' : World} {p : Nat} {m : Option Nat} {M : List En} {v v' : Value} {l es fs : List En2} {g9 g10 : Nat} {e : En2} {o : Obj} (h : Lp W w p m M v l es fs g9 g10) (hg : (w.alloc o).grownBy w' v.ownBlock) (ho : OwnW2 w' W.heap.size v' (l ++ [e])) (he : e ∈ es ++ fs) (hn : v'.ownBlock = v.ownBlock ∨ ∃ k, v'.ownBlock = some k ∧ (w.alloc o).heap.size ≤ k) : Lp W w' p m M v' (l ++ [e]) es fs g9 g10 := by
  have hA : Below w.heap.size w (w.alloc o) := Below.al (Below.refl _ _) _
  have SA := h.st.later hA
  have r1 := h.r1.later hA
  have r2 := h.r2.later hA
  refine ⟨SA.add hg ho ((h.en e he).later hA), World.ownsRow.kept r1 hg (.inr fun e => h.n1 e.symm), World.ownsRow.kept r2 hg (.inr fun e => h.n2 e.symm), fun e => ?_, fun e => ?_, fun x hx => ?_⟩
  · rcases hn with hn | ⟨j, hn, hj⟩
    · exact h.n1 (hn.symm.trans e)
    · rw [hn] at e
      injection e with e
      have h1 := (World.ownsRow.lt r1 g9 rfl).2
      omega
  · rcases hn with hn | ⟨j, hn, hj⟩
    · exact h.n2 (hn.symm.trans e)
    · rw [hn] at e
      injection e with e
      have h1 := (World.ownsRow.lt r2 g10 rfl).2
      omega
  · obtain ⟨U, hU, u1, u2⟩ := (h.en x hx).later hA
    exact ⟨U, hU, by_book SA.book.own hg u1, by_book SA.book.own hg u2⟩
/-- what Entries and Commits answer, told once -/
theorem ents_is {w : World} {p : Nat} {m : Option Nat} {M : List En} (T : Lg w p m M) (hlen : M.length ≤ 3518437208882) :
    Calls Try.prog 10 #[.pointer (some ⟨p, 0, none⟩)] w fun e w' => ∃ (a : Option Addr) (n c : Nat) (U : List En), e = .returned (.slice a n c) ∧ Hid (U.length = n) ∧ Hid (OwnE w' w.heap.size (.slice a n c) U) ∧ Hid (U.Perm M) ∧ Hid (U.Pairwise (fun x y => ltI y.id x.id = false)) ∧ Hid (Below w.heap.size w w') :=
  (entries_is T hlen).mono fun e w' ⟨a, n, c, U, he, h1, h2, h3, h4, h5⟩ => by
    have h1' := h1.out
    subst h1'
    exact ⟨a, _, c, U, he, rfl, h2.out, h3, h4, h5⟩
theorem ents_at {w : World} {p n : Nat} {m : Option Nat} {M U : List En} (T : Lg w p m M) (hlen : M.length ≤ 3518437208882) (hn : U.length = n) (hp : U.Perm M) (hs : U.Pairwise (fun x y => ltI y.id x.id = false)) :
    Calls Try.prog 10 #[.pointer (some ⟨p, 0, none⟩)] w fun e w' => ∃ (a : Option Addr) (c : Nat), e = .returned (.slice a n c) ∧ Hid (OwnE w' w.heap.size (.slice a n c) U) ∧ Hid (Below w.heap.size w w') :=
  (ents_is T hlen).mono fun e w' ⟨a, n', c, U', he, h1, h2, h3, h4, h5⟩ => by
    have e1 : U' = U := ents_same h3.out hp T.nodup h4.out hs
    subst e1
    have e2 : n' = n := h1.out.symm.trans hn
    subst e2
    exact ⟨a, c, he, h2, h5⟩
theorem coms_is {w : World} {p : Nat} {m : Option Nat} {M : List En} (T : Lg w p m M) (hlen : M.length ≤ 3518437208882) (home : Int) :
    Calls Try.prog 14 #[.pointer (some ⟨p, 0, none⟩), .int .u32 home] w fun e w' => ∃ (a : Option Addr) (n c : Nat) (U : List En), e = .returned (.slice a n c) ∧ Hid (U.length = n) ∧ Hid (OwnE w' w.heap.size (.slice a n c) U) ∧ Hid (U.Perm (M.filter (comB home))) ∧ Hid (U.Pairwise (fun x y => ltE y x = false)) ∧ Hid (Below w.heap.size w w') :=
  (commits_is T hlen home).mono fun e w' ⟨a, n, c, U, he, h1, h2, h3, h4, h5⟩ => by
    have h1' := h1.out
    subst h1'
    exact ⟨a, _, c, U, he, rfl, h2.out, h3, h4, h5⟩
theorem coms_at {w : World} {p n : Nat} {m : Option Nat} {M U : List En} (T : Lg w p m M) (hlen : M.length ≤ 3518437208882) (home : Int) (hn : U.length = n) (hp : U.Perm (M.filter (comB home))) (hs : U.Pairwise (fun x y => ltE y x = false)) :
    Calls Try.prog 14 #[.pointer (some ⟨p, 0, none⟩), .int .u32 home] w fun e w' => ∃ (a : Option Addr) (c : Nat), e = .returned (.slice a n c) ∧ Hid (OwnE w' w.heap.size (.slice a n c) U) ∧ Hid (Below w.heap.size w w') :=
  (coms_is T hlen home).mono fun e w' ⟨a, n', c, U', he, h1, h2, h3, h4, h5⟩ => by
    have hnd : ((M.filter (comB home)).map En.id).Nodup := T.nodup.sublist (List.Sublist.map _ List.filter_sublist)
    have e1 : U' = U := coms_same h3.out hp hnd h4.out hs
    subst e1
    have e2 : n' = n := h1.out.symm.trans hn
    subst e2
    exact ⟨a, c, he, h2, h5⟩
end Go.Proofs.Ytcphmahbhecfaaa.Lg
