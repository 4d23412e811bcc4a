import Derived.Test.YtiheilkjlapoiaaFeRow0
import Derived.Deep.RegionHeld3
import Derived.Shelf.RegionOpen
/- Events, and what they write. -/
namespace Go.Proofs.Ytiheilkjlapoiaa.Lg
open Go.RowKit Go.Sort Go.Shelf Go.Lib Lk
set_option linter.unusedVariables false

/-- an event -/
structure Ev where
  asked : Int
  answered : Int
  client : Int
  id : Ix
  kind : Int
  ro : Bool
  asof : Bool
  back : Bool
  tok : ByteArray
  key : ByteArray
  hi : ByteArray
  val : ByteArray
  lim : Int
  st : Int
  aw : Int
  al : Int
  an : Int
  pa : Option Addr
  pn : Nat
  pc : Nat
  tk : ByteArray
abbrev Ev.acs (e : Ev) : List Value := [.int .u32 e.client, .int .u32 e.id.1, .int .u32 e.id.2, .int .i64 e.kind, .bool e.ro, .bool e.asof, .bool e.back, .string e.tok, .string e.key, .string e.hi, .string e.val, .int .i64 e.lim, .int .i64 e.st, .int .u64 e.aw, .int .u32 e.al, .int .u32 e.an, .slice e.pa e.pn e.pc, .string e.tk]
abbrev Ev.cs (e : Ev) : List Value := [.int .i64 e.asked, .int .i64 e.answered, .int .u32 e.client, .int .u32 e.id.1, .int .u32 e.id.2, .int .i64 e.kind, .bool e.ro, .bool e.asof, .bool e.back, .string e.tok, .string e.key, .string e.hi, .string e.val, .int .i64 e.lim, .int .i64 e.st, .int .u64 e.aw, .int .u32 e.al, .int .u32 e.an, .slice e.pa e.pn e.pc, .string e.tk]
abbrev noT : ByteArray := ⟨#[]⟩
abbrev Ev.zero : Ev := ⟨0, 0, 0, (0, 0), 0, false, false, false, noT, noT, noT, noT, 0, 0, 0, 0, 0, none, 0, 0, noT⟩
theorem Ev.cs_len (e : Ev) : e.cs.length = 20 := rfl
theorem Ev.cs_one (e : Ev) : ∀ x ∈ e.cs, x.oneCell' = true := by
  intro x hx
  simp only [List.mem_cons, List.not_mem_nil, or_false] at hx
  rcases hx with rfl | rfl | rfl | rfl | rfl | rfl | rfl | rfl | rfl | rfl | rfl | rfl | rfl | rfl | rfl | rfl | rfl | rfl | rfl | rfl <;> rfl
abbrev wv (x : Wr) : Value := .agg #[.string x.key, .bool x.del, .string x.val]
abbrev wcs (x : Wr) : List Value := [.string x.key, .bool x.del, .string x.val]
abbrev Wr.zero : Wr := ⟨noT, false, noT⟩
theorem wcs_len (e : Wr) : (wcs e).length = 3 := rfl
theorem wcs_one (e : Wr) : ∀ x ∈ wcs e, x.oneCell' = true := by
  intro x hx
  simp only [List.mem_cons, List.not_mem_nil, or_false] at hx
  rcases hx with rfl | rfl | rfl <;> rfl
def nthV (xs : List Ev) (i : Nat) : Ev := (xs[i]?).getD Ev.zero
/-- a row of events that is read -/
def RowEv (w : World) (a : Option Addr) (xs : List Ev) : Prop :=
  ∀ i, i < xs.length → ∃ b off, a = some ⟨b, off, none⟩ ∧ b < w.heap.size ∧ (∀ j v, (nthV xs i).cs[j]? = some v → w.cell? ⟨b, off + i * 20 + j, none⟩ = some v)
theorem RowEv.later {w w' : World} {a : Option Addr} {xs : List Ev} (h : RowEv w a xs) (hb : Below w.heap.size w w') : RowEv w' a xs := fun i hi => by
  obtain ⟨b, off, e, hlt, hc⟩ := h i hi
  exact ⟨b, off, e, Nat.lt_of_lt_of_le hlt hb.size, fun j v hj => cell_later hb (hc j v hj)⟩
theorem nthV_take (xs : List Ev) (i : Nat) (h : i < xs.length) : xs.take (i + 1) = xs.take i ++ [nthV xs i] := by
  rw [List.take_add_one, nthV, List.getElem?_eq_getElem h]; rfl
/-- what an event writes -/
def wrt (e : Ev) : Option Wr := if e.st = 0 then (if e.kind = 4 then some ⟨e.key, false, e.val⟩ else if e.kind = 5 then some ⟨e.key, true, noT⟩ else none) else none
/-- what the events of a transaction have written, by key -/
def layW (t : Ix) (ps : List (ByteArray × Wr)) (e : Ev) : List (ByteArray × Wr) :=
  match wrt e with
  | some x => if sameI e.id t then putA ps x.key x else ps
  | none => ps
def laidW (t : Ix) (evs : List Ev) : List (ByteArray × Wr) := evs.foldl (layW t) []
theorem laidW_snoc (t : Ix) (evs : List Ev) (e : Ev) : laidW t (evs ++ [e]) = layW t (laidW t evs) e := by simp [laidW, List.foldl_append]

set_option maxHeartbeats 1000000 in
theorem written_is (e : Ev) (w : World) : Calls Try.prog 18 #[.agg #[.int .u32 e.client, .int .u32 e.id.1, .int .u32 e.id.2, .int .i64 e.kind, .bool e.ro, .bool e.asof, .bool e.back, .string e.tok, .string e.key, .string e.hi, .string e.val, .int .i64 e.lim, .int .i64 e.st, .int .u64 e.aw, .int .u32 e.al, .int .u32 e.an, .slice e.pa e.pn e.pc, .string e.tk]] w
    fun r w' => r = .returned (.tuple #[wv ((wrt e).getD Wr.zero), .bool (wrt e).isSome]) ∧ Below w.heap.size w w' := by
  by_cases h1 : e.st = 0
  · have h1' : (e.st != 0) = false := by simp [h1]
    by_cases h4 : e.kind = 4
    · have h4' : (e.kind == 4) = true := by simp [h4]
      have q : wrt e = some ⟨e.key, false, e.val⟩ := by simp [wrt, h1, h4]
      rw [q]
      clear q h1 h4
      go_enter Try.func18, Try.ntmps18
      go_wp2_with fail
      refine bodyPost_ret (v := .tuple #[wv ⟨e.key, false, e.val⟩, .bool true]) (by simp [results, Try.results18, go_sem]) rfl ⟨rfl, ?_⟩
      (repeat (first | with_reducible exact Below.refl _ _ | with_reducible assumption | with_reducible refine Below.drew ?_ | with_reducible refine Below.al ?_ _ | with_reducible refine Below.setCell ?_ (by first | exact Nat.le_refl _ | (simp; omega) | (simp; done)) _ | with_reducible refine Below.on ?_ (by assumption)))
    · have h4' : (e.kind == 4) = false := by simpa using h4
      by_cases h5 : e.kind = 5
      · have h5' : (e.kind == 5) = true := by simp [h5]
        have q : wrt e = some ⟨e.key, true, noT⟩ := by simp [wrt, h1, h5]
        rw [q]
        clear q h1 h4 h5
        go_enter Try.func18, Try.ntmps18
        go_wp2_with fail
        refine bodyPost_ret (v := .tuple #[wv ⟨e.key, true, noT⟩, .bool true]) (by simp [results, Try.results18, go_sem]) rfl ⟨rfl, ?_⟩
        (repeat (first | with_reducible exact Below.refl _ _ | with_reducible assumption | with_reducible refine Below.drew ?_ | with_reducible refine Below.al ?_ _ | with_reducible refine Below.setCell ?_ (by first | exact Nat.le_refl _ | (simp; omega) | (simp; done)) _ | with_reducible refine Below.on ?_ (by assumption)))
      · have h5' : (e.kind == 5) = false := by simpa using h5
        have q : wrt e = none := by simp [wrt, h1, h4, h5]
        rw [q]
        clear q h1 h4 h5
        go_enter Try.func18, Try.ntmps18
        go_wp2_with fail
        refine bodyPost_ret (v := .tuple #[wv Wr.zero, .bool false]) (by simp [results, Try.results18, go_sem]) rfl ⟨rfl, ?_⟩
        (repeat (first | with_reducible exact Below.refl _ _ | with_reducible assumption | with_reducible refine Below.drew ?_ | with_reducible refine Below.al ?_ _ | with_reducible refine Below.setCell ?_ (by first | exact Nat.le_refl _ | (simp; omega) | (simp; done)) _ | with_reducible refine Below.on ?_ (by assumption)))
  · have h1' : (e.st != 0) = true := by simpa using h1
    have q : wrt e = none := by simp [wrt, h1]
    rw [q]
    clear q h1
    go_enter Try.func18, Try.ntmps18
    go_wp2_with fail
    refine bodyPost_ret (v := .tuple #[wv Wr.zero, .bool false]) (by simp [results, Try.results18, go_sem]) rfl ⟨rfl, ?_⟩
    (repeat (first | with_reducible exact Below.refl _ _ | with_reducible assumption | with_reducible refine Below.drew ?_ | with_reducible refine Below.al ?_ _ | with_reducible refine Below.setCell ?_ (by first | exact Nat.le_refl _ | (simp; omega) | (simp; done)) _ | with_reducible refine Below.on ?_ (by assumption)))
end Go.Proofs.Ytiheilkjlapoiaa.Lg
