import Derived.Test.YtchfoipkaookmabDoorBase0
import Derived.Orders
import Derived.Defers
import Derived.RegionTactic
import Derived.BigRegion
/- A region that draws, by the list of its orders: for bodies that defer (there the elder tactics' 'take first' does not fit: what a panic leaves in the slots is read again at the door). -/
namespace Go.Proofs.YtchfoipkaookmabDoor
open Go.RowKit

/-- all orders -/
def linExts (md : Region.Mode) (ops : Array Oper) : Nat → Array Bool → List (List Nat)
  | 0, _ => [[]]
  | fuel + 1, listed => match Region.ready md ops listed with
    | [] => [[]]
    | x :: xs => (x :: xs).flatMap fun i => (linExts md ops fuel (listed.setIfInBounds i true)).map (i :: ·)
theorem lin_mem (md : Region.Mode) (ops : Array Oper) : ∀ (fuel t : Nat) (listed : Array Bool), Region.linearise.go md ops fuel t listed [] ∈ linExts md ops fuel listed := by
  intro fuel
  induction fuel with
  | zero => intro t listed; simp [Region.linearise.go, linExts]
  | succ fuel ih =>
    intro t listed
    simp only [Region.linearise.go]
    change (match (Region.ready md ops listed)[t % (Region.ready md ops listed).length]? with
      | some i => Region.linearise.go md ops fuel (t / (Region.ready md ops listed).length) (listed.setIfInBounds i true) [i]
      | none => [].reverse) ∈ _
    unfold linExts
    cases hr : Region.ready md ops listed with
    | nil => simp
    | cons x xs =>
      have hlt : t % (x :: xs).length < (x :: xs).length := Nat.mod_lt _ (by simp)
      rw [List.getElem?_eq_getElem hlt]
      simp only []
      rw [linearise_go_acc, List.reverse_singleton, List.singleton_append]
      exact List.mem_flatMap.2 ⟨_, List.getElem_mem hlt, List.mem_map.2 ⟨_, ih _ _, rfl⟩⟩
inductive Picks (ops : Array Oper) : List Nat → List Oper → Prop
  | nil : Picks ops [] []
  | cons {i : Nat} {o : Oper} {l : List Nat} {os : List Oper} (h : ops[i]? = some o) (k : Picks ops l os) : Picks ops (i :: l) (o :: os)
theorem wpOps_forall {P : Program} {ops : Array Oper} {Q : Exit → Act → World → Prop} {l : List Nat} {os : List Oper} (hp : Picks ops l os) : ∀ {a : Act} {w : World}, wpList P ops Q os a w → wpOps P ops Q l a w := by
  induction hp with
  | nil => intro a w h; simpa [wpOps, wpList] using h
  | @cons i o l os h1 _ ih =>
    intro a w h
    rw [wpOps_cons]
    unfold wpOp
    rw [h1]
    simp only [wpList] at h
    show if Region.wanted o (yielded ops a.tmps) then _ else _
    split
    · rename_i hw
      rw [if_pos hw] at h
      exact h.imp (Oper.wp_mono (fun a w => ih)) id
    · rename_i hw
      rw [if_neg hw] at h
      exact ih h
theorem wp_region_lin {P : Program} {ops : Array Oper} {Q : Exit → Act → World → Prop} {id : Nat} {a : Act} {w : World} (L : List (List Nat)) (hm : P.follows .mixedOrders = true)
    (hL : linExts .any ops ops.size (Array.replicate ops.size false) = L) (h : ∀ l ∈ L, wpOps P ops Q l a w.drew) : (Code.region id ops true).wp P Q a w :=
  wp_region_draw fun t => by
    simp only [Region.schedule, hm, Bool.true_or, if_true]
    exact h _ (hL ▸ lin_mem .any ops ops.size t _)

/-- the one order that is left -/
def linOne (md : Region.Mode) (ops : Array Oper) : Nat → Array Bool → Option (List Nat)
  | 0, listed => if Region.ready md ops listed = [] then some [] else none
  | fuel + 1, listed => match Region.ready md ops listed with
    | [] => some []
    | [i] => (linOne md ops fuel (listed.setIfInBounds i true)).map (i :: ·)
    | _ => none
theorem wpAny_one {P : Program} {md : Region.Mode} {ops : Array Oper} {Q : Exit → Act → World → Prop} : ∀ (fuel : Nat) (listed : Array Bool) (l : List Nat), linOne md ops fuel listed = some l → ∀ a w, wpOps P ops Q l a w → wpAny P md ops Q fuel listed a w := by
  intro fuel
  induction fuel with
  | zero =>
    intro listed l h a w hw
    unfold linOne at h
    split at h
    · rename_i hr
      injection h with h; subst h
      exact ⟨hr, by simpa [wpOps] using hw⟩
    · cases h
  | succ fuel ih =>
    intro listed l h a w hw
    unfold linOne at h
    split at h
    · rename_i hr
      injection h with h; subst h
      exact wpAny_done hr (by simpa [wpOps] using hw) _
    · rename_i i hr
      obtain ⟨l', hl', rfl⟩ := Option.map_eq_some_iff.1 h
      refine wpAny_all hr (by simp) (fun j hj => ?_)
      obtain rfl : j = i := by simpa using hj
      rw [wpOps_cons] at hw
      exact wpOp_mono (fun a w => ih _ _ hl' a w) hw
    · cases h
theorem wpAny_br {P : Program} {md : Region.Mode} {ops : Array Oper} {Q : Exit → Act → World → Prop} {rs : List Nat} {fuel : Nat} {listed : Array Bool} {a : Act} {w : World} (hr : Region.ready md ops listed = rs) (hne : rs ≠ [])
    (h : ∀ i ∈ rs, ∃ l, linOne md ops fuel (listed.setIfInBounds i true) = some l ∧ wpOps P ops Q (i :: l) a w) : wpAny P md ops Q (fuel + 1) listed a w :=
  wpAny_all hr hne (fun i hi => by
    obtain ⟨l, h1, h2⟩ := h i hi
    rw [wpOps_cons] at h2
    exact wpOp_mono (fun a w => wpAny_one _ _ _ h1 a w) h2)
theorem leaves_congr {P : Program} {fn : Func} {t1 t2 : Array Value} {R : Ending → World → Prop} (hr : results fn t1 = results fn t2) : ∀ (ds : List Deferred) (u : FrameMode) (w : World), Leaves P fn t1 R ds u w → Leaves P fn t2 R ds u w
  | [], .returning, w, ⟨v, h1, h2⟩ => ⟨v, hr ▸ h1, h2⟩
  | [], .panicking _, w, h => h
  | [], .run, _, h => h
  | d :: ds, u, w, ⟨h1, fv, cap, f, args, h2, h3, h4⟩ => ⟨h1, fv, cap, f, args, h2, h3, h4.mono (fun e u' w' h => by
      cases e with
      | returned v => exact leaves_congr hr ds _ _ h
      | panicked c => exact leaves_congr hr ds _ _ h
      | outgrown => exact h)⟩
theorem bodyD_put {P : Program} {fn : Func} {R : Ending → World → Prop} {c : List PanicEntry} {a : Act} {i : Tmp} {v : Value} {w : World} (hr : ∀ t : Array Value, results fn (t.setIfInBounds i v) = results fn t)
    (h : bodyPostD P fn R (.panic c) (a.put (some i) v) w) : bodyPostD P fn R (.panic c) a w :=
  leaves_congr (hr a.tmps) a.defers _ w h

end Go.Proofs.YtchfoipkaookmabDoor
