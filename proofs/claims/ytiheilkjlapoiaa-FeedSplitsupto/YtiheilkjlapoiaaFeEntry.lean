import Derived.Test.YtiheilkjlapoiaaQKeys
import Derived.WideKeyEntry
/- m[k] = f(m[k]): an entry of a map is looked for, and stored into. -/
namespace Go.Proofs.Ytiheilkjlapoiaa.Lk
open Go.RowKit Go.Sort
open Go.ChangeMaps (setBlock heap_setBlock_same heap_setBlock_other modify_eq_set)
open Go.WideElems (findIdx_born findIdx_arr modify_last set_self)
open Go.MapKept (Stamped stamped_push stamped_modify)
set_option linter.unusedVariables false
section
variable {α β : Type} {P : Program} {k e t : TypeId} {ev : α → Value} {fv : β → Value} {w w' : World} {r : Nat} {ps todo : List (α × β)}
theorem MapO.entry [DecidableEq α] {b : Nat} (h : MapO ev fv w (some b) ps) (K : KeyKind P k ev (fun _ => True)) (ht : P.underlying t = some (.map k e)) {z : β} (hz : ∀ W, (zeroValue e).run P W = .ok (fv z) W) (a : α) :
    ∃ (v0 : β) (st : Nat) (es1 : Array MapEntry) (clock1 : Nat), (Instr.mapEntry t (.map (some b)) (ev a)).run P w = .ok (.tuple #[fv v0, goInt st]) (setBlock w b (.map es1 clock1)) ∧ ((a, v0) ∈ ps ∨ (a ∉ ps.map (·.1) ∧ v0 = z)) ∧
      ∀ (w2 : World) (v : β), w2.heap[b]? = some (.map es1 clock1) → ∃ o2, (Instr.entryStore t (.map (some b)) (goInt st) (fv v)).run P w2 = .ok () (setBlock w2 b o2) ∧ MapO ev fv (setBlock w2 b o2) (some b) (putA ps a v) := by
  have hputs : ∀ v : β, ∃ o, (Instr.mapUpdate t (.map (some b)) (ev a) (fv v)).run P w = .ok () (setBlock w b o) ∧ MapAt ev (fun _ => True) fv (setBlock w b o) b (putA ps a v) := fun v => MapAt.put h.at K ht trivial v
  obtain ⟨es, clock, hb, hs, hm, hg⟩ := h.at
  obtain ⟨s1, s2, s3⟩ := hs
  have fin : ∀ (v : β) (w2 : World) (es1 : Array MapEntry) (clock1 : Nat) (es' : Array MapEntry) (clock' : Nat), w2.heap[b]? = some (.map es1 clock1) → (Instr.mapUpdate t (.map (some b)) (ev a) (fv v)).run P w = .ok () (setBlock w b (.map es' clock')) → MapO ev fv (setBlock w2 b (.map es' clock')) (some b) (putA ps a v) := by
    intro v w2 es1 clock1 es' clock' hw2 hrun
    obtain ⟨o, ho, hM⟩ := hputs v
    rw [hrun] at ho
    have e1 : setBlock w b (.map es' clock') = setBlock w b o := by injection ho
    rw [← e1] at hM
    exact MapAt.same hM ((heap_setBlock_same hw2 _).trans (heap_setBlock_same hb _).symm)
  rcases K.find w a trivial es.toList (entry_keys hm hg) with ⟨h1, h2⟩ | ⟨j, e0, h1, h2, h3⟩
  · have hnot : a ∉ ps.map (·.1) := fun hin => by
      obtain ⟨p, hp, rfl⟩ := List.mem_map.1 hin
      have : ev p.1 ∈ es.toList.map (·.key) := by
        have e1 : es.toList.map (·.key) = (es.toList.map kv).map (·.1) := by simp [List.map_map, Function.comp_def]
        rw [e1, hm]
        exact List.mem_map.2 ⟨ekv ev fv p, List.mem_map.2 ⟨p, hp, rfl⟩, rfl⟩
      obtain ⟨x, hx, e1⟩ := List.mem_map.1 this
      exact h2 x hx e1
    refine ⟨z, clock, es.push ⟨ev a, fv z, clock⟩, clock + 1, ?_, .inr ⟨hnot, rfl⟩, fun w2 v hw2 => ⟨.map (es.push ⟨ev a, fv v, clock⟩) (clock + 1), ?_, fin v w2 _ _ _ _ hw2 ?_⟩⟩
    · simp [Instr.mapEntry, run_underlying ht, MapKept.run_getObj_map hb, K.check w false a trivial, h1, hz, MapKept.run_setObj_map _ hb, Result.andThen, setBlock]
    · have hidx : (es.push ⟨ev a, fv z, clock⟩).findIdx? (fun e => ((e.born : Nat) : Int) == ((clock : Nat) : Int)) = some es.size := by
        rw [findIdx_arr]
        exact findIdx_born (l := (es.push ⟨ev a, fv z, clock⟩).toList) (j := es.size) (e0 := ⟨ev a, fv z, clock⟩) (by
          simp only [Array.toList_push, List.map_append, List.map_cons, List.map_nil]
          refine List.nodup_append.2 ⟨s2, by simp, fun a ha c hc e1 => ?_⟩
          simp only [List.mem_singleton] at hc
          obtain ⟨x, hx, rfl⟩ := List.mem_map.1 ha
          have := s1 x hx
          omega) (by simp)
      have hmod : (es.push ⟨ev a, fv z, clock⟩).modify es.size (fun e => { e with val := fv v }) = es.push ⟨ev a, fv v, clock⟩ := by
        apply Array.ext'
        rw [Array.toList_modify, Array.toList_push, Array.toList_push, ← Array.length_toList, modify_last]
      simp [Instr.entryStore, MapKept.run_getObj_map hw2, asInt, asIntOf, goInt, hidx, hmod, MapKept.run_setObj_map _ hw2, Result.andThen, setBlock]
    · simp [Instr.mapUpdate, run_underlying ht, MapKept.run_getObj_map hb, K.check w false a trivial, h1, MapKept.run_setObj_map _ hb, Result.andThen, setBlock]
  · obtain ⟨p, hp, q1, q2⟩ := entry_pair hm h2
    have hpa : p.1 = a := K.inj _ _ (q1.symm.trans h3)
    have hj : es[j]? = some e0 := by simpa using h2
    have hsame : es.modify j (fun e => { e with key := ev a }) = es := by
      apply Array.ext'
      rw [Array.toList_modify, modify_eq_set _ _ _ _ h2]
      have : ({ e0 with key := ev a } : MapEntry) = e0 := by rw [← h3]
      rw [this]
      exact set_self _ _ _ h2
    refine ⟨p.2, e0.born, es, clock, ?_, .inl (by rw [← hpa]; exact List.mem_of_getElem? hp), fun w2 v hw2 => ⟨.map (es.modify j (fun e' => { e' with key := ev a, val := fv v })) clock, ?_, fin v w2 _ _ _ _ hw2 ?_⟩⟩
    · rw [← q2]
      simp [Instr.mapEntry, run_underlying ht, MapKept.run_getObj_map hb, K.check w false a trivial, h1, hj, h3, K.stays w a trivial, hsame, MapKept.run_setObj_map _ hb, Result.andThen, setBlock]
    · have hidx : es.findIdx? (fun e => ((e.born : Nat) : Int) == ((e0.born : Nat) : Int)) = some j := by
        rw [findIdx_arr]
        exact findIdx_born s2 h2
      have hmod : es.modify j (fun e => { e with val := fv v }) = es.modify j (fun e' => { e' with key := ev a, val := fv v }) := by
        apply Array.ext'
        rw [Array.toList_modify, Array.toList_modify, modify_eq_set _ _ _ _ h2, modify_eq_set _ _ _ _ h2, ← h3]
      simp [Instr.entryStore, MapKept.run_getObj_map hw2, asInt, asIntOf, goInt, hidx, hmod, MapKept.run_setObj_map _ hw2, Result.andThen, setBlock]
    · simp [Instr.mapUpdate, run_underlying ht, MapKept.run_getObj_map hb, K.check w false a trivial, h1, hj, h3, K.stays w a trivial, MapKept.run_setObj_map _ hb, Result.andThen, setBlock]
end
end Go.Proofs.Ytiheilkjlapoiaa.Lk
