/- Layer 11: one more in a map of counts (m[k]++), as the three instructions that it has become. -/
import Derived.Test.YtbmgeobmmpaghaaGreatDoorSeA
import Derived.WideKeyEntry
set_option linter.unusedVariables false
namespace Go.Proofs.YtbmgeobmmpaghaaGreatDoor
set_option maxRecDepth 100000
open Go.RowKit Go.Maps Go.ChangeMaps Go.MapKept Go.WideElems

theorem setBlock_self {w : World} {b : Nat} {o : Obj} (h : w.heap[b]? = some o) : setBlock w b o = w := by
  have hlt := (Array.getElem?_eq_some_iff.1 h).1
  have he : w.heap[b] = o := (Array.getElem?_eq_some_iff.1 h).2
  unfold setBlock
  have : w.heap.setIfInBounds b o = w.heap := by
    apply Array.ext
    · simp
    · intro i h1 h2
      rw [Array.getElem_setIfInBounds]
      split
      · rename_i e; subst e; exact he.symm
      · rfl
  rw [this]
/-- The entry is there behind the first of the three: with the value that it had, or zero. -/
theorem MapM.entry {w : World} {r : Nat} {hs : List (Vr × Value)} (hM : MapM KV w r hs) {x : Vr} (hx : SzV x) (hlen : hs.length < 4611686018427387904) :
    ∃ st w1 hs1, (Instr.mapEntry mapVI (.map (some r)) (vrV x)).run Tryz.prog w = .ok (.tuple #[(getM hs x).getD (.int .i64 0), .int .i64 (st : Nat)]) w1 ∧ MapM KV w1 r hs1 ∧ (∀ y, (getM hs1 y).getD (.int .i64 0) = (getM hs y).getD (.int .i64 0)) ∧ Out (fun k => k = r) w w1 ∧
      ∀ val : Value, ∃ w2, (Instr.entryStore mapVI (.map (some r)) (.int .i64 (st : Nat)) val).run Tryz.prog w1 = .ok () w2 ∧ MapM KV w2 r (putM hs x val) ∧ Out (fun k => k = r) w w2 := by
  have hM0 := hM
  obtain ⟨D, ho, hv⟩ := hM
  obtain ⟨es, clock, hb, F, hn, hD⟩ := ho
  have hkey := keyOf_vr hx
  have hlt := (Array.getElem?_eq_some_iff.1 hb).1
  have hset : ∀ (o : Obj), (setBlock w r o).heap[r]? = some o := fun o => by simp [setBlock, hlt]
  have htwo : ∀ o o' : Obj, setBlock (setBlock w r o) r o' = setBlock w r o' := fun o o' => by
    simp [setBlock]
  obtain ⟨v0, st, es1, clock1, hrun, -, hst⟩ := entry_then_store (K := ⟨fun h => by obtain ⟨l, -, -, rfl⟩ := keyOf_vr_inv h; exact ⟨_, rfl⟩, lawVr.inj, lawVr.check, lawVr.find, lawVr.stays⟩) mapVI_und zeroI hb F hkey
  have hlk := hM0.look mapVI_und (zeroI w) (x := x) hx
  have key : (v0 = (getM hs x).getD (.int .i64 0)) ∧ ∃ hs1, MapM KV (setBlock w r (.map es1 clock1)) r hs1 ∧ (∀ y, (getM hs1 y).getD (.int .i64 0) = (getM hs y).getD (.int .i64 0)) ∧ Out (fun k => k = r) w (setBlock w r (.map es1 clock1)) := by
    rcases lawVr.find w hkey es.toList F.keys with ⟨h1, h2⟩ | ⟨j, e0, h1, h2, h3⟩
    · have hnone : (getM hs x) = none := by
        have := hM0.look11 mapVI_und (zeroI w) (x := x) hx
        cases hg : getM hs x with
        | none => rfl
        | some u =>
          rw [hg] at this
          have hx2 : KV.enc x = vrV x := rfl
          simp [Instr.lookup, run_underlying mapVI_und, Go.MapKept.run_getObj_map hb, hx2, lawVr.check w _ hkey, h1, Result.andThen] at this
      have hme : (Instr.mapEntry mapVI (.map (some r)) (vrV x)).run Tryz.prog w = .ok (.tuple #[.int .i64 0, .int .i64 (clock : Nat)]) (setBlock w r (.map (es.push ⟨vrV x, .int .i64 0, clock⟩) (clock + 1))) := by
        simp [Instr.mapEntry, run_underlying mapVI_und, Go.MapKept.run_getObj_map hb, lawVr.check w false hkey, h1, Go.MapKept.run_setObj_map _ hb, Result.andThen, setBlock, goInt]
      have hmu : (Instr.mapUpdate mapVI (.map (some r)) (vrV x) (.int .i64 0)).run Tryz.prog w = .ok () (setBlock w r (.map (es.push ⟨vrV x, .int .i64 0, clock⟩) (clock + 1))) := by
        simp [Instr.mapUpdate, run_underlying mapVI_und, Go.MapKept.run_getObj_map hb, lawVr.check w false hkey, h1, Go.MapKept.run_setObj_map _ hb, Result.andThen, setBlock]
      obtain ⟨w', hr, hm, hO⟩ := hM0.upd11 mapVI_und (x := x) hx (.int .i64 0) hlen
      have e1 : w' = setBlock w r (.map (es.push ⟨vrV x, .int .i64 0, clock⟩) (clock + 1)) := by
        have hr' : (Instr.mapUpdate mapVI (.map (some r)) (vrV x) (.int .i64 0)).run Tryz.prog w = .ok () w' := hr
        rw [hmu] at hr'
        simpa using hr'.symm
      rw [hrun] at hme
      simp only [Result.ok.injEq, Value.tuple.injEq, Array.mk.injEq, List.cons.injEq, and_true] at hme
      obtain ⟨⟨hv0, -⟩, hw⟩ := hme
      refine ⟨by rw [hnone]; exact hv0, putM hs x (.int .i64 0), by rw [hw, ← e1]; exact hm, fun y => ?_, by rw [hw, ← e1]; exact hO⟩
      rw [getM_put]
      split
      · rename_i e; rw [e, hnone]; rfl
      · rfl
    · have hj : es[j]? = some e0 := by simpa using h2
      have hsame : es.modify j (fun e => { e with key := vrV x }) = es := by
        apply Array.ext'
        rw [Array.toList_modify]
        rw [modify_eq_set _ _ _ _ h2]
        have : ({ e0 with key := vrV x } : MapEntry) = e0 := by rw [← h3]
        rw [this]
        exact set_self _ _ _ h2
      have hme : (Instr.mapEntry mapVI (.map (some r)) (vrV x)).run Tryz.prog w = .ok (.tuple #[e0.val, .int .i64 (e0.born : Nat)]) (setBlock w r (.map es clock)) := by
        simp [Instr.mapEntry, run_underlying mapVI_und, Go.MapKept.run_getObj_map hb, lawVr.check w false hkey, h1, hj, h3, lawVr.stays w hkey, hsame, Go.MapKept.run_setObj_map _ hb, Result.andThen, setBlock, goInt]
      rw [hrun] at hme
      simp only [Result.ok.injEq, Value.tuple.injEq, Array.mk.injEq, List.cons.injEq, and_true] at hme
      obtain ⟨⟨hv0, -⟩, hw⟩ := hme
      rw [hw, setBlock_self hb]
      have hx2 : KV.enc x = vrV x := rfl
      simp [Instr.lookup, run_underlying mapVI_und, Go.MapKept.run_getObj_map hb, hx2, lawVr.check w _ hkey, h1, Result.andThen] at hlk
      exact ⟨hv0.trans hlk, hs, hM0, fun y => rfl, Out.refl _ _⟩
  obtain ⟨k1, hs1, k2, k3, k4⟩ := key
  refine ⟨st, _, hs1, by rw [k1] at hrun; exact hrun, k2, k3, k4, fun val => ?_⟩
  obtain ⟨es', clock', r1, r2⟩ := hst _ val (hset _)
  obtain ⟨w', hr, hm, hO⟩ := hM0.upd11 mapVI_und (x := x) hx val hlen
  have e1 : w' = setBlock w r (.map es' clock') := by
    have hr' : (Instr.mapUpdate mapVI (.map (some r)) (vrV x) val).run Tryz.prog w = .ok () w' := hr
    rw [r2] at hr'
    simpa using hr'.symm
  exact ⟨_, r1, by rw [htwo, ← e1]; exact hm, by rw [htwo, ← e1]; exact hO⟩
end Go.Proofs.YtbmgeobmmpaghaaGreatDoor
