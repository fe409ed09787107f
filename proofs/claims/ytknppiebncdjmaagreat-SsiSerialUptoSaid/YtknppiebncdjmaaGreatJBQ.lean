import Derived.Test.YtknppiebncdjmaaGreatJAM
import Derived.Test.YtknppiebncdjmaaGreatJBL
import Derived.Test.YtknppiebncdjmaaGreatJBM
import Derived.Test.YtknppiebncdjmaaGreatJBP
import Derived.BigQuiet
/- Layer 10, plain: an operation of a script, told honestly: what it answers, how manager and rows stand then. -/
namespace Go.Proofs.YtknppiebncdjmaaGreat
set_option maxRecDepth 100000
set_option maxRecDepth 100000

def overR (r : Run10) (mo : Int) : Run10 := { r with over := true, ended := mo }
def lastW (vs : List Ver10) (l : Lk) : Int := if 0 ≤ newestP vs l 4611686018427387904 then ((vs[(newestP vs l 4611686018427387904).toNat]?).map (·.num)).getD 0 else 0
def wroteR (r : Run10) (l : Lk) : Run10 := { r with writes := if hasLk r.writes l = true then r.writes else r.writes ++ [l] }
def inS (tb lo hi : ByteArray) (l : Lk) : Bool := l.1.toList == tb.toList && withinB l.2 lo hi
theorem sees_len (vs : List Ver10) : ∀ (ls : List Lk) (r : Run10), (ls.foldl (seesP vs) r).reads.length ≤ r.reads.length + ls.length
  | [], r => by simp
  | l :: ls, r => by
    have h := sees_len vs ls (seesP vs r l)
    have : (seesP vs r l).reads.length ≤ r.reads.length + 1 := by unfold seesP; split <;> simp
    rw [List.foldl_cons, List.length_cons]
    omega
/-- The world of a law over plain lists. -/
structure Pl10 where
  S : St10
  vs : List Ver10
  rs : List Run10
/-- What one who is under way does. -/
def doR (c : Cp10) (rows : List Lk) (X : Pl10) (o : OpX) (mo : Int) (i : Nat) (r : Run10) : Int × Pl10 :=
  if o.do_ = 1 then ((read10 c X.S o.tx o.at_).1, ⟨(read10 c X.S o.tx o.at_).2, X.vs, X.rs.set i (if (read10 c X.S o.tx o.at_).1 = 0 then seesP X.vs r o.at_ else overR r mo)⟩)
  else if o.do_ = 2 then ((scan10 c X.S o.tx o.at_.1 o.at_.2 o.to_).1, ⟨(scan10 c X.S o.tx o.at_.1 o.at_.2 o.to_).2, X.vs, X.rs.set i (if (scan10 c X.S o.tx o.at_.1 o.at_.2 o.to_).1 = 0 then (rows.filter (inS o.at_.1 o.at_.2 o.to_)).foldl (seesP X.vs) r else overR r mo)⟩)
  else if o.do_ = 3 then ((write10 c X.S o.tx o.at_ (lastW X.vs o.at_)).1, ⟨(write10 c X.S o.tx o.at_ (lastW X.vs o.at_)).2, X.vs, X.rs.set i (if (write10 c X.S o.tx o.at_ (lastW X.vs o.at_)).1 = 0 then wroteR r o.at_ else overR r mo)⟩)
  else if o.do_ = 4 then ((commit10 c X.S o.tx).1.2, ⟨(commit10 c X.S o.tx).2, if (commit10 c X.S o.tx).1.2 = 0 then layP X.vs (commit10 c X.S o.tx).1.1 i r.writes else X.vs, X.rs.set i (if (commit10 c X.S o.tx).1.2 = 0 then overR { r with com := true } mo else overR r mo)⟩)
  else if o.do_ = 5 then ((abort10 X.S o.tx).1, ⟨(abort10 X.S o.tx).2, X.vs, X.rs.set i (overR r mo)⟩)
  else (0, X)
/-- An operation. -/
def doP (c : Cp10) (rows : List Lk) (X : Pl10) (o : OpX) (mo : Int) : Int × Pl10 :=
  if o.do_ = 0 then ((begin10 c X.S).1.2.2, ⟨(begin10 c X.S).2, X.vs, if (begin10 c X.S).1.2.2 = 0 then X.rs ++ [⟨(begin10 c X.S).1.1, (begin10 c X.S).1.2.1, mo, 0, false, false, [], []⟩] else X.rs⟩)
  else if ofW X.rs o.tx < 0 then (0, X) else match X.rs[(ofW X.rs o.tx).toNat]? with
    | none => (0, X)
    | some r => doR c rows X o mo (ofW X.rs o.tx).toNat r
section
variable {c : Cp10} {rows : List Lk} {X Y : Pl10} {o : OpX} {mo now : Int}
theorem doP_none (h0 : o.do_ ≠ 0) (h : ofW X.rs o.tx = -1) : doP c rows X o mo = (0, X) := by
  unfold doP
  rw [if_neg h0, if_pos (by omega)]
theorem doP_some {i : Nat} {r : Run10} (h0 : o.do_ ≠ 0) (h : ofW X.rs o.tx = (i : Int)) (hi : X.rs[i]? = some r) : doP c rows X o mo = doR c rows X o mo i r := by
  unfold doP
  rw [if_neg h0, if_neg (by omega), h, Int.toNat_natCast, hi]
theorem last_is (I : Inv10 c X.S X.vs X.rs now) (hn : now ≤ 4611686018427387904) (l : Lk) : 0 ≤ lastW X.vs l ∧ lastW X.vs l ≤ X.S.last ∧ ∀ v ∈ X.vs, v.at_ = l → v.num ≤ lastW X.vs l := by
  have hlc := I.lc
  unfold lastW
  rcases newest_is X.vs l 4611686018427387904 with ⟨h1, h2⟩ | ⟨k, v, h1, h2, h3, h4⟩
  · rw [h1, if_neg (by omega)]
    refine ⟨Int.le_refl _, hlc.1, fun v hv e => ?_⟩
    obtain ⟨k, hk⟩ := List.mem_iff_getElem?.1 hv
    obtain ⟨-, -, -, -, -, -, h5, -⟩ := I.ve v hv
    exact absurd ⟨e, by omega⟩ (h2 k v hk)
  · rw [h1, if_pos (by omega), Int.toNat_natCast, h2]
    simp only [Option.map_some, Option.getD_some]
    obtain ⟨-, -, -, -, -, -, h5, h6, -⟩ := I.ve v (List.mem_of_getElem? h2)
    refine ⟨h6, h5, fun u hu e => ?_⟩
    obtain ⟨m, hm⟩ := List.mem_iff_getElem?.1 hu
    obtain ⟨-, -, -, -, -, -, h7, -⟩ := I.ve u hu
    have hmk := h4 m u hm ⟨e, by omega⟩
    rcases Nat.lt_or_eq_of_le hmk with hlt | rfl
    · exact Int.le_of_lt (I.vi m k u v hm h2 hlt (e.trans h3.1.symm))
    · rw [h2] at hm; cases hm; exact Int.le_refl _
theorem inS_is {tb lo hi : ByteArray} {l : Lk} (h : inS tb lo hi l = true) : l.1 = tb ∧ withinB l.2 lo hi = true := by
  unfold inS at h
  rw [Bool.and_eq_true] at h
  have := eq_of_beq h.1
  refine ⟨?_, h.2⟩
  have h3 : l.1.data.toList = tb.data.toList := by simpa [ByteArray.toList_eq] using this
  have h4 : l.1.data = tb.data := Array.toList_inj.1 h3
  cases h5 : l.1 with
  | mk d => rw [h5] at h4; cases tb; simp only at h4; rw [h4]
/-- Each operation, told honestly, keeps what is kept. -/
theorem Inv10.do (I : Inv10 c X.S X.vs X.rs now) (h0 : 0 ≤ now) (hn : now ≤ 4611686018427387904) : Inv10 c (doP c rows X o now).2.S (doP c rows X o now).2.vs (doP c rows X o now).2.rs (now + 1) := by
  by_cases hd : o.do_ = 0
  · unfold doP
    rw [if_pos hd]
    obtain ⟨h1, h2⟩ := I.began h0
    simp only
    by_cases he : (begin10 c X.S).1.2.2 = 0
    · rw [if_pos he]; exact (h1 he).2.2
    · rw [if_neg he, h2 he]; exact I.tick
  rcases ofW_is X.rs o.tx with ⟨h1, -⟩ | ⟨i, r, h1, hi, htx, hov⟩
  · rw [doP_none hd h1]; exact I.tick
  rw [doP_some hd h1 hi]
  unfold doR
  rw [← htx]
  split
  · obtain ⟨k1, k2⟩ := I.read hi hov o.at_
    simp only
    split
    · rename_i he; exact k1 he
    · rename_i he; exact k2 he
  split
  · obtain ⟨k1, k2⟩ := I.scan hi hov o.at_.1 o.at_.2 o.to_ (rows.filter (inS o.at_.1 o.at_.2 o.to_)) fun l hl => inS_is (List.mem_filter.1 hl).2
    simp only
    split
    · rename_i he; exact k1 he
    · rename_i he; exact k2 he
  split
  · obtain ⟨l1, -, l2⟩ := last_is I hn o.at_
    obtain ⟨k1, k2⟩ := I.write hi hov o.at_ (lastW X.vs o.at_) l1 l2
    simp only
    split
    · rename_i he; exact k1 he
    · rename_i he; exact k2 he
  split
  · obtain ⟨k1, k2⟩ := I.committed hi hov
    simp only
    by_cases he : (commit10 c X.S r.tx).1.2 = 0
    · rw [if_pos he, if_pos he]; exact (k1 he).2.2
    · rw [if_neg he, if_neg he]; exact k2 he
  split
  · exact (I.aborted hi hov).2
  · exact I.tick
/-- But for its moments. -/
def strip (r : Run10) : Run10 := { r with begun := 0, ended := 0 }
def Pl10.strip (X : Pl10) : Pl10 := ⟨X.S, X.vs, X.rs.map (Go.Proofs.YtknppiebncdjmaaGreat.strip)⟩
theorem strip_is {r g : Run10} (h : strip r = strip g) : r.tx = g.tx ∧ r.over = g.over ∧ r.com = g.com ∧ r.reads = g.reads ∧ r.writes = g.writes := by
  cases r; cases g
  simp only [strip, Run10.mk.injEq] at h
  exact ⟨h.1, h.2.2.2.2.2.1, h.2.2.2.2.1, h.2.2.2.2.2.2.1, h.2.2.2.2.2.2.2⟩
theorem ofW_strip (rs : List Run10) (tx : Int) : ofW (rs.map strip) tx = ofW rs tx := by
  unfold ofW
  rw [List.findIdx?_map]
  rfl
theorem sees_strip (vs : List Ver10) (r : Run10) (l : Lk) : strip (seesP vs r l) = seesP vs (strip r) l := by
  unfold seesP
  have : (strip r).writes = r.writes := rfl
  rw [this]
  split <;> rfl
theorem seess_strip (vs : List Ver10) : ∀ (ls : List Lk) (r : Run10), strip (ls.foldl (seesP vs) r) = ls.foldl (seesP vs) (strip r)
  | [], _ => rfl
  | l :: ls, r => by rw [List.foldl_cons, List.foldl_cons, seess_strip vs ls, sees_strip]
theorem doR_strip (i : Nat) (r : Run10) (mo mo' : Int) : (doR c rows X o mo i r).1 = (doR c rows X.strip o mo' i (strip r)).1 ∧ (doR c rows X o mo i r).2.strip = (doR c rows X.strip o mo' i (strip r)).2.strip := by
  have map_set : ∀ (a b : Run10), strip a = strip b → (X.rs.set i a).map strip = ((X.rs.map strip).set i b).map strip := fun a b e => by
    rw [List.map_set, List.map_set, List.map_map, e]
    rfl
  have hv : X.strip.vs = X.vs := rfl
  have hS : X.strip.S = X.S := rfl
  have hr : X.strip.rs = X.rs.map strip := rfl
  have hm : ∀ (S : St10) (vs : List Ver10) (rs : List Run10), Pl10.strip ⟨S, vs, rs⟩ = ⟨S, vs, rs.map strip⟩ := fun _ _ _ => rfl
  unfold doR
  rw [hv, hS, hr]
  split
  · refine ⟨rfl, ?_⟩
    simp only [hm]
    congr 1
    refine map_set _ _ ?_
    split
    · rw [sees_strip]; rw [show seesP X.vs (strip r) o.at_ = strip (seesP X.vs r o.at_) from (sees_strip ..).symm]; rfl
    · rfl
  split
  · refine ⟨rfl, ?_⟩
    simp only [hm]
    congr 1
    refine map_set _ _ ?_
    split
    · rw [← seess_strip]; rfl
    · rfl
  split
  · refine ⟨rfl, ?_⟩
    simp only [hm]
    congr 1
    refine map_set _ _ ?_
    split <;> rfl
  split
  · refine ⟨rfl, ?_⟩
    simp only [hm]
    congr 1
    refine map_set _ _ ?_
    split <;> rfl
  split
  · refine ⟨rfl, ?_⟩
    simp only [hm]
    congr 1
    exact map_set _ _ rfl
  · refine ⟨rfl, ?_⟩
    unfold Pl10.strip
    simp only [List.map_map]
    rfl
theorem doP_strip (mo mo' : Int) : (doP c rows X o mo).1 = (doP c rows X.strip o mo').1 ∧ (doP c rows X o mo).2.strip = (doP c rows X.strip o mo').2.strip := by
  have hm : ∀ (S : St10) (vs : List Ver10) (rs : List Run10), Pl10.strip ⟨S, vs, rs⟩ = ⟨S, vs, rs.map strip⟩ := fun _ _ _ => rfl
  have hss : X.strip.strip = X.strip := by
    unfold Pl10.strip
    simp only [List.map_map]
    rfl
  have hS : X.strip.S = X.S := rfl
  have hv : X.strip.vs = X.vs := rfl
  have hr : X.strip.rs = X.rs.map strip := rfl
  by_cases hd : o.do_ = 0
  · unfold doP
    rw [if_pos hd, if_pos hd, hS, hv, hr]
    refine ⟨rfl, ?_⟩
    simp only [hm]
    congr 1
    split
    · simp [strip]
    · rw [List.map_map]; rfl
  have ho : ofW X.strip.rs o.tx = ofW X.rs o.tx := ofW_strip _ _
  rcases ofW_is X.rs o.tx with ⟨h1, -⟩ | ⟨i, r, h1, hi, htx, hov⟩
  · rw [doP_none hd h1, doP_none hd (ho.trans h1)]
    exact ⟨rfl, hss.symm⟩
  · rw [doP_some hd h1 hi, doP_some hd (ho.trans h1) (show X.strip.rs[i]? = some (strip r) by rw [hr, List.getElem?_map, hi]; rfl)]
    exact doR_strip i r mo mo'
/-- Two that differ in their moments alone. -/
theorem doP_twin (h : X.strip = Y.strip) (mo mo' : Int) : (doP c rows X o mo).1 = (doP c rows Y o mo').1 ∧ (doP c rows X o mo).2.strip = (doP c rows Y o mo').2.strip := by
  obtain ⟨h1, h2⟩ := doP_strip (X := X) (c := c) (rows := rows) (o := o) mo 0
  obtain ⟨h3, h4⟩ := doP_strip (X := Y) (c := c) (rows := rows) (o := o) mo' 0
  rw [h] at h1 h2
  exact ⟨h1.trans h3.symm, h2.trans h4.symm⟩
theorem deps_strip (vs : List Ver10) (rs : List Run10) : depsP vs (rs.map strip) = depsP vs rs := by
  unfold depsP
  rw [List.zipIdx_map, List.flatMap_map]
  rfl
/-- How much there may be. -/
structure Cnt10 (R a q d : Nat) (X : Pl10) : Prop where
  n : X.rs.length ≤ a
  r : (X.rs.map (·.reads.length)).sum ≤ q * R
  w : ∀ r ∈ X.rs, r.writes.length ≤ q
  v : X.vs.length ≤ d * q
variable {R a q d : Nat}
theorem Cnt10.mono (h : Cnt10 R a q d X) {a' q' d' : Nat} (ha : a ≤ a') (hq : q ≤ q') (hd : d ≤ d') : Cnt10 R a' q' d' X :=
  ⟨Nat.le_trans h.n ha, Nat.le_trans h.r (Nat.mul_le_mul_right _ hq), fun r hr => Nat.le_trans (h.w r hr) hq, Nat.le_trans h.v (Nat.mul_le_mul hd hq)⟩
theorem sum_set {rs : List Run10} {i k : Nat} {r r' : Run10} (hi : rs[i]? = some r) (hr : r'.reads.length ≤ r.reads.length + k) : ((rs.set i r').map (·.reads.length)).sum ≤ (rs.map (·.reads.length)).sum + k := by
  induction rs generalizing i with
  | nil => simp at hi
  | cons x rs ih =>
    cases i with
    | zero =>
      obtain rfl : x = r := by simpa using hi
      simp only [List.set_cons_zero, List.map_cons, List.sum_cons]
      omega
    | succ i =>
      have := ih (i := i) (by simpa using hi)
      simp only [List.set_cons_succ, List.map_cons, List.sum_cons]
      omega
theorem sum_at {rs : List Run10} {i : Nat} {r : Run10} (hi : rs[i]? = some r) : r.reads.length ≤ (rs.map (·.reads.length)).sum := by
  induction rs generalizing i with
  | nil => simp at hi
  | cons x rs ih =>
    cases i with
    | zero =>
      obtain rfl : x = r := by simpa using hi
      simp only [List.map_cons, List.sum_cons]
      omega
    | succ i =>
      have := ih (i := i) (by simpa using hi)
      simp only [List.map_cons, List.sum_cons]
      omega
theorem Cnt10.set (h : Cnt10 R a q d X) {i : Nat} {r r' : Run10} (hi : X.rs[i]? = some r) (hr : r'.reads.length ≤ r.reads.length + R) (hw : r'.writes.length ≤ r.writes.length + 1) (S : St10) (vs : List Ver10) (hv : vs.length ≤ X.vs.length + r.writes.length) : Cnt10 R a (q + 1) (d + 1) ⟨S, vs, X.rs.set i r'⟩ := by
  have hwr := h.w r (List.mem_of_getElem? hi)
  refine ⟨by simp only [List.length_set]; exact h.n, ?_, fun u hu => ?_, ?_⟩
  · have := sum_set hi hr
    have := h.r
    simp only
    rw [Nat.succ_mul]
    omega
  · rcases List.mem_or_eq_of_mem_set hu with hu | rfl
    · have := h.w u hu; omega
    · omega
  · have := h.v
    simp only
    have e : (d + 1) * (q + 1) = d * q + d + (q + 1) := by rw [Nat.succ_mul, Nat.mul_succ]
    omega
theorem lay_len (vs : List Ver10) (num by_ : Int) (ls : List Lk) : (layP vs num by_ ls).length = vs.length + ls.length := by
  unfold layP
  induction ls generalizing vs with
  | nil => rfl
  | cons l ls ih =>
    rw [List.foldl_cons, ih, List.length_cons]
    have : (layV vs num by_ l).length = vs.length + 1 := by unfold layV; split <;> simp
    omega
theorem Cnt10.do (h : Cnt10 R a q d X) (hR : 1 ≤ R) (hrow : rows.length ≤ R) (hd : o.do_ ≠ 0) : Cnt10 R a (q + 1) (d + 1) (doP c rows X o mo).2 := by
  have h' : Cnt10 R a (q + 1) (d + 1) X := h.mono (Nat.le_refl _) (Nat.le_succ _) (Nat.le_succ _)
  rcases ofW_is X.rs o.tx with ⟨h1, -⟩ | ⟨i, r, h1, hi, htx, hov⟩
  · rw [doP_none hd h1]; exact h'
  rw [doP_some hd h1 hi]
  unfold doR
  split
  · refine h.set hi ?_ ?_ _ _ (by omega) <;> split
    · unfold seesP; split <;> simp; omega
    · show r.reads.length ≤ _; omega
    · unfold seesP; split <;> simp
    · show r.writes.length ≤ _; omega
  split
  · refine h.set hi ?_ ?_ _ _ (by omega) <;> split
    · have h2 := sees_len X.vs (rows.filter (inS o.at_.1 o.at_.2 o.to_)) r
      have h3 := List.length_filter_le (inS o.at_.1 o.at_.2 o.to_) rows
      omega
    · show r.reads.length ≤ _; omega
    · rw [(sees_fields X.vs _ r).2.2.2.2.2.2.1]; omega
    · show r.writes.length ≤ _; omega
  split
  · refine h.set hi ?_ ?_ _ _ (by omega) <;> split
    · show r.reads.length ≤ _; omega
    · show r.reads.length ≤ _; omega
    · unfold wroteR; simp only; split <;> simp
    · show r.writes.length ≤ _; omega
  split
  · refine h.set hi ?_ ?_ _ _ ?_
    · split <;> (show r.reads.length ≤ _; omega)
    · split <;> (show r.writes.length ≤ _; omega)
    · split
      · rw [lay_len]; omega
      · omega
  split
  · refine h.set hi ?_ ?_ _ _ (Nat.le_add_right _ _)
    · show r.reads.length ≤ _; omega
    · show r.writes.length ≤ _; omega
  · exact h'
theorem Cnt10.begin (h : Cnt10 R a q d X) (hd : o.do_ = 0) : Cnt10 R (a + 1) q d (doP c rows X o mo).2 := by
  unfold doP
  rw [if_pos hd]
  refine ⟨?_, ?_, ?_, h.v⟩
  · simp only
    split
    · rw [List.length_append]; have := h.n; simp; omega
    · have := h.n; omega
  · simp only
    split
    · have := h.r; simp; omega
    · exact h.r
  · simp only
    split
    · intro u hu
      rcases List.mem_append.1 hu with hu | hu
      · exact h.w u hu
      · rw [List.mem_singleton.1 hu]; exact Nat.zero_le _
    · exact h.w
theorem Cnt10.all (h : Cnt10 R a q d X) (hR : 1 ≤ R) (hrow : rows.length ≤ R) : Cnt10 R (a + 1) (q + 1) (d + 1) (doP c rows X o mo).2 := by
  by_cases hd : o.do_ = 0
  · exact (h.begin hd).mono (Nat.le_refl _) (Nat.le_succ _) (Nat.le_succ _)
  · exact (h.do hR hrow hd).mono (Nat.le_succ _) (Nat.le_refl _) (Nat.le_refl _)
end
end Go.Proofs.YtknppiebncdjmaaGreat

/- Layer 10: do: of nobody; Abort. -/
namespace Go.Proofs.YtknppiebncdjmaaGreat
set_option maxRecDepth 100000
set_option maxRecDepth 100000
open Go.RowKit

section
variable {P : Nat → Prop} {wf w0 w w' : World} {G K : Nat → Prop} {p b : Nat} {V : WdV} {rows : List Lk} {vs : List Ver10} {ms : List RunM} {c : Cp10} {S S' : St10}
/-- A transaction is over. -/
theorem Do10.over (h : Do10 P wf w0 w G K p b V rows vs ms c S) {i g : Nat} {x : RunM} (hi : ms[i]? = some x) (hg : V.la = some ⟨g, 0, none⟩) (mo : Int) :
    DoEx P wf w0 p b rows c S vs ((ms.map (·.r)).set i (overR x.r mo)) ((w.setCell ⟨g, i * 8 + 5, none⟩ (.bool true)).setCell ⟨g, i * 8 + 3, none⟩ (.int .i64 mo)) := by
  have hil := (List.getElem?_eq_some_iff.1 hi).1
  have hgo : g ∈ p :: ownersW V ms := List.mem_cons_of_mem _ ((own_in V ms).2.2.1 g (by rw [hg]; simp [ownA]))
  have d1 := h.d.flag hi hg (k := 5) (x' := { x with r := { x.r with over := true } }) (u := .bool true) (by omega) rfl rfl ⟨rfl, rfl, rfl, rfl, rfl, rfl⟩
  have hi1 : (ms.set i { x with r := { x.r with over := true } })[i]? = some { x with r := { x.r with over := true } } := List.getElem?_set_self hil
  have d2 := d1.flag hi1 hg (k := 3) (x' := { x with r := overR x.r mo }) (u := .int .i64 mo) (by omega) rfl rfl ⟨rfl, rfl, rfl, rfl, rfl, rfl⟩
  rw [List.set_set] at d2
  refine ⟨G, K, V, _, h.own (Out.setCell (F := fun k => k ∈ p :: ownersW V ms) (p := ⟨g, i * 8 + 3, none⟩) (Out.setCell (F := fun k => k ∈ p :: ownersW V ms) (p := ⟨g, i * 8 + 5, none⟩) (Out.refl _ _) (.inl hgo) _) (.inl hgo) _) d2, ?_⟩
  rw [List.map_set]
theorem Do10.mlt (h : Do10 P wf w0 w G K p b V rows vs ms c S) : ∀ k, G k → k < w.heap.size := h.m.lt.1
set_option maxHeartbeats 16000000 in
theorem wDoNone (h : Do10 P wf w0 w G K p b V rows vs ms c S) (hn : ms.length ≤ 1048576) (o : OpX) (ho : o.do_ ≠ 0) (mo : Nat) (hno : ofW (ms.map (·.r)) o.tx = -1) :
    Calls Tryz.prog 22 #[.pointer (some ⟨p, 0, none⟩), .agg #[.int .i64 o.do_, .int .i64 o.tx, .string o.at_.1, .string o.at_.2, .string o.to_, .int .i64 o.last], .int .i64 (mo : Int)] w fun e w' => e = .returned (.int .i64 0) ∧ DoEx P wf w0 p b rows c S vs (ms.map (·.r)) w' := by
  obtain ⟨do_, tx, ⟨tb, ky⟩, to_, last⟩ := o
  dsimp only at ho hno ⊢
  obtain ⟨W, hW⟩ : ∃ W, w.alloc (.cells #[.int .i64 do_, .int .i64 tx, .string tb, .string ky, .string to_, .int .i64 last] 44) = W := ⟨_, rfl⟩
  obtain ⟨hB, o0, o1, -⟩ := op_row ⟨do_, tx, (tb, ky), to_, last⟩ W hW
  dsimp only at o0 o1
  have HW := Lib.hid hW
  have hD := h.bel hB
  have CO := Lib.hid (hD.d.of (by omega) tx)
  rw [hno] at CO
  have HD := Lib.hid hD
  clear h hn hW hB hD hno
  go_enter Tryz.func22, Tryz.ntmps22
  go_upto_region 1 with fail
  rw [HW.out]
  go_wp2_with (go_at_call 26; go_loud (refine CO.out.mono ?_; rintro e w2 ⟨rfl, b2⟩; have D2 := Lib.hid (HD.out.bel b2); clear b2))
  go_ret
  exact ⟨rfl, G, K, V, ms, D2.out, rfl⟩
set_option maxHeartbeats 16000000 in
theorem wDoAbort (h : Do10 P wf w0 w G K p b V rows vs ms c S) (hb : Bd10 S) (hn : ms.length ≤ 1048576) (o : OpX) (ho : o.do_ = 5) (mo : Nat) {i : Nat} {x : RunM} (hi : ms[i]? = some x) (hof : ofW (ms.map (·.r)) o.tx = (i : Int)) (hx : (Lit.int .i64 o.tx).wf = true) :
    Calls Tryz.prog 22 #[.pointer (some ⟨p, 0, none⟩), .agg #[.int .i64 o.do_, .int .i64 o.tx, .string o.at_.1, .string o.at_.2, .string o.to_, .int .i64 o.last], .int .i64 (mo : Int)] w fun e w' => e = .returned (.int .i64 (abort10 S o.tx).1) ∧ DoEx P wf w0 p b rows c (abort10 S o.tx).2 vs ((ms.map (·.r)).set i (overR x.r mo)) w' := by
  obtain ⟨do_, tx, ⟨tb, ky⟩, to_, last⟩ := o
  dsimp only at ho hof hx ⊢
  subst ho
  obtain ⟨W, hW⟩ : ∃ W, w.alloc (.cells #[.int .i64 5, .int .i64 tx, .string tb, .string ky, .string to_, .int .i64 last] 44) = W := ⟨_, rfl⟩
  obtain ⟨hB, o0, o1, -⟩ := op_row ⟨5, tx, (tb, ky), to_, last⟩ W hW
  dsimp only at o0 o1
  have HW := Lib.hid hW
  have hD := h.bel hB
  have CO := Lib.hid (hD.d.of (by omega) tx)
  rw [hof] at CO
  obtain ⟨⟨er, S'⟩, hq⟩ : ∃ q, abort10 S tx = q := ⟨_, rfl⟩
  have CA := Lib.hid (fun (W1 : World) (D : Do10 P wf w0 W1 G K p b V rows vs ms c S) => w10Abort D.m hb hx)
  simp only [hq] at CA
  rw [hq]
  dsimp only
  have HD := Lib.hid hD
  have HI := Lib.hid hi
  have HGW := Lib.hid (fun hg => Nat.lt_irrefl _ (h.mlt w.heap.size hg) : ¬ G w.heap.size)
  have hil := (List.getElem?_eq_some_iff.1 hi).1
  have i1 : (i : Int) < (ms.length : Int) := by omega
  have i1' : (0 : Int) ≤ (i : Int) := by omega
  have i1'' : ¬ (i : Int) < 0 := by omega
  obtain ⟨g, hg, -, -⟩ := hD.d.place hi
  have p3 : ∀ W2, Do10 P wf w0 W2 G K p b V rows vs ms c S → W2.cell? ⟨p, 3, none⟩ = some (.slice (some ⟨g, 0, none⟩) ms.length V.lc) := fun W2 D => by rw [← hg]; exact D.d.cells.2.2.2.1
  have P3 := Lib.hid p3
  have HG := Lib.hid hg
  clear h hb hn hW hB hD hof hq hx hi hil hg p3
  go_enter Tryz.func22, Tryz.ntmps22
  go_upto_region 1 with fail
  rw [HW.out]
  go_upto_region 46 with (go_at_call 26; go_loud (refine CO.out.mono ?_; rintro e w2 ⟨rfl, b2⟩; replace o0 := keep_below o0 b2; replace o1 := keep_below o1 b2; have D2 := Lib.hid (HD.out.bel b2); have q3 := P3.out _ D2.out; have q0 := D2.out.d.cells.1; clear b2))
  have S0 : w2.cell? ⟨p, 0, none⟩ = some (.pointer (some ⟨b, 0, none⟩)) ∧ w2.cell? ⟨w.heap.size, 1, none⟩ = some (.int .i64 tx) := ⟨q0, o1⟩
  clear q3
  go_region_held3 (fun w' => w'.cell? ⟨p, 0, none⟩ = some (.pointer (some ⟨b, 0, none⟩)) ∧ w'.cell? ⟨w.heap.size, 1, none⟩ = some (.int .i64 tx))
    (first | exact S0 | exact SA)
    (first | (go_at_call 17; go_loud (refine (CA.out _ (D2.out.bel (Below.refl _ _).drew)).mono ?_; rintro e w3 ⟨rfl, l3⟩; obtain ⟨G3, K3, d3⟩ := (D2.out.bel (Below.refl _ _).drew).call l3; obtain ⟨-, -, -, -, -, out3⟩ := l3; have r0 := out3.cell (p := ⟨w.heap.size, 0, none⟩) o0 HGW.out; have SA : w3.cell? ⟨p, 0, none⟩ = some (.pointer (some ⟨b, 0, none⟩)) ∧ w3.cell? ⟨w.heap.size, 1, none⟩ = some (.int .i64 tx) := ⟨d3.d.cells.1, out3.cell (p := ⟨w.heap.size, 1, none⟩) o1 HGW.out⟩; have D3 := Lib.hid d3; clear d3 out3)))
  all_goals
    clear S0 o0 o1 q0
    obtain ⟨g', hg', hcell, hfro⟩ := D3.out.d.place HI.out
    obtain rfl : g' = g := by have := HG.out; rw [hg'] at this; simpa using this
    have c5 : w3.cell? ⟨g', i * 8 + 5, none⟩ = some (.bool x.r.over) := hcell 5 _ rfl
    have c3 : w3.cell? ⟨g', i * 8 + 3, none⟩ = some (.int .i64 x.r.ended) := hcell 3 _ rfl
    have f5 : w3.frozen? ⟨g', i * 8 + 5, none⟩ = false := hfro _
    have f3 : w3.frozen? ⟨g', i * 8 + 3, none⟩ = false := hfro _
    clear hcell hfro SA hg'
    by_cases he : er = 0
    · subst he
      go_wp2
      go_ret
      exact ⟨rfl, D3.out.over HI.out HG.out _⟩
    · go_wp2
      go_ret
      exact ⟨rfl, D3.out.over HI.out HG.out _⟩
end
end Go.Proofs.YtknppiebncdjmaaGreat

/- Layer 10: do: Read. -/
namespace Go.Proofs.YtknppiebncdjmaaGreat
set_option maxRecDepth 100000
set_option maxRecDepth 100000
open Go.RowKit

section
variable {P : Nat → Prop} {wf w0 w w' : World} {G K : Nat → Prop} {p b : Nat} {V : WdV} {rows : List Lk} {vs : List Ver10} {ms : List RunM} {c : Cp10} {S S' : St10}
set_option maxHeartbeats 16000000 in
theorem wDoRead (h : Do10 P wf w0 w G K p b V rows vs ms c S) (hb : Bd10 S) (hn : ms.length ≤ 1048576) (o : OpX) (ho : o.do_ = 1) (mo : Nat) {i : Nat} {x : RunM} (hi : ms[i]? = some x) (hof : ofW (ms.map (·.r)) o.tx = (i : Int)) (hx : (Lit.int .i64 o.tx).wf = true) (hl : Sz2 o.at_) (hn2 : vs.length ≤ 1599289640354) (hn3 : x.r.writes.length ≤ 1599289640354) (hn4 : x.r.reads.length ≤ 3000000000000) :
    Calls Tryz.prog 22 #[.pointer (some ⟨p, 0, none⟩), .agg #[.int .i64 o.do_, .int .i64 o.tx, .string o.at_.1, .string o.at_.2, .string o.to_, .int .i64 o.last], .int .i64 (mo : Int)] w fun e w' => e = .returned (.int .i64 (read10 c S o.tx o.at_).1) ∧ DoEx P wf w0 p b rows c (read10 c S o.tx o.at_).2 vs ((ms.map (·.r)).set i (if (read10 c S o.tx o.at_).1 = 0 then seesP vs x.r o.at_ else overR x.r mo)) w' := by
  obtain ⟨do_, tx, ⟨tb, ky⟩, to_, last⟩ := o
  dsimp only at ho hof hx hl ⊢
  subst ho
  obtain ⟨W, hW⟩ : ∃ W, w.alloc (.cells #[.int .i64 1, .int .i64 tx, .string tb, .string ky, .string to_, .int .i64 last] 44) = W := ⟨_, rfl⟩
  obtain ⟨hB, o0, o1, o2, o3, -⟩ := op_row ⟨1, tx, (tb, ky), to_, last⟩ W hW
  dsimp only at o0 o1 o2 o3
  have HW := Lib.hid hW
  have hD := h.bel hB
  have CO := Lib.hid (hD.d.of (by omega) tx)
  rw [hof] at CO
  obtain ⟨⟨er, S'⟩, hq⟩ : ∃ q, read10 c S tx (tb, ky) = q := ⟨_, rfl⟩
  have CA := Lib.hid (fun (W1 : World) (D : Do10 P wf w0 W1 G K p b V rows vs ms c S) => w10Read D.m hb hx hl)
  simp only [hq] at CA
  rw [hq]
  dsimp only
  have HOW := Lib.hid (fun hg => Nat.lt_irrefl _ (h.d.lt w.heap.size hg).2 : ¬ w.heap.size ∈ p :: ownersW V ms)
  have CS := Lib.hid (fun (W1 : World) (G1 K1 : Nat → Prop) (D : Do10 P wf w0 W1 G1 K1 p b V rows vs ms c S') => wSees D.d D.glt D.z.size hi hn hn2 hn3 hn4 (tb, ky))
  unfold lkV at CA
  dsimp only at CA CS
  have HD := Lib.hid hD
  have HI := Lib.hid hi
  have HGW := Lib.hid (fun hg => Nat.lt_irrefl _ (h.mlt w.heap.size hg) : ¬ G w.heap.size)
  have hil := (List.getElem?_eq_some_iff.1 hi).1
  have i1 : (i : Int) < (ms.length : Int) := by omega
  have i1' : (0 : Int) ≤ (i : Int) := by omega
  have i1'' : ¬ (i : Int) < 0 := by omega
  obtain ⟨g, hg, -, -⟩ := hD.d.place hi
  have p3 : ∀ W2, Do10 P wf w0 W2 G K p b V rows vs ms c S → W2.cell? ⟨p, 3, none⟩ = some (.slice (some ⟨g, 0, none⟩) ms.length V.lc) := fun W2 D => by rw [← hg]; exact D.d.cells.2.2.2.1
  have P3 := Lib.hid p3
  have HG := Lib.hid hg
  clear h hb hn hW hB hD hof hq hx hi hil hg p3 hl hn2 hn3 hn4
  go_enter Tryz.func22, Tryz.ntmps22
  go_upto_region 1 with fail
  rw [HW.out]
  go_upto_region 15 with (go_at_call 26; go_loud (refine CO.out.mono ?_; rintro e w2 ⟨rfl, b2⟩; replace o0 := keep_below o0 b2; replace o1 := keep_below o1 b2; replace o2 := keep_below o2 b2; replace o3 := keep_below o3 b2; have D2 := Lib.hid (HD.out.bel b2); have q3 := P3.out _ D2.out; have q0 := D2.out.d.cells.1; clear b2))
  have S0 : w2.cell? ⟨p, 0, none⟩ = some (.pointer (some ⟨b, 0, none⟩)) ∧ w2.cell? ⟨w.heap.size, 1, none⟩ = some (.int .i64 tx) ∧ w2.cell? ⟨w.heap.size, 2, none⟩ = some (.string tb) ∧ w2.cell? ⟨w.heap.size, 3, none⟩ = some (.string ky) := ⟨q0, o1, o2, o3⟩
  clear q3
  go_region_held3 (fun w' => w'.cell? ⟨p, 0, none⟩ = some (.pointer (some ⟨b, 0, none⟩)) ∧ w'.cell? ⟨w.heap.size, 1, none⟩ = some (.int .i64 tx) ∧ w'.cell? ⟨w.heap.size, 2, none⟩ = some (.string tb) ∧ w'.cell? ⟨w.heap.size, 3, none⟩ = some (.string ky))
    (first | exact S0 | exact SA)
    (first | (go_at_call 31; go_loud (refine (CA.out _ (D2.out.bel (Below.refl _ _).drew)).mono ?_; rintro e w3 ⟨rfl, l3⟩; obtain ⟨G3, K3, d3⟩ := (D2.out.bel (Below.refl _ _).drew).call l3; obtain ⟨-, -, -, -, -, out3⟩ := l3; have r0 := out3.cell (p := ⟨w.heap.size, 0, none⟩) o0 HGW.out; have SA : w3.cell? ⟨p, 0, none⟩ = some (.pointer (some ⟨b, 0, none⟩)) ∧ w3.cell? ⟨w.heap.size, 1, none⟩ = some (.int .i64 tx) ∧ w3.cell? ⟨w.heap.size, 2, none⟩ = some (.string tb) ∧ w3.cell? ⟨w.heap.size, 3, none⟩ = some (.string ky) := ⟨d3.d.cells.1, out3.cell (p := ⟨w.heap.size, 1, none⟩) o1 HGW.out, out3.cell (p := ⟨w.heap.size, 2, none⟩) o2 HGW.out, out3.cell (p := ⟨w.heap.size, 3, none⟩) o3 HGW.out⟩; have D3 := Lib.hid d3; clear d3 out3)))
  all_goals
    obtain ⟨-, -, r2, r3⟩ := SA
    clear S0 o0 o1 o2 o3 q0
    obtain ⟨g', hg', hcell, hfro⟩ := D3.out.d.place HI.out
    obtain rfl : g' = g := by have := HG.out; rw [hg'] at this; simpa using this
    have c5 : w3.cell? ⟨g', i * 8 + 5, none⟩ = some (.bool x.r.over) := hcell 5 _ rfl
    have c3 : w3.cell? ⟨g', i * 8 + 3, none⟩ = some (.int .i64 x.r.ended) := hcell 3 _ rfl
    have f5 : w3.frozen? ⟨g', i * 8 + 5, none⟩ = false := hfro _
    have f3 : w3.frozen? ⟨g', i * 8 + 3, none⟩ = false := hfro _
    clear hcell hfro hg'
    by_cases he : er = 0
    · subst he
      clear c5 c3 f5 f3
      go_wp2_with (go_at_call 67; go_loud (refine (CS.out _ _ _ D3.out).mono ?_; rintro e w4 ⟨⟨u4, rfl⟩, x4, hx4, d4, out4⟩; replace r0 := out4.cell (p := ⟨w.heap.size, 0, none⟩) r0 HOW.out; have D4 := Lib.hid (D3.out.own out4 d4); have X4 := Lib.hid hx4; clear d4 out4 hx4))
      go_ret
      exact ⟨rfl, G3, K3, V, _, D4.out, by rw [List.map_set, X4.out]⟩
    · go_wp2
      go_ret
      exact ⟨rfl, D3.out.over HI.out HG.out _⟩
end
end Go.Proofs.YtknppiebncdjmaaGreat
