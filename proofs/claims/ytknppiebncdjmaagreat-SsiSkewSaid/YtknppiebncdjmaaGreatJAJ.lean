import Derived.Test.YtknppiebncdjmaaGreatJAI
set_option linter.unusedVariables false
namespace Go.Proofs.YtknppiebncdjmaaGreat
set_option maxRecDepth 100000

theorem mod_get {α : Type} (l : List α) (k : Nat) (f : α → α) (o : Nat) : (l.modify k f)[o]? = if k = o then (l[o]?).map f else l[o]? := by
  rw [List.getElem?_modify]
  by_cases e : k = o <;> simp [e]
structure LayIs (vs cur : List Ver10) (N i : Int) (ws : List Lk) : Prop where
  len : vs.length ≤ cur.length
  old : ∀ (k : Nat) v, vs[k]? = some v → ∃ u, cur[k]? = some u ∧ u.at_ = v.at_ ∧ u.num = v.num ∧ u.by_ = v.by_
  new : ∀ (k : Nat) u, cur[k]? = some u → vs.length ≤ k → u.num = N ∧ u.by_ = i ∧ u.at_ ∈ ws
  all_ : ∀ l ∈ ws, ∃ u ∈ cur, u.at_ = l ∧ u.by_ = i
  vn : ∀ (k : Nat) v, cur[k]? = some v → (v.next = -1 ∧ ∀ (m : Nat) u, k < m → cur[m]? = some u → u.at_ ≠ v.at_) ∨ ∃ (m : Nat) (u : Ver10), v.next = (m : Int) ∧ k < m ∧ cur[m]? = some u ∧ u.at_ = v.at_
  vi : ∀ (k m : Nat) v u, cur[k]? = some v → cur[m]? = some u → k < m → v.at_ = u.at_ → v.num < u.num
theorem LayIs.back {vs cur : List Ver10} {N i : Int} {ws : List Lk} (h : LayIs vs cur N i ws) {k : Nat} {u : Ver10} (hu : cur[k]? = some u) (hk : k < vs.length) : ∃ v, vs[k]? = some v ∧ u.at_ = v.at_ ∧ u.num = v.num ∧ u.by_ = v.by_ := by
  obtain ⟨u2, h1, h2⟩ := h.old k _ (List.getElem?_eq_getElem hk)
  rw [hu] at h1
  cases h1
  exact ⟨_, List.getElem?_eq_getElem hk, h2⟩
theorem LayIs.le {vs cur : List Ver10} {N i : Int} {ws : List Lk} (h : LayIs vs cur N i ws) (hN : ∀ v ∈ vs, v.num ≤ N) : ∀ u ∈ cur, u.num ≤ N := fun u hu => by
  obtain ⟨k, hk⟩ := List.mem_iff_getElem?.1 hu
  by_cases hl : k < vs.length
  · obtain ⟨v, hv, -, e, -⟩ := h.back hk hl
    rw [e]; exact hN v (List.mem_of_getElem? hv)
  · rw [(h.new k u hk (by omega)).1]; exact Int.le_refl _
theorem LayIs.step {vs cur : List Ver10} {N i : Int} {ws : List Lk} (h : LayIs vs cur N i ws) (hN : ∀ v ∈ vs, v.num < N) {l : Lk} (hl : l ∉ ws) : LayIs vs (layV cur N i l) N i (ws ++ [l]) := by
  have hle := h.le fun v hv => Int.le_of_lt (hN v hv)
  obtain ⟨p, hp⟩ : ∃ p, newestP cur l N = p := ⟨_, rfl⟩
  have spec := newest_is cur l N
  rw [hp] at spec
  obtain ⟨mid, hmid⟩ : ∃ mid, (if 0 ≤ p then cur.modify p.toNat fun v => { v with next := (cur.length : Int) } else cur) = mid := ⟨_, rfl⟩
  have hml : mid.length = cur.length := by rw [← hmid]; split <;> simp
  have hlay : layV cur N i l = mid ++ [⟨l, N, i, -1⟩] := by unfold layV; rw [hp, hmid]
  have hget : ∀ (k : Nat), mid[k]? = (cur[k]?).map fun v => if p = (k : Int) then { v with next := (cur.length : Int) } else v := fun k => by
    rw [← hmid]
    split
    · rename_i h0
      rw [mod_get]
      by_cases e : p.toNat = k
      · rw [if_pos e]
        have : p = (k : Int) := by omega
        simp [this]
      · rw [if_neg e]
        have : ¬ p = (k : Int) := by omega
        simp [this]
    · rename_i h0
      have : ¬ p = (k : Int) := by omega
      simp [this]
  rw [hlay]
  have fwd : ∀ {k : Nat} {v : Ver10}, cur[k]? = some v → ∃ u, (mid ++ [(⟨l, N, i, -1⟩ : Ver10)])[k]? = some u ∧ u.at_ = v.at_ ∧ u.num = v.num ∧ u.by_ = v.by_ ∧ u.next = if p = (k : Int) then (cur.length : Int) else v.next := fun {k v} hv => by
    have hkl := (List.getElem?_eq_some_iff.1 hv).1
    refine ⟨if p = (k : Int) then { v with next := (cur.length : Int) } else v, ?_, ?_⟩
    · rw [List.getElem?_append_left (by omega), hget, hv]; rfl
    · split <;> exact ⟨rfl, rfl, rfl, rfl⟩
  have bwd : ∀ {k : Nat} {u : Ver10}, (mid ++ [(⟨l, N, i, -1⟩ : Ver10)])[k]? = some u → (k < cur.length ∧ ∃ v, cur[k]? = some v ∧ u.at_ = v.at_ ∧ u.num = v.num ∧ u.by_ = v.by_ ∧ u.next = if p = (k : Int) then (cur.length : Int) else v.next) ∨ (k = cur.length ∧ u = ⟨l, N, i, -1⟩) := fun {k u} hu => by
    by_cases hkl : k < cur.length
    · obtain ⟨u2, h1, h2⟩ := fwd (List.getElem?_eq_getElem hkl)
      rw [hu] at h1
      cases h1
      exact .inl ⟨hkl, _, List.getElem?_eq_getElem hkl, h2⟩
    · rw [List.getElem?_append_right (by omega)] at hu
      have hk1 : k - mid.length < 1 := by have := (List.getElem?_eq_some_iff.1 hu).1; simpa using this
      have hk0 : k - mid.length = 0 := by omega
      rw [hk0] at hu
      exact .inr ⟨by omega, by simpa using hu.symm⟩
  have lastg : (mid ++ [(⟨l, N, i, -1⟩ : Ver10)])[cur.length]? = some ⟨l, N, i, -1⟩ := by rw [← hml, List.getElem?_append_right (Nat.le_refl _), Nat.sub_self]; rfl
  refine ⟨by simp; have := h.len; omega, fun k v hv => ?_, fun k u hu hk => ?_, fun l' hl' => ?_, fun k v hv => ?_, fun k m v u hv hu hkm e => ?_⟩
  · obtain ⟨u, h1, h2, h3, h4⟩ := h.old k v hv
    obtain ⟨u2, k1, k2, k3, k4, -⟩ := fwd h1
    exact ⟨u2, k1, k2.trans h2, k3.trans h3, k4.trans h4⟩
  · rcases bwd hu with ⟨hkl, v, h1, h2, h3, h4, -⟩ | ⟨-, rfl⟩
    · obtain ⟨k1, k2, k3⟩ := h.new k v h1 hk
      exact ⟨h3.trans k1, h4.trans k2, List.mem_append.2 (.inl (h2 ▸ k3))⟩
    · exact ⟨rfl, rfl, by simp⟩
  · rcases List.mem_append.1 hl' with hl' | hl'
    · obtain ⟨u, hu, e1, e2⟩ := h.all_ l' hl'
      obtain ⟨k, hk⟩ := List.mem_iff_getElem?.1 hu
      obtain ⟨u2, k1, k2, -, k4, -⟩ := fwd hk
      exact ⟨u2, List.mem_of_getElem? k1, k2.trans e1, k4.trans e2⟩
    · rw [List.mem_singleton.1 hl']
      exact ⟨_, List.mem_of_getElem? lastg, rfl, rfl⟩
  · rcases bwd hv with ⟨hkl, v0, h1, h2, h3, h4, h5⟩ | ⟨rfl, rfl⟩
    · by_cases hpk : p = (k : Int)
      · rw [if_pos hpk] at h5
        refine .inr ⟨cur.length, _, h5, hkl, lastg, ?_⟩
        rcases spec with ⟨e, -⟩ | ⟨k2, v2, e, k3, ⟨k4, -⟩, -⟩
        · omega
        · have : k2 = k := by omega
          subst this
          rw [h1] at k3; cases k3
          rw [h2, k4]
      · rw [if_neg hpk] at h5
        rcases h.vn k v0 h1 with ⟨e, hno⟩ | ⟨m, u, e, hkm, hu, eu⟩
        · refine .inl ⟨h5.trans e, fun m u hkm hu => ?_⟩
          rcases bwd hu with ⟨hml2, u0, k1, k2, -⟩ | ⟨rfl, rfl⟩
          · rw [k2, h2]; exact hno m u0 hkm k1
          · rw [h2]
            intro e2
            simp only at e2
            rcases spec with ⟨-, hn⟩ | ⟨k2, v2, e3, k3, ⟨k4, -⟩, k5⟩
            · exact hn k v0 h1 ⟨e2.symm, hle v0 (List.mem_of_getElem? h1)⟩
            · have := k5 k v0 h1 ⟨e2.symm, hle v0 (List.mem_of_getElem? h1)⟩
              have hlt : k < k2 := by omega
              exact hno k2 v2 hlt k3 (k4.trans e2)
        · obtain ⟨u2, k1, k2, -⟩ := fwd hu
          exact .inr ⟨m, u2, h5.trans e, hkm, k1, by rw [k2, h2]; exact eu⟩
    · refine .inl ⟨rfl, fun m u hkm hu => ?_⟩
      rcases bwd hu with ⟨hml2, -⟩ | ⟨e, -⟩
      · omega
      · omega
  · rcases bwd hu with ⟨hml2, u0, k1, k2, k3, -⟩ | ⟨rfl, rfl⟩
    · rcases bwd hv with ⟨-, v0, j1, j2, j3, -⟩ | ⟨e2, -⟩
      · rw [j3, k3]
        exact h.vi k m v0 u0 j1 k1 hkm (by rw [← j2, ← k2]; exact e)
      · omega
    · rcases bwd hv with ⟨-, v0, j1, j2, j3, -⟩ | ⟨e2, -⟩
      · rw [j3]
        by_cases hkl : k < vs.length
        · obtain ⟨w, w1, -, w2, -⟩ := h.back j1 hkl
          rw [w2]; exact hN w (List.mem_of_getElem? w1)
        · have := (h.new k v0 j1 (by omega)).2.2
          rw [← j2, e] at this
          exact absurd this hl
      · omega
theorem lay_all {vs : List Ver10} {N i : Int} (hN : ∀ v ∈ vs, v.num < N) : ∀ (ws done : List Lk) (cur : List Ver10), (done ++ ws).Nodup → LayIs vs cur N i done → LayIs vs (ws.foldl (layV · N i ·) cur) N i (done ++ ws)
  | [], done, cur, _, h => by rw [List.append_nil]; exact h
  | l :: ws, done, cur, hn, h => by
    rw [List.foldl_cons]
    have h1 : l ∉ done := fun hl => by
      have := (List.nodup_append.1 hn).2.2 l hl l (List.mem_cons_self ..)
      exact this rfl
    have := lay_all hN ws (done ++ [l]) (layV cur N i l) (by rw [List.append_assoc]; exact hn) (h.step hN h1)
    rw [List.append_assoc] at this
    exact this
theorem LayIs.newest {vs cur : List Ver10} {N i : Int} {ws : List Lk} (h : LayIs vs cur N i ws) {l : Lk} {up : Int} (hup : up < N) : newestP cur l up = newestP vs l up := by
  rcases newest_is vs l up with ⟨e, hn⟩ | ⟨k, v, e, hv, hok, hmax⟩
  · rw [e]
    refine newest_none fun u hu hok => ?_
    obtain ⟨k, hk⟩ := List.mem_iff_getElem?.1 hu
    by_cases hl : k < vs.length
    · obtain ⟨v, hv, e1, e2, -⟩ := h.back hk hl
      exact hn k v hv ⟨e1 ▸ hok.1, e2 ▸ hok.2⟩
    · have := (h.new k u hk (by omega)).1
      have := hok.2
      omega
  · obtain ⟨u, hu, e1, e2, -⟩ := h.old k v hv
    rw [e]
    refine newest_unique hu ⟨e1.trans hok.1, by rw [e2]; exact hok.2⟩ fun k' u' hk' hok' => ?_
    by_cases hl : k' < vs.length
    · obtain ⟨v', hv', e3, e4, -⟩ := h.back hk' hl
      exact hmax k' v' hv' ⟨e3 ▸ hok'.1, e4 ▸ hok'.2⟩
    · have := (h.new k' u' hk' (by omega)).1
      have := hok'.2
      omega
theorem once_inj {H : List Hd} (h : Once H) {l : Lk} {x y : Int} (hx : (l, x) ∈ H) (hy : (l, y) ∈ H) : x = y := by
  have h1 := (holder_some h).2 hx
  have h2 := (holder_some h).2 hy
  rw [h1] at h2
  exact Option.some.inj h2
def comS (S : St10) (k : Nat) (t : Tx10) (wr : List Lk) (keep : Bool) (last : Int) : St10 :=
  sweepP (if keep = true then { S with last := last, mom := S.mom + 1, H := releaseP S.H t.num, list := S.list.modify k fun t => { t with ended := S.mom + 1, wrote := wr } }
    else { S with last := last, mom := S.mom + 1, H := releaseP S.H t.num, list := (S.list.modify k fun t => { t with ended := S.mom + 1, wrote := wr }).eraseIdx k, L := dropN S.L t.num })
structure ComIs (S S' : St10) (t t' : Tx10) (keep : Bool) (last : Int) : Prop where
  last : S'.last = last
  next : S'.next = S.next
  mom : S'.mom = S.mom + 1
  H : ∀ l x, (l, x) ∈ S'.H ↔ (l, x) ∈ S.H ∧ x ≠ t.num
  once : Once S.H → Once S'.H
  nd : (S'.list.map (·.num)).Nodup
  mem : ∀ u, u ∈ S'.list ↔ ((u ∈ S.list ∧ u.num ≠ t.num) ∨ (keep = true ∧ u = t')) ∧ (u.ended = 0 ∨ ∃ v ∈ S.list, v.num ≠ t.num ∧ v.ended = 0 ∧ v.begun < u.ended)
  L : ∀ n, n ∈ S'.L ↔ n ∈ S.L ∧ (keep = false → n.1 ≠ t.num) ∧ ∀ u, ((u ∈ S.list ∧ u.num ≠ t.num) ∨ (keep = true ∧ u = t')) → u ∉ S'.list → n.1 ≠ u.num
  keep : ∀ most, Inv9 most S.L → Inv9 most S'.L
theorem modify_mem {l : List Tx10} (hn : (l.map (·.num)).Nodup) {k : Nat} {t : Tx10} (hk : l[k]? = some t) {f : Tx10 → Tx10} (u : Tx10) : u ∈ l.modify k f ↔ (u ∈ l ∧ u.num ≠ t.num) ∨ u = f t := by
  constructor
  · intro hu
    obtain ⟨o, ho⟩ := List.mem_iff_getElem?.1 hu
    rw [mod_get] at ho
    by_cases e : k = o
    · subst e
      rw [if_pos rfl, hk] at ho
      exact .inr (by simpa using ho.symm)
    · rw [if_neg e] at ho
      exact .inl ⟨List.mem_of_getElem? ho, fun e2 => e (idx_inj hn hk ho e2.symm)⟩
  · rintro (⟨hu, hne⟩ | rfl)
    · obtain ⟨o, ho⟩ := List.mem_iff_getElem?.1 hu
      refine List.mem_of_getElem? (i := o) ?_
      have : k ≠ o := fun e => by subst e; rw [hk] at ho; cases ho; exact hne rfl
      rw [mod_get, if_neg this, ho]
    · refine List.mem_of_getElem? (i := k) ?_
      rw [mod_get, if_pos rfl, hk]; rfl
theorem erase_modify_mem {l : List Tx10} (hn : (l.map (·.num)).Nodup) {k : Nat} {t : Tx10} (hk : l[k]? = some t) {f : Tx10 → Tx10} (hf : (f t).num = t.num) (u : Tx10) : u ∈ (l.modify k f).eraseIdx k ↔ u ∈ l ∧ u.num ≠ t.num := by
  rw [List.mem_eraseIdx_iff_getElem?]
  constructor
  · rintro ⟨o, hne, ho⟩
    rw [mod_get, if_neg fun e => hne e.symm] at ho
    exact ⟨List.mem_of_getElem? ho, fun e2 => hne (idx_inj hn ho hk e2)⟩
  · rintro ⟨hu, hne⟩
    obtain ⟨o, ho⟩ := List.mem_iff_getElem?.1 hu
    have : k ≠ o := fun e => by subst e; rw [hk] at ho; cases ho; exact hne rfl
    exact ⟨o, fun e => this e.symm, by rw [mod_get, if_neg this, ho]⟩
theorem modify_nums {l : List Tx10} {k : Nat} {f : Tx10 → Tx10} (hf : ∀ t, (f t).num = t.num) : (l.modify k f).map (·.num) = l.map (·.num) := by
  refine List.ext_getElem? fun o => ?_
  rw [List.getElem?_map, List.getElem?_map, mod_get]
  cases l[o]? with
  | none => by_cases e : k = o <;> simp [e]
  | some t => by_cases e : k = o <;> simp [e, hf]
theorem com_is {S : St10} (hp : ∀ t ∈ S.list, 1 ≤ t.num) (hn : (S.list.map (·.num)).Nodup) (hm : 0 ≤ S.mom) {k : Nat} {t : Tx10} (hk : S.list[k]? = some t) (wr : List Lk) (keep : Bool) (last : Int) :
    ComIs S (comS S k t wr keep last) t { t with ended := S.mom + 1, wrote := wr } keep last := by
  have ht := hp t (List.mem_of_getElem? hk)
  unfold comS
  cases keep
  · rw [if_neg (by simp)]
    have he := erase_modify_mem hn hk (f := fun t => { t with ended := S.mom + 1, wrote := wr }) rfl
    have h := sweep_is (S := { S with last := last, mom := S.mom + 1, H := releaseP S.H t.num, list := (S.list.modify k fun t => { t with ended := S.mom + 1, wrote := wr }).eraseIdx k, L := dropN S.L t.num }) fun u hu => hp u ((he u).1 hu).1
    refine ⟨h.last, h.next, h.mom, fun l x => by rw [h.H]; exact release_mem, fun ho => by rw [h.H]; exact ho.release _, ?_, fun u => ?_, fun n => ?_, fun most hi => h.keep most (dropN_keeps hi _)⟩
    · refine List.Nodup.sublist ((h.sub.trans (List.eraseIdx_sublist ..)).map _) ?_
      rw [modify_nums (f := fun t => { t with ended := S.mom + 1, wrote := wr }) (fun _ => rfl)]; exact hn
    · rw [h.mem]
      simp only [he, Bool.false_eq_true, false_and, or_false]
      refine and_congr_right fun _ => or_congr Iff.rfl ⟨?_, ?_⟩
      · rintro ⟨v, ⟨h4, h5⟩, h6⟩; exact ⟨v, h4, h5, h6⟩
      · rintro ⟨v, h4, h5, h6⟩; exact ⟨v, ⟨h4, h5⟩, h6⟩
    · rw [h.L]
      simp only [he, dropN_mem ht, and_assoc, true_implies, Bool.false_eq_true, false_and, or_false]
  · rw [if_pos rfl]
    have he := modify_mem hn hk (f := fun t => { t with ended := S.mom + 1, wrote := wr })
    have h := sweep_is (S := { S with last := last, mom := S.mom + 1, H := releaseP S.H t.num, list := S.list.modify k fun t => { t with ended := S.mom + 1, wrote := wr } }) fun u hu => by
      rcases (he u).1 hu with ⟨h1, -⟩ | rfl
      · exact hp u h1
      · exact ht
    refine ⟨h.last, h.next, h.mom, fun l x => by rw [h.H]; exact release_mem, fun ho => by rw [h.H]; exact ho.release _, ?_, fun u => ?_, fun n => ?_, fun most hi => h.keep most hi⟩
    · refine List.Nodup.sublist (h.sub.map _) ?_
      rw [modify_nums (f := fun t => { t with ended := S.mom + 1, wrote := wr }) (fun _ => rfl)]; exact hn
    · rw [h.mem]
      simp only [he, true_and]
      refine and_congr_right fun _ => or_congr Iff.rfl ⟨?_, ?_⟩
      · rintro ⟨v, h4 | rfl, h5, h6⟩
        · exact ⟨v, h4.1, h4.2, h5, h6⟩
        · simp only at h5; omega
      · rintro ⟨v, h4, h5, h6⟩; exact ⟨v, .inl ⟨h4, h5⟩, h6⟩
    · rw [h.L]
      simp only [he, true_and, Bool.true_eq_false, false_implies]
section
variable {c : Cp10} {S : St10} {vs cur : List Ver10} {rs : List Run10} {now : Int}
theorem Inv10.commit (h : Inv10 c S vs rs now) {i k : Nat} {r : Run10} {t : Tx10} (hi : rs[i]? = some r) (hr : r.over = false) (hk : S.list[k]? = some t) (ht : t.num = (i : Int) + 1) (wr : List Lk) (hwr : ∀ l, l ∈ wr ↔ l ∈ r.writes) (keep : Bool) (last : Int)
    (hlast : last = if r.writes = [] then S.last else S.last + 1) (hkeep : ∀ (a : Nat) ra, a ≠ i → rs[a]? = some ra → ra.over = false → (r.writes ≠ [] ∨ r.reads ≠ []) → keep = true)
    (hnb : ¬ (t.fin = true ∧ t.fout = true)) (hlay : LayIs vs cur last (i : Int) r.writes) (hnil : r.writes = [] → cur = vs) :
    Inv10 c (comS S k t wr keep last) cur (rs.set i { r with over := true, com := true, ended := now }) (now + 1) := by
  have A := com_is h.pos h.nd h.mm hk wr keep last
  obtain ⟨S', hS'⟩ : ∃ S', comS S k t wr keep last = S' := ⟨_, rfl⟩
  rw [hS'] at A ⊢
  obtain ⟨T, hT⟩ : ∃ T, ({ t with ended := S.mom + 1, wrote := wr } : Tx10) = T := ⟨_, rfl⟩
  rw [hT] at A
  have n1 : T.num = (i : Int) + 1 := by rw [← hT]; exact ht
  have n2 : T.ended = S.mom + 1 := by rw [← hT]
  have n3 : T.begun = t.begun := by rw [← hT]
  have n4 : T.wrote = wr := by rw [← hT]
  have n5 : T.snap = t.snap := by rw [← hT]
  have n6 : T.fin = t.fin ∧ T.fout = t.fout := by rw [← hT]; exact ⟨rfl, rfl⟩
  have Am := A.mem
  have AH := A.H
  have AL := A.L
  rw [ht] at Am AH AL
  clear hT
  have htm := List.mem_of_getElem? hk
  have hlc := h.lc
  have hll : S.last ≤ last ∧ last ≤ S.last + 1 := by rw [hlast]; split <;> omega
  have hrc : r.com = false := by
    cases e : r.com with
    | false => rfl
    | true => have := (h.la i r hi).2.2.1 e; rw [hr] at this; cases this
  have old : ∀ {j : Nat} {q : Run10}, (rs.set i { r with over := true, com := true, ended := now })[j]? = some q → (j = i ∧ q = { r with over := true, com := true, ended := now }) ∨ (j ≠ i ∧ rs[j]? = some q) := fun hq => set_get hq
  have alive : ∀ {j : Nat} {q : Run10}, (rs.set i { r with over := true, com := true, ended := now })[j]? = some q → q.over = false → j ≠ i ∧ rs[j]? = some q := fun hq ho => by
    rcases old hq with ⟨-, rfl⟩ | h1
    · cases ho
    · exact h1
  have same : ∀ {j : Nat} {q : Run10}, (rs.set i { r with over := true, com := true, ended := now })[j]? = some q → ∃ q0, rs[j]? = some q0 ∧ q.tx = q0.tx ∧ q.snap = q0.snap ∧ q.begun = q0.begun ∧ q.reads = q0.reads ∧ q.writes = q0.writes := fun {j q} hq => by
    rcases old hq with ⟨rfl, rfl⟩ | ⟨-, h1⟩
    · exact ⟨r, hi, rfl, rfl, rfl, rfl, rfl⟩
    · exact ⟨q, h1, rfl, rfl, rfl, rfl, rfl⟩
  have put : ∀ {j : Nat} {q : Run10}, j ≠ i → rs[j]? = some q → (rs.set i { r with over := true, com := true, ended := now })[j]? = some q := fun hji hq => by rw [set_other hji]; exact hq
  have self := set_self (r' := { r with over := true, com := true, ended := now }) hi
  have ht0 : t.ended = 0 := by
    obtain ⟨u, hu, e, e0⟩ := h.al i r hi hr
    rw [← nums_inj h.nd hu htm (e.trans ht.symm)]; exact e0
  have hbe : ∀ u ∈ S.list, u.begun < S.mom + 1 := fun u hu => by
    obtain ⟨j, q, -, -, -, -, h1, -⟩ := h.tr u hu
    omega
  -- the new versions
  have fresh : ∀ (k : Nat) u, cur[k]? = some u → vs.length ≤ k → u.num = S.last + 1 ∧ last = S.last + 1 ∧ u.by_ = (i : Int) ∧ u.at_ ∈ r.writes := fun k u hu hkl => by
    obtain ⟨h1, h2, h3⟩ := hlay.new k u hu hkl
    have hne : ¬ r.writes = [] := fun e => by rw [e] at h3; cases h3
    rw [if_neg hne] at hlast
    exact ⟨h1.trans hlast, hlast, h2, h3⟩
  refine { nx := ?_, tx := ?_, nd := A.nd, tr := ?_, al := ?_, mo := ?_, mm := ?_, on := A.once h.on, hs := ?_, n9 := A.keep _ h.n9, no := ?_, nr := ?_, kp := ?_, la := ?_, ne := ?_, lc := ?_, ve := ?_, vw := ?_, vi := hlay.vi, vn := hlay.vn, fw := ?_, ww := ?_, rd := ?_, fl := ?_ }
  · rw [A.next, List.length_set]; exact h.nx
  · intro j q hq
    obtain ⟨q0, h1, h2, -⟩ := same hq
    rw [h2]; exact h.tx j q0 h1
  · intro u hu
    rcases ((Am u).1 hu).1 with ⟨h1, h2⟩ | ⟨-, rfl⟩
    · obtain ⟨j, q, hj, e, h3, h4, h5, h6, h7⟩ := h.tr u h1
      have hji : j ≠ i := fun e2 => h2 (by rw [e, e2])
      refine ⟨j, q, put hji hj, e, h3, h4, ?_, ?_, h7⟩
      · rw [A.mom]; omega
      · rw [A.mom]; omega
    · obtain ⟨j, q, hj, e, h3, h4, h5, h6, h7⟩ := h.tr t htm
      have hji : j = i := num_inj (e.symm.trans ht)
      subst hji
      rw [hi] at hj
      cases hj
      have := h.mm
      refine ⟨j, _, self, n1, n5.trans h3, by omega, by rw [A.mom]; omega, by rw [A.mom]; omega, fun e0 => ?_, fun _ => ⟨rfl, by rw [n4]; exact hwr⟩⟩
      omega
  · intro j q hq ho
    obtain ⟨hji, hj⟩ := alive hq ho
    obtain ⟨u, hu, e, e0⟩ := h.al j q hj ho
    exact ⟨u, (Am u).2 ⟨.inl ⟨hu, fun e2 => hji (num_inj (e.symm.trans e2))⟩, .inl e0⟩, e, e0⟩
  · intro u hu v hv a b ra rb ha hb ea eb e0
    have hb0 : v.begun ≤ S.mom ∧ (∃ v0 ∈ S.list, v0.num = v.num ∧ v0.begun = v.begun) := by
      rcases ((Am v).1 hv).1 with ⟨h1, -⟩ | ⟨-, rfl⟩
      · exact ⟨by have := hbe v h1; omega, v, h1, rfl, rfl⟩
      · exact ⟨by have := hbe t htm; omega, t, htm, ht.trans n1.symm, n3.symm⟩
    obtain ⟨h5, v0, hv0, e6, e7⟩ := hb0
    obtain ⟨qb, k1, -, -, k2, -⟩ := same hb
    rcases ((Am u).1 hu).1 with ⟨h1, h2⟩ | ⟨-, rfl⟩
    · have hai : a ≠ i := fun e2 => h2 (by rw [ea, e2])
      rw [set_other hai] at ha
      rw [k2, ← e7]
      exact h.mo u h1 v0 hv0 a b ra qb ha k1 ea (e6.trans eb) e0
    · have hai : a = i := num_inj (ea.symm.trans n1)
      subst hai
      rw [self] at ha
      cases ha
      have := (h.la b qb k1).1
      rw [k2, n2]
      simp only
      constructor <;> intro _ <;> omega
  · rw [A.mom]; have := h.mm; omega
  · intro l x
    rw [AH]
    constructor
    · rintro ⟨h1, h2⟩
      obtain ⟨j, q, e, hj, h3⟩ := (h.hs l x).1 h1
      exact ⟨j, q, e, put (fun e2 => h2 (by rw [e, e2])) hj, h3⟩
    · rintro ⟨j, q, e, hq, h3, h4⟩
      obtain ⟨hji, hj⟩ := alive hq h3
      exact ⟨(h.hs l x).2 ⟨j, q, e, hj, h3, h4⟩, fun e2 => hji (num_inj (e.symm.trans e2))⟩
  · intro n hn
    obtain ⟨h1, h2, h3⟩ := (AL n).1 hn
    obtain ⟨u, hu, e⟩ := h.no n h1
    by_cases hui : u.num = (i : Int) + 1
    · have hkt : keep = true := by
        cases hkp : keep with
        | true => rfl
        | false => exact absurd (e.symm.trans hui) (h2 hkp)
      refine ⟨T, Classical.byContradiction fun hnu => h3 T (.inr ⟨hkt, rfl⟩) hnu ?_, ?_⟩
      · rw [← e, hui]; exact n1.symm
      · rw [← e, hui]; exact n1
    · exact ⟨u, Classical.byContradiction fun hnu => h3 u (.inl ⟨hu, hui⟩) hnu e.symm, e⟩
  · intro u hu j q hq e p hp
    obtain ⟨q0, k1, -, -, -, k2, -⟩ := same hq
    rw [k2] at hp
    have hu1 := ((Am u).1 hu).1
    have hu0 : ∃ u0 ∈ S.list, u0.num = u.num := by
      rcases hu1 with ⟨h1, -⟩ | ⟨-, h1⟩
      · exact ⟨u, h1, rfl⟩
      · exact ⟨t, htm, by rw [h1]; exact ht.trans n1.symm⟩
    obtain ⟨u0, hu0, e0⟩ := hu0
    obtain ⟨n, hn, e1, e2⟩ := h.nr u0 hu0 j q0 k1 (e0.trans e) p hp
    refine ⟨n, (AL n).2 ⟨hn, fun hkf e3 => ?_, fun v hv hnv e3 => hnv ?_⟩, e1.trans e0, e2⟩
    · rcases hu1 with ⟨-, h2⟩ | ⟨h2, -⟩
      · exact h2 (e0.symm.trans (e1.symm.trans e3))
      · rw [hkf] at h2; cases h2
    · have e4 : u.num = v.num := e0.symm.trans (e1.symm.trans e3)
      have : u = v := by
        rcases hu1 with ⟨h1, h2⟩ | ⟨-, h1⟩ <;> rcases hv with ⟨h3, h4⟩ | ⟨-, h3⟩
        · exact nums_inj h.nd h1 h3 e4
        · exact absurd (e4.trans (by rw [h3]; exact n1)) h2
        · exact absurd (e4.symm.trans (by rw [h1]; exact n1)) h4
        · rw [h1, h3]
      rw [← this]; exact hu
  · intro a b ra rb ha hb h1 h2 h3 h4
    obtain ⟨hai, ha'⟩ := alive ha h1
    obtain ⟨v, hv, ev, e0⟩ := h.al a ra ha' h1
    have hvi : v.num ≠ (i : Int) + 1 := fun e2 => hai (num_inj (ev.symm.trans e2))
    rcases old hb with ⟨rfl, rfl⟩ | ⟨hbi, hb⟩
    · have hkt := hkeep a ra hai ha' h1 h4
      exact ⟨T, (Am T).2 ⟨.inr ⟨hkt, rfl⟩, .inr ⟨v, hv, hvi, e0, by have := hbe v hv; omega⟩⟩, n1⟩
    · obtain ⟨u, hu, e⟩ := h.kp a b ra rb ha' hb h1 h2 h3 h4
      refine ⟨u, (Am u).2 ⟨.inl ⟨hu, fun e2 => hbi (num_inj (e.symm.trans e2))⟩, ?_⟩, e⟩
      by_cases hz : u.ended = 0
      · exact .inl hz
      · exact .inr ⟨v, hv, hvi, e0, (h.mo u hu v hv b a rb ra hb ha' e ev hz).2 h3⟩
  · intro j q hq
    rcases old hq with ⟨rfl, rfl⟩ | ⟨-, hj⟩
    · obtain ⟨h1, -, -, h4, h5⟩ := h.la j r hi
      refine ⟨by simp only; omega, fun _ => ⟨h1, by simp only; omega⟩, fun _ => rfl, ?_, h5⟩
      rw [A.last]; simp only; omega
    · obtain ⟨h1, h2, h3, h4, h5⟩ := h.la j q hj
      refine ⟨by omega, fun ho => ⟨(h2 ho).1, by have := (h2 ho).2; omega⟩, h3, ?_, h5⟩
      rw [A.last]; omega
  · intro a b ra rb ha hb hov
    obtain ⟨q0, h1, -, -, h2, -⟩ := same ha
    rw [h2]
    rcases old hb with ⟨rfl, rfl⟩ | ⟨-, hb⟩
    · have := (h.la a q0 h1).1
      simp only; omega
    · exact h.ne a b q0 rb h1 hb hov
  · rw [A.last]; omega
  · intro v hv
    obtain ⟨m, hm⟩ := List.mem_iff_getElem?.1 hv
    by_cases hml : m < vs.length
    · obtain ⟨v0, hv0, e1, e2, e3⟩ := hlay.back hm hml
      obtain ⟨j, q, h1, h2, h3, h4, h5, h6, h7⟩ := h.ve v0 (List.mem_of_getElem? hv0)
      have hji : j ≠ i := fun e => by subst e; rw [hi] at h2; cases h2; rw [hrc] at h3; cases h3
      rw [e1, e2, e3]
      refine ⟨j, q, h1, put hji h2, h3, h4, by rw [A.last]; omega, h6, fun a ra ha => ?_⟩
      obtain ⟨q0, h8, -, h9, h10, -⟩ := same ha
      rw [h9, h10]; exact h7 a q0 h8
    · obtain ⟨f1, f2, f3, f4⟩ := fresh m v hm (by omega)
      refine ⟨i, _, f3, self, rfl, f4, by rw [A.last]; omega, by omega, fun a ra ha => ?_⟩
      obtain ⟨q0, h8, -, h9, h10, -⟩ := same ha
      obtain ⟨k1, -, -, k4, -⟩ := h.la a q0 h8
      rw [h9, h10]
      simp only
      constructor <;> intro _ <;> omega
  · intro j q hq hc l hl
    rcases old hq with ⟨rfl, rfl⟩ | ⟨-, hj⟩
    · exact hlay.all_ l hl
    · obtain ⟨v, hv, e1, e2⟩ := h.vw j q hj hc l hl
      obtain ⟨m, hm⟩ := List.mem_iff_getElem?.1 hv
      obtain ⟨u, hu, e3, -, e4⟩ := hlay.old m v hm
      exact ⟨u, List.mem_of_getElem? hu, e3.trans e1, e4.trans e2⟩
  · intro j q hq ho v hv hw
    obtain ⟨hji, hj⟩ := alive hq ho
    obtain ⟨m, hm⟩ := List.mem_iff_getElem?.1 hv
    by_cases hml : m < vs.length
    · obtain ⟨v0, hv0, e1, e2, -⟩ := hlay.back hm hml
      rw [e2]
      exact h.fw j q hj ho v0 (List.mem_of_getElem? hv0) (e1 ▸ hw)
    · obtain ⟨-, -, -, f4⟩ := fresh m v hm (by omega)
      have h1 := (h.hs v.at_ ((i : Int) + 1)).2 ⟨i, r, rfl, hi, hr, f4⟩
      have h2 := (h.hs v.at_ ((j : Int) + 1)).2 ⟨j, q, rfl, hj, ho, hw⟩
      exact absurd (num_inj (once_inj h.on h2 h1)) hji
  · intro a m v u hv hu ham e j q hj hq
    obtain ⟨q0, k1, -, k2, -⟩ := same hq
    rw [k2]
    by_cases hml : m < vs.length
    · obtain ⟨u0, hu0, e1, e2, e3⟩ := hlay.back hu hml
      obtain ⟨v0, hv0, e4, e5, e6⟩ := hlay.back hv (by omega)
      rw [e5]
      exact h.ww a m v0 u0 hv0 hu0 ham (by rw [← e4, ← e1]; exact e) j q0 (e3.symm.trans hj) k1
    · obtain ⟨f1, f2, f3, f4⟩ := fresh m u hu (by omega)
      have hji : j = i := by omega
      subst hji
      rw [hi] at k1
      cases k1
      by_cases hal : a < vs.length
      · obtain ⟨v0, hv0, e4, e5, e6⟩ := hlay.back hv hal
        rw [e5]
        exact h.fw j r hi hr v0 (List.mem_of_getElem? hv0) (by rw [← e4, e]; exact f4)
      · have := hlay.vi a m v u hv hu ham e
        have := (fresh a v hv (by omega)).1
        omega
  · intro j q hq p hp
    obtain ⟨q0, k1, -, k2, -, k3, -⟩ := same hq
    rw [k3] at hp
    rw [k2, h.rd j q0 k1 p hp]
    by_cases hw : r.writes = []
    · rw [hnil hw]
    · rw [if_neg hw] at hlast
      have := (h.la j q0 k1).2.2.2.1
      exact (hlay.newest (by omega)).symm
  · obtain ⟨gi, go, f1, f2, f3⟩ := h.fl
    obtain ⟨g1, g2⟩ := f1 t htm i ht
    refine ⟨gi, go, fun u hu j e => ?_, fun j q hq hc => ?_, ?_⟩
    · rcases ((Am u).1 hu).1 with ⟨h1, -⟩ | ⟨-, rfl⟩
      · exact f1 u h1 j e
      · obtain ⟨f4, f5⟩ := f1 t htm j (ht.trans (n1.symm.trans e))
        exact ⟨n6.1.trans f4, n6.2.trans f5⟩
    · rcases old hq with ⟨rfl, rfl⟩ | ⟨-, hj⟩
      · rw [← g1, ← g2]; exact hnb
      · exact f2 j q hj hc
    · intro a b ra rb l s hab ha hb va vb hc hl hw
      rcases old ha with ⟨rfl, rfl⟩ | ⟨hai, ha'⟩
      · rw [set_other (fun e => hab e.symm)] at hb
        exact f3 a b r rb l s hab hi hb (.inl hr) vb ⟨fun e => (by rw [hr] at e; cases e), hc.2⟩ hl hw
      · rcases old hb with ⟨rfl, rfl⟩ | ⟨hbi, hb'⟩
        · exact f3 a b ra r l s hab ha' hi va (.inl hr) ⟨hc.1, fun e => (by rw [hr] at e; cases e)⟩ hl hw
        · exact f3 a b ra rb l s hab ha' hb' va vb hc hl hw
end
end Go.Proofs.YtknppiebncdjmaaGreat

namespace Go.Proofs.YtknppiebncdjmaaGreat
set_option maxRecDepth 100000

def verBy (vs : List Ver10) (k : Int) : Int := (vs[k.toNat]?).elim 0 (·.by_)
def verNext (vs : List Ver10) (k : Int) : Int := (vs[k.toNat]?).elim 0 (·.next)
def depRead (vs : List Ver10) (i : Int) (p : Lk × Int) : List (Int × Int) :=
  if 0 ≤ p.2 then (verBy vs p.2, i) :: (if 0 ≤ verNext vs p.2 then [(i, verBy vs (verNext vs p.2))] else [])
  else if 0 ≤ firstP vs p.1 then [(i, verBy vs (firstP vs p.1))] else []
def depRun (vs : List Ver10) (p : Run10 × Nat) : List (Int × Int) := if p.1.com = true then p.1.reads.flatMap (depRead vs (p.2 : Int)) else []
def depVer (vs : List Ver10) (v : Ver10) : List (Int × Int) := if 0 ≤ v.next then [(v.by_, verBy vs v.next)] else []
def depsP (vs : List Ver10) (rs : List Run10) : List (Int × Int) := rs.zipIdx.flatMap (depRun vs) ++ vs.flatMap (depVer vs)
section
variable {c : Cp10} {S : St10} {vs : List Ver10} {rs : List Run10} {now : Int}
def Goes (rs : List Run10) (key : Nat → Int) (d : Int × Int) : Prop := ∃ a b : Nat, d = ((a : Int), (b : Int)) ∧ a < rs.length ∧ b < rs.length ∧ (a ≠ b → key a < key b)
theorem Inv10.key (h : Inv10 c S vs rs now) : ∃ key : Nat → Int, ∀ d ∈ depsP vs rs, Goes rs key d := by
  obtain ⟨gi, go, f1, f2, f3⟩ := h.fl
  obtain ⟨key, hkey⟩ : ∃ key : Nat → Int, ∀ (i : Nat) r, rs[i]? = some r → key i = if go i = true then r.begun else r.ended := by
    refine ⟨fun i => (rs[i]?).elim 0 fun r => if go i = true then r.begun else r.ended, fun i r hi => ?_⟩
    simp only [hi, Option.elim_some]
  have lt : ∀ {j : Nat} {q : Run10}, rs[j]? = some q → j < rs.length := fun hq => (List.getElem?_eq_some_iff.1 hq).1
  -- one behind the other
  have before : ∀ {a b : Nat} {ra rb : Run10}, rs[a]? = some ra → rs[b]? = some rb → ra.com = true → rb.com = true → ra.ended < rb.begun → key a < key b := fun {a b ra rb} ha hb ca cb hlt => by
    obtain ⟨-, h1, h2, -⟩ := h.la a ra ha
    obtain ⟨-, h3, h4, -⟩ := h.la b rb hb
    have h5 := (h1 (h2 ca)).1
    have h6 := (h3 (h4 cb)).1
    rw [hkey a ra ha, hkey b rb hb]
    split <;> split <;> omega
  have wr : ∀ {i : Nat} {r : Run10} {v : Ver10}, rs[i]? = some r → r.com = true → v ∈ vs → v.num ≤ r.snap → Goes rs key (v.by_, (i : Int)) := fun {i r v} hi hc hv hle => by
    obtain ⟨j, q, h1, h2, h3, -, -, -, h7⟩ := h.ve v hv
    exact ⟨j, i, by rw [h1], lt h2, lt hi, fun _ => before h2 hi h3 hc ((h7 i r hi).1 hle)⟩
  have rw_ : ∀ {i : Nat} {r : Run10} {v : Ver10} {s : Int}, rs[i]? = some r → r.com = true → v ∈ vs → ¬ v.num ≤ r.snap → (v.at_, s) ∈ r.reads → Goes rs key ((i : Int), v.by_) := fun {i r v s} hi hc hv hgt hrd => by
    obtain ⟨j, q, h1, h2, h3, h4, -, -, h7⟩ := h.ve v hv
    refine ⟨i, j, by rw [h1], lt hi, lt h2, fun hij => ?_⟩
    have hnb : ¬ q.ended < r.begun := fun e => hgt ((h7 i r hi).2 e)
    have ho := (h.la j q h2).2.2.1 h3
    have hor := (h.la i r hi).2.2.1 hc
    have hne := h.ne i j r q hi h2 ho
    have hne2 := h.ne j i q r h2 hi hor
    by_cases hb : r.ended < q.begun
    · exact before hi h2 hc h3 hb
    · obtain ⟨g1, g2⟩ := f3 i j r q v.at_ s hij hi h2 (.inr hc) (.inr h3) ⟨fun _ => by omega, fun _ => by omega⟩ hrd h4
      have hg : ¬ go j = true := fun e => f2 j q h2 h3 ⟨g2, e⟩
      rw [hkey i r hi, hkey j q h2, if_pos g1, if_neg hg]
      omega
  refine ⟨key, fun d hd => ?_⟩
  rcases List.mem_append.1 hd with hd | hd
  · obtain ⟨⟨r, i⟩, hri, hd⟩ := List.mem_flatMap.1 hd
    have hi : rs[i]? = some r := by
      have := List.mem_zipIdx_iff_getElem?.1 hri
      simpa using this
    unfold depRun at hd
    by_cases hc : r.com = true
    · rw [if_pos hc] at hd
      obtain ⟨⟨l, s⟩, hp, hd⟩ := List.mem_flatMap.1 hd
      have hs : s = newestP vs l r.snap := h.rd i r hi (l, s) hp
      unfold depRead at hd
      simp only at hd
      rcases newest_is vs l r.snap with ⟨e, hno⟩ | ⟨k, v, e, hv, hok, hmax⟩
      · rw [if_neg (by omega)] at hd
        rcases first_is vs l with ⟨e2, -⟩ | ⟨k, v, e2, hv, e3⟩
        · rw [e2, if_neg (by omega)] at hd; cases hd
        · rw [e2, if_pos (by omega)] at hd
          rw [List.mem_singleton.1 hd]
          have : verBy vs (k : Int) = v.by_ := by unfold verBy; rw [Int.toNat_natCast, hv]; rfl
          rw [this]
          exact rw_ hi hc (List.mem_of_getElem? hv) (fun hle => hno k v hv ⟨e3, hle⟩) (by rw [e3]; exact hp)
      · rw [hs, e, if_pos (by omega)] at hd
        have hvb : verBy vs (k : Int) = v.by_ := by unfold verBy; rw [Int.toNat_natCast, hv]; rfl
        have hvn : verNext vs (k : Int) = v.next := by unfold verNext; rw [Int.toNat_natCast, hv]; rfl
        rw [hvb, hvn] at hd
        rcases List.mem_cons.1 hd with rfl | hd
        · exact wr hi hc (List.mem_of_getElem? hv) hok.2
        · rcases h.vn k v hv with ⟨e2, -⟩ | ⟨m, u, e2, hkm, hu, eu⟩
          · rw [e2, if_neg (by omega)] at hd; cases hd
          · rw [e2, if_pos (by omega)] at hd
            rw [List.mem_singleton.1 hd]
            have : verBy vs (m : Int) = u.by_ := by unfold verBy; rw [Int.toNat_natCast, hu]; rfl
            rw [this]
            refine rw_ (s := s) hi hc (List.mem_of_getElem? hu) (fun hle => ?_) (by rw [eu, hok.1]; exact hp)
            have := hmax m u hu ⟨eu.trans hok.1, hle⟩
            omega
    · rw [if_neg hc] at hd; cases hd
  · obtain ⟨v, hv, hd⟩ := List.mem_flatMap.1 hd
    obtain ⟨k, hk⟩ := List.mem_iff_getElem?.1 hv
    unfold depVer at hd
    rcases h.vn k v hk with ⟨e2, -⟩ | ⟨m, u, e2, hkm, hu, eu⟩
    · rw [e2, if_neg (by omega)] at hd; cases hd
    · rw [e2, if_pos (by omega)] at hd
      rw [List.mem_singleton.1 hd]
      have hub : verBy vs (m : Int) = u.by_ := by unfold verBy; rw [Int.toNat_natCast, hu]; rfl
      rw [hub]
      obtain ⟨j, q, h1, h2, h3, -⟩ := h.ve u (List.mem_of_getElem? hu)
      rw [h1]
      exact wr h2 h3 hv (h.ww k m v u hk hu hkm eu.symm j q h1 h2)
end
def freeP (deps : List (Int × Int)) (gone : List Bool) (i : Nat) : Bool := !(gone.getD i false) && deps.all fun d => !(decide (d.2 = (i : Int)) && decide (d.1 ≠ (i : Int)) && !(gone.getD d.1.toNat false))
def oneP (deps : List (Int × Int)) (gone : List Bool) (i : Nat) : List Bool := if freeP deps gone i = true then gone.set i true else gone
def roundP (deps : List (Int × Int)) (gone : List Bool) : List Bool := (List.range gone.length).foldl (oneP deps) gone
def roundsP (deps : List (Int × Int)) : Nat → List Bool → List Bool
  | 0, g => g
  | n + 1, g => roundsP deps n (roundP deps g)
def orderedP (n : Nat) (deps : List (Int × Int)) : Bool := (roundsP deps n (List.replicate n false)).all id
def GoneLe (g g' : List Bool) : Prop := g.length = g'.length ∧ ∀ i, g.getD i false = true → g'.getD i false = true
theorem GoneLe.refl (g : List Bool) : GoneLe g g := ⟨rfl, fun _ h => h⟩
theorem GoneLe.trans {a b c : List Bool} (h : GoneLe a b) (k : GoneLe b c) : GoneLe a c := ⟨h.1.trans k.1, fun i hi => k.2 i (h.2 i hi)⟩
theorem getD_set (g : List Bool) (i j : Nat) : (g.set i true).getD j false = if i = j ∧ i < g.length then true else g.getD j false := by
  rw [List.getD_eq_getElem?_getD, List.getElem?_set, List.getD_eq_getElem?_getD]
  by_cases e : i = j
  · subst e
    by_cases hl : i < g.length
    · simp [hl]
    · rw [if_pos rfl, if_neg hl, if_neg (by omega), List.getElem?_eq_none (by omega)]
  · rw [if_neg e, if_neg (by omega)]
theorem one_le (deps : List (Int × Int)) (g : List Bool) (i : Nat) : GoneLe g (oneP deps g i) := by
  unfold oneP
  split
  · refine ⟨by simp, fun j hj => ?_⟩
    rw [getD_set]
    split
    · rfl
    · exact hj
  · exact GoneLe.refl g
theorem fold_le (deps : List (Int × Int)) : ∀ (l : List Nat) (g : List Bool), GoneLe g (l.foldl (oneP deps) g)
  | [], g => GoneLe.refl g
  | i :: l, g => (one_le deps g i).trans (fold_le deps l _)
theorem fold_gone {deps : List (Int × Int)} {g0 : List Bool} {i : Nat} (hi : i < g0.length) (hd : ∀ d ∈ deps, d.2 = (i : Int) → d.1 ≠ (i : Int) → g0.getD d.1.toNat false = true) : ∀ (l : List Nat) (g : List Bool), GoneLe g0 g → i ∈ l → (l.foldl (oneP deps) g).getD i false = true
  | j :: l, g, hg, hm => by
    rw [List.foldl_cons]
    rcases List.mem_cons.1 hm with rfl | hm
    · refine (fold_le deps l _).2 i ?_
      unfold oneP
      by_cases hgi : g.getD i false = true
      · have : freeP deps g i = false := by unfold freeP; rw [hgi]; rfl
        rw [this, if_neg (by simp)]; exact hgi
      · have hf : freeP deps g i = true := by
          unfold freeP
          simp only [Bool.and_eq_true, Bool.not_eq_true', List.all_eq_true]
          refine ⟨by simpa using hgi, fun d hdm => ?_⟩
          by_cases e1 : d.2 = (i : Int)
          · by_cases e2 : d.1 = (i : Int)
            · simp [e2]
            · have := hg.2 _ (hd d hdm e1 e2)
              simp only [List.getD_eq_getElem?_getD] at this ⊢
              simp [this]
          · simp [e1]
        rw [if_pos hf, getD_set, if_pos ⟨rfl, by rw [← hg.1]; exact hi⟩]
    · exact fold_gone hi hd l _ (hg.trans (one_le deps g j)) hm
theorem round_le (deps : List (Int × Int)) (g : List Bool) : GoneLe g (roundP deps g) := fold_le deps _ g
def cntG (g : List Bool) : Nat := g.countP id
theorem cntg_le {g g' : List Bool} (h : GoneLe g g') : cntG g ≤ cntG g' := by
  obtain ⟨hl, hi⟩ := h
  unfold cntG
  induction g generalizing g' with
  | nil => simp
  | cons a g ih =>
    cases g' with
    | nil => simp at hl
    | cons b g' =>
      have h0 := hi 0
      have := ih (g' := g') (by simpa using hl) fun i hi2 => by have := hi (i + 1); simpa using this (by simpa using hi2)
      cases a <;> cases b <;> simp_all <;> omega
theorem cntg_lt {g g' : List Bool} (h : GoneLe g g') {i : Nat} (h1 : g.getD i false = false) (h2 : g'.getD i false = true) : cntG g < cntG g' := by
  obtain ⟨hl, hi⟩ := h
  induction g generalizing g' i with
  | nil =>
    have : g' = [] := List.eq_nil_of_length_eq_zero (by simpa using hl.symm)
    subst this
    simp at h2
  | cons a g ih =>
    cases g' with
    | nil => simp at hl
    | cons b g' =>
      have htl : GoneLe g g' := ⟨by simpa using hl, fun i hi2 => by have := hi (i + 1); simpa using this (by simpa using hi2)⟩
      have hab : a = true → b = true := fun e => by have := hi 0; simpa [e] using this
      cases i with
      | zero =>
        have ha : a = false := by simpa using h1
        have hb : b = true := by simpa using h2
        have := cntg_le htl
        unfold cntG at *
        subst ha hb
        simp
        omega
      | succ i =>
        have := ih (g' := g') (i := i) (by simpa using h1) (by simpa using h2) htl.1 htl.2
        unfold cntG at *
        cases a <;> cases b <;> simp_all <;> omega
theorem ordered_of {n : Nat} {deps : List (Int × Int)} {key : Nat → Int} (h : ∀ d ∈ deps, ∃ a b : Nat, d = ((a : Int), (b : Int)) ∧ a < n ∧ b < n ∧ (a ≠ b → key a < key b)) : orderedP n deps = true := by
  -- of those that have not gone there is one with the least number
  have least : ∀ (m : Nat) (g : List Bool), (∃ i, i < m ∧ g.getD i false = false) → ∃ i, i < m ∧ g.getD i false = false ∧ ∀ j, j < m → g.getD j false = false → key i ≤ key j := by
    intro m g
    induction m with
    | zero => rintro ⟨i, hi, -⟩; omega
    | succ m ih =>
      rintro ⟨i, hi, hgi⟩
      by_cases hm : ∃ i, i < m ∧ g.getD i false = false
      · obtain ⟨a, h1, h2, h3⟩ := ih hm
        by_cases hg : g.getD m false = false
        · by_cases hk : key a ≤ key m
          · refine ⟨a, by omega, h2, fun j hj hgj => ?_⟩
            rcases Nat.lt_succ_iff_lt_or_eq.1 hj with h4 | rfl
            · exact h3 j h4 hgj
            · exact hk
          · refine ⟨m, by omega, hg, fun j hj hgj => ?_⟩
            rcases Nat.lt_succ_iff_lt_or_eq.1 hj with h4 | rfl
            · have := h3 j h4 hgj; omega
            · exact Int.le_refl _
        · refine ⟨a, by omega, h2, fun j hj hgj => ?_⟩
          rcases Nat.lt_succ_iff_lt_or_eq.1 hj with h4 | rfl
          · exact h3 j h4 hgj
          · exact absurd hgj hg
      · have him : i = m := by
          rcases Nat.lt_succ_iff_lt_or_eq.1 hi with h4 | h4
          · exact absurd ⟨i, h4, hgi⟩ hm
          · exact h4
        subst him
        refine ⟨i, by omega, hgi, fun j hj hgj => ?_⟩
        rcases Nat.lt_succ_iff_lt_or_eq.1 hj with h4 | rfl
        · exact absurd ⟨j, h4, hgj⟩ hm
        · exact Int.le_refl _
  have more : ∀ g : List Bool, g.length = n → (roundP deps g).length = n ∧ (cntG g = n ∨ cntG g < cntG (roundP deps g)) := fun g hg => by
    have hle := round_le deps g
    refine ⟨hle.1.symm.trans hg, ?_⟩
    by_cases hall : ∃ i, i < n ∧ g.getD i false = false
    · obtain ⟨i, h1, h2, h3⟩ := least n g hall
      refine .inr (cntg_lt hle h2 ?_)
      unfold roundP
      refine fold_gone (by omega) (fun d hd e1 e2 => ?_) _ g (GoneLe.refl g) (List.mem_range.2 (by omega))
      obtain ⟨a, b, rfl, ha, hb, hk⟩ := h d hd
      simp only at e1 e2 ⊢
      have hbi : b = i := by omega
      subst hbi
      have hlt := hk fun e => e2 (by rw [e])
      rw [Int.toNat_natCast]
      cases hga : g.getD a false with
      | true => rfl
      | false => have := h3 a ha hga; omega
    · left
      unfold cntG
      rw [← hg, List.countP_eq_length]
      intro b hb
      obtain ⟨i, hi⟩ := List.mem_iff_getElem?.1 hb
      have hil := (List.getElem?_eq_some_iff.1 hi).1
      cases b with
      | true => rfl
      | false => exact absurd ⟨i, by omega, by rw [List.getD_eq_getElem?_getD, hi]; rfl⟩ hall
  have rounds : ∀ (m : Nat) (g : List Bool), g.length = n → (roundsP deps m g).length = n ∧ (cntG g + m ≤ cntG (roundsP deps m g) ∨ cntG (roundsP deps m g) = n) := by
    intro m
    induction m with
    | zero => intro g hg; exact ⟨hg, .inl (Nat.le_refl _)⟩
    | succ m ih =>
      intro g hg
      obtain ⟨h1, h2⟩ := more g hg
      obtain ⟨h3, h4⟩ := ih _ h1
      unfold roundsP
      refine ⟨h3, ?_⟩
      have hle : ∀ g : List Bool, g.length = n → cntG g ≤ n := fun g hg => by unfold cntG; rw [← hg]; exact List.countP_le_length
      rcases h4 with h4 | h4
      · rcases h2 with h2 | h2
        · right
          have := cntg_le (round_le deps g)
          have := hle _ h3
          omega
        · left; omega
      · exact .inr h4
  obtain ⟨h1, h2⟩ := rounds n (List.replicate n false) (by simp)
  unfold orderedP
  have h3 : cntG (roundsP deps n (List.replicate n false)) = (roundsP deps n (List.replicate n false)).length := by
    have hle : cntG (roundsP deps n (List.replicate n false)) ≤ n := by unfold cntG; conv => rhs; rw [← h1]
                                                                        exact List.countP_le_length
    rw [h1]
    rcases h2 with h2 | h2 <;> omega
  unfold cntG at h3
  rw [List.countP_eq_length] at h3
  rw [List.all_eq_true]
  exact h3
end Go.Proofs.YtknppiebncdjmaaGreat
