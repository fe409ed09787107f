import Derived.Test.YtknppiebncdjmaaGreatJBG
/- Layer 10, plain lists: the program's Commit comes to the document's. -/
namespace Go.Proofs.YtknppiebncdjmaaGreat
set_option maxRecDepth 100000
set_option maxRecDepth 100000

section
variable {c : Cp10} {P : Pg} {S : St10}
/-- The transaction is kept. -/
theorem Sim10.keep (h : Sim10 c P S) {i : Nat} {t : Tx10} (hi : S.list[i]? = some t) (h0 : t.ended = 0) (v : Value) (n l : Int) (H1 : List Hd) (hl : S.last ≤ l) (hH : ∀ x ∈ H1, x ∈ S.H ∧ x.2 ≠ t.num) (hk : (P.kep.length : Int) < c.kept) (ws : List Lk) :
    Sim10 c { P with now := l, H := H1, kep := putA P.kep t.num ⟨v, ws, P.begun⟩, act := delA P.act t.num } { S with last := l, mom := S.mom + 1, H := H1, list := S.list.modify i fun t => { t with ended := S.mom + 1, wrote := ws } } := by
  have ht := List.mem_of_getElem? hi
  obtain ⟨f, hf⟩ : ∃ f : Tx10 → Tx10, f = fun t => { t with ended := S.mom + 1, wrote := ws } := ⟨_, rfl⟩
  have hm : ∀ u, u ∈ S.list.modify i f ↔ (u ∈ S.list ∧ u.num ≠ t.num) ∨ u = f t := modify_mem h.nd hi
  have hfn : ∀ t, (f t).num = t.num := fun t => by rw [hf]
  have hm0 := h.m0
  have hmt : f t ∈ S.list.modify i f := (hm _).2 (.inr rfl)
  have hlive : ∀ u ∈ S.list.modify i f, u.ended = 0 → u ∈ S.list ∧ u.num ≠ t.num := fun u hu e => by
    rcases (hm u).1 hu with h1 | h1
    · exact h1
    · rw [h1, hf] at e
      have : S.mom + 1 = 0 := e
      omega
  rw [← hf]
  refine ⟨rfl, h.beg, rfl, h.L, h.oa.del _, h.ok.put _ _, h.of, ?_, ?_, fun u hu => ?_, fun x s => ?_, fun x k hk2 => ?_, fun u hu h1 => ?_, fun u hu => ?_, fun x g hg => ?_, fun u hu h1 => h.wr0 u (hlive u hu h1).1 h1, fun x hx => ?_, fun n hn => ?_, ?_, ?_⟩
  · show ((S.list.modify i f).map (·.num)).Nodup
    rw [modify_nums hfn]; exact h.nd
  · show 0 ≤ S.mom + 1 ∧ 0 ≤ S.next ∧ 0 ≤ l
    omega
  · show (1 ≤ u.num ∧ u.num ≤ S.next) ∧ (u.begun ≤ S.mom + 1) ∧ (0 ≤ u.ended ∧ u.ended ≤ S.mom + 1) ∧ 0 ≤ u.snap ∧ u.snap ≤ l
    rcases (hm u).1 hu with ⟨h1, -⟩ | h1
    · have := h.rg u h1; omega
    · have := h.rg t ht
      rw [h1, hf]
      show (1 ≤ t.num ∧ t.num ≤ S.next) ∧ (t.begun ≤ S.mom + 1) ∧ (0 ≤ S.mom + 1 ∧ S.mom + 1 ≤ S.mom + 1) ∧ 0 ≤ t.snap ∧ t.snap ≤ l
      omega
  · show getA (delA P.act t.num) x = some s ↔ ∃ u ∈ S.list.modify i f, u.ended = 0 ∧ u.num = x ∧ u.snap = s
    rw [getA_del h.oa]
    by_cases e : x = t.num
    · rw [if_pos e]
      constructor
      · intro e2; cases e2
      · rintro ⟨u, hu, a, b, -⟩
        exact absurd (b.trans e) (hlive u hu a).2
    · rw [if_neg e, h.act]
      constructor
      · rintro ⟨u, hu, a, b, d⟩
        exact ⟨u, (hm u).2 (.inl ⟨hu, fun e2 => e (b.symm.trans e2)⟩), a, b, d⟩
      · rintro ⟨u, hu, a, b, d⟩
        exact ⟨u, (hlive u hu a).1, a, b, d⟩
  · have hk2 : getA (putA P.kep t.num ⟨v, ws, P.begun⟩) x = some k := hk2
    rw [getA_put h.ok] at hk2
    by_cases e : x = t.num
    · rw [if_pos e] at hk2
      cases hk2
      refine ⟨f t, hmt, by rw [hf]; show 0 < S.mom + 1; omega, by rw [hfn, e], by rw [hf], ⟨by show 0 ≤ P.begun; rw [h.beg]; omega, by show P.begun ≤ S.next; rw [h.beg]; exact Int.le_refl _⟩, fun u hu hu0 => ?_⟩
      have h1 := h.rg u (hlive u hu hu0).1
      rw [hf]
      show u.begun < S.mom + 1 ↔ u.num ≤ P.begun
      rw [h.beg]
      show u.begun < S.mom + 1 ↔ u.num ≤ S.next
      omega
    · rw [if_neg e] at hk2
      obtain ⟨u, hu, h1, h2, h3, h4, h5⟩ := h.kep1 x k hk2
      exact ⟨u, (hm u).2 (.inl ⟨hu, by rw [h2]; exact e⟩), h1, h2, h3, h4, fun w hw hw0 => h5 w (hlive w hw hw0).1 hw0⟩
  · show ∃ k, getA (putA P.kep t.num _) u.num = some k
    rw [getA_put h.ok]
    by_cases e : u.num = t.num
    · rw [if_pos e]; exact ⟨_, rfl⟩
    · rw [if_neg e]
      rcases (hm u).1 hu with ⟨h2, -⟩ | h2
      · exact h.kep2 u h2 h1
      · rw [h2, hfn] at e; exact absurd rfl e
  · rcases (hm u).1 hu with ⟨h1, -⟩ | h1
    · exact h.flg1 u h1
    · have := h.flg1 t ht
      rw [h1, hfn]
      show flgOf P t.num = _
      rw [this, hf]
  · obtain ⟨u, hu, e⟩ := h.flg2 x g hg
    by_cases e2 : u.num = t.num
    · exact ⟨f t, hmt, by rw [hfn, ← e2]; exact e⟩
    · exact ⟨u, (hm u).2 (.inl ⟨hu, e2⟩), e⟩
  · obtain ⟨h1, h2⟩ := hH x hx
    obtain ⟨u, hu, a, b⟩ := h.hh x h1
    exact ⟨u, (hm u).2 (.inl ⟨hu, by rw [b]; exact h2⟩), a, b⟩
  · obtain ⟨u, hu, e⟩ := h.ll n hn
    by_cases e2 : u.num = t.num
    · exact ⟨f t, hmt, by rw [hfn, ← e2]; exact e⟩
    · exact ⟨u, (hm u).2 (.inl ⟨hu, e2⟩), e⟩
  · have h1 := del_lenA (l := P.act) t.num
    have h2 := h.na
    show ((delA P.act t.num).length : Int) ≤ c.act
    omega
  · have h1 := put_lenA (l := P.kep) t.num (⟨v, ws, P.begun⟩ : KpR)
    show ((putA P.kep t.num (⟨v, ws, P.begun⟩ : KpR)).length : Int) ≤ c.kept
    omega
/-- The transaction is kept no more. -/
theorem Sim10.leave (h : Sim10 c P S) {i : Nat} {t : Tx10} (hi : S.list[i]? = some t) (h0 : t.ended = 0) (l : Int) (H1 : List Hd) (hl : S.last ≤ l) (hH : ∀ x ∈ H1, x ∈ S.H ∧ x.2 ≠ t.num) (ws : List Lk) :
    Sim10 c { P with now := l, H := H1, L := dropN P.L t.num, flg := delA P.flg t.num, act := delA P.act t.num } { S with last := l, mom := S.mom + 1, H := H1, list := (S.list.modify i fun t => { t with ended := S.mom + 1, wrote := ws }).eraseIdx i, L := dropN S.L t.num } := by
  have ht := List.mem_of_getElem? hi
  have hp := h.pos t ht
  have hm0 := h.m0
  have he := erase_modify_mem h.nd hi (f := fun t => { t with ended := S.mom + 1, wrote := ws }) rfl
  refine ⟨rfl, h.beg, rfl, ?_, h.oa.del _, h.ok, h.of.del _, ?_, ?_, fun u hu => ?_, fun x s => ?_, fun x k hk => ?_, fun u hu h1 => h.kep2 u ((he u).1 hu).1 h1, fun u hu => ?_, fun x g hg => ?_, fun u hu h1 => h.wr0 u ((he u).1 hu).1 h1, fun x hx => ?_, fun n hn => ?_, ?_, h.nk⟩
  · show dropN P.L t.num = dropN S.L t.num
    rw [h.L]
  · have h1 : ((S.list.modify i fun t => { t with ended := S.mom + 1, wrote := ws }).map (·.num)).Nodup := by rw [modify_nums (f := fun t => { t with ended := S.mom + 1, wrote := ws }) (fun _ => rfl)]; exact h.nd
    exact List.Nodup.sublist ((List.eraseIdx_sublist ..).map _) h1
  · show 0 ≤ S.mom + 1 ∧ 0 ≤ S.next ∧ 0 ≤ l
    omega
  · have := h.rg u ((he u).1 hu).1
    show (1 ≤ u.num ∧ u.num ≤ S.next) ∧ (u.begun ≤ S.mom + 1) ∧ (0 ≤ u.ended ∧ u.ended ≤ S.mom + 1) ∧ 0 ≤ u.snap ∧ u.snap ≤ l
    omega
  · show getA (delA P.act t.num) x = some s ↔ ∃ u ∈ (S.list.modify i _).eraseIdx i, u.ended = 0 ∧ u.num = x ∧ u.snap = s
    rw [getA_del h.oa]
    by_cases e : x = t.num
    · rw [if_pos e]
      constructor
      · intro e2; cases e2
      · rintro ⟨u, hu, -, h2, -⟩
        exact absurd (h2.trans e) ((he u).1 hu).2
    · rw [if_neg e, h.act]
      constructor
      · rintro ⟨u, hu, h1, h2, h3⟩
        exact ⟨u, (he u).2 ⟨hu, fun e2 => e (h2.symm.trans e2)⟩, h1, h2, h3⟩
      · rintro ⟨u, hu, h1⟩
        exact ⟨u, ((he u).1 hu).1, h1⟩
  · obtain ⟨u, hu, h1, h2, h3, h4, h5⟩ := h.kep1 x k hk
    refine ⟨u, (he u).2 ⟨hu, fun e => ?_⟩, h1, h2, h3, h4, fun v hv => h5 v ((he v).1 hv).1⟩
    have := nums_inj h.nd hu ht e
    subst this
    omega
  · obtain ⟨h1, h2⟩ := (he u).1 hu
    have := h.flg1 u h1
    unfold flgOf at this ⊢
    show (getA (delA P.flg t.num) u.num).getD _ = _
    rw [getA_del h.of, if_neg h2]
    exact this
  · have hg : getA (delA P.flg t.num) x = some g := hg
    rw [getA_del h.of] at hg
    by_cases e : x = t.num
    · rw [if_pos e] at hg; cases hg
    · rw [if_neg e] at hg
      obtain ⟨u, hu, h1⟩ := h.flg2 x g hg
      exact ⟨u, (he u).2 ⟨hu, by rw [h1]; exact e⟩, h1⟩
  · obtain ⟨h1, h2⟩ := hH x hx
    obtain ⟨u, hu, h3, h4⟩ := h.hh _ h1
    exact ⟨u, (he u).2 ⟨hu, by rw [h4]; exact h2⟩, h3, h4⟩
  · obtain ⟨h1, h2⟩ := (dropN_mem hp).1 (show n ∈ dropN S.L t.num from hn)
    obtain ⟨u, hu, h3⟩ := h.ll n h1
    exact ⟨u, (he u).2 ⟨hu, by rw [h3]; exact h2⟩, h3⟩
  · have h1 := del_lenA (l := P.act) t.num
    have h2 := h.na
    show ((delA P.act t.num).length : Int) ≤ c.act
    omega
theorem Sim10.commit (h : Sim10 c P S) (h9 : Inv9 c.reads S.L) (ho : Once S.H) (tx : Int) (v : Value) :
    (commitG c P tx v).1 = (commit10 c S tx).1 ∧ Sim10 c (commitG c P tx v).2 (commit10 c S tx).2 := by
  unfold commitG commit10
  rcases h.under tx with ⟨ha, hu⟩ | ⟨i, t, ha, hu, hi, h0, rfl, ht, -⟩
  · rw [ha, hu]; exact ⟨rfl, h⟩
  · rw [hu, if_neg (by rw [ha]; simp)]
    simp only
    have hb : bothF (flgOf P t.num) = bothP S.list i := by unfold bothF bothP; rw [h.flg1 t ht, hi]; rfl
    rw [hb]
    by_cases hbo : bothP S.list i = true
    · rw [if_pos hbo, if_pos hbo]; exact ⟨rfl, h.abort hi h0⟩
    · rw [if_neg hbo, if_neg hbo]
      have hn1 : 1 ≤ activeP S.list := by
        rw [← h.actN]
        obtain ⟨s, hs⟩ := Option.isSome_iff_exists.1 (show (getA P.act t.num).isSome = true from ha)
        exact List.length_pos_iff.2 (List.ne_nil_of_mem (getA_mem hs))
      have hw : (0 < (heldP P.H t.num).length) ↔ heldP S.H t.num ≠ [] := by rw [h.H]; exact List.length_pos_iff
      have htx : (t.num ∈ txP P.L fun _ => true) ↔ ofP S.L t.num ≠ [] := by
        rw [(tx_is _ _).2, h.L]
        constructor
        · rintro ⟨n, hn, -, e⟩
          refine List.ne_nil_of_mem (a := n.2) ((of_is h9.ln t.num).2 n.2 |>.2 ?_)
          rw [← e]; exact hn
        · intro hne
          obtain ⟨y, hy⟩ := List.exists_mem_of_ne_nil _ hne
          exact ⟨(t.num, y), ((of_is h9.ln t.num).2 y).1 hy, rfl, rfl⟩
      obtain ⟨mt, hmt⟩ : ∃ m, (decide (heldP S.H t.num ≠ []) || decide (ofP S.L t.num ≠ [])) = m := ⟨_, rfl⟩
      rw [hmt]
      have hke : keepsG P t.num = (decide (1 < activeP S.list) && mt) := by
        unfold keepsG
        rw [h.actN, ← hmt, decide_eq_decide.2 hw, decide_eq_decide.2 htx]
      have hcond : (keepsG P t.num = true ∧ c.kept ≤ (P.kep.length : Int)) ↔ (decide (1 < activeP S.list) && mt && decide (c.kept ≤ (S.list.length : Int) - activeP S.list)) = true := by
        rw [hke, h.kepN]
        constructor
        · rintro ⟨a, b⟩
          rw [a]; simpa using b
        · intro e
          rw [Bool.and_eq_true] at e
          exact ⟨e.1, by simpa using e.2⟩
      by_cases hfu : keepsG P t.num = true ∧ c.kept ≤ (P.kep.length : Int)
      · rw [if_pos hfu, if_pos (hcond.1 hfu)]; exact ⟨rfl, h.abort hi h0⟩
      · rw [if_neg hfu, if_neg (fun e => hfu (hcond.2 e))]
        have hnow : (gone1 P t.num).now = if heldP S.H t.num ≠ [] then S.last + 1 else S.last := by
          unfold gone1
          by_cases e : heldP S.H t.num ≠ []
          · rw [if_pos (hw.2 e), if_pos e, ← h.now]
          · rw [if_neg (fun e2 => e (hw.1 e2)), if_neg e, h.now]
        have hHH : (gone1 P t.num).H = releaseP S.H t.num := by
          unfold gone1
          by_cases e : heldP S.H t.num ≠ []
          · rw [if_pos (hw.2 e), ← h.H]
          · rw [if_neg (fun e2 => e (hw.1 e2)), h.H]
            exact (release_id ho (by simpa using e)).symm
        obtain ⟨l, hl⟩ : ∃ l, (if heldP S.H t.num ≠ [] then S.last + 1 else S.last) = l := ⟨_, rfl⟩
        have hll : S.last ≤ l := by rw [← hl]; split <;> omega
        rw [hl] at hnow ⊢
        have hrel : ∀ x ∈ releaseP S.H t.num, x ∈ S.H ∧ x.2 ≠ t.num := fun x hx => by
          obtain ⟨x1, x2⟩ := x
          exact release_mem.1 hx
        obtain ⟨g1, g2, g3, g4⟩ := gone1_kep P t.num
        have gL : (gone1 P t.num).L = P.L := by unfold gone1; split <;> rfl
        refine ⟨by rw [hnow], ?_⟩
        unfold endG
        by_cases hkk : keepsG P t.num = true
        · have hlt : (P.kep.length : Int) < c.kept := by
            have : ¬ c.kept ≤ (P.kep.length : Int) := fun e => hfu ⟨hkk, e⟩
            omega
          have hno : ¬ (activeP S.list = 1 ∨ mt = false) := by
            rw [hke, Bool.and_eq_true, decide_eq_true_eq] at hkk
            rintro (e | e)
            · omega
            · rw [e] at hkk; cases hkk.2
          rw [if_neg hno]
          have e1 : ({ gone2 P t.num v with act := delA (gone2 P t.num v).act t.num } : Pg) = { P with now := l, H := releaseP S.H t.num, kep := putA P.kep t.num ⟨v, heldP S.H t.num, P.begun⟩, act := delA P.act t.num } := by
            unfold gone2
            rw [if_pos hkk]
            show (⟨(gone1 P t.num).now, (gone1 P t.num).begun, delA (gone1 P t.num).act t.num, putA P.kep t.num ⟨v, heldP P.H t.num, P.begun⟩, (gone1 P t.num).flg, (gone1 P t.num).H, (gone1 P t.num).L⟩ : Pg) = _
            rw [hnow, g2, g3, g4, hHH, gL, h.H]
          rw [e1]
          exact (h.keep hi h0 v 0 l (releaseP S.H t.num) hll hrel hlt (heldP S.H t.num)).sweep
        · have hyes : activeP S.list = 1 ∨ mt = false := by
            have hkk : keepsG P t.num = false := by simpa using hkk
            rw [hke] at hkk
            cases hm2 : mt with
            | false => exact .inr rfl
            | true =>
              rw [hm2, Bool.and_true, decide_eq_false_iff_not] at hkk
              exact .inl (by omega)
          rw [if_pos hyes]
          have e1 : ({ gone2 P t.num v with act := delA (gone2 P t.num v).act t.num } : Pg) = { P with now := l, H := releaseP S.H t.num, L := dropN P.L t.num, flg := delA P.flg t.num, act := delA P.act t.num } := by
            unfold gone2 forgetG
            rw [if_neg hkk]
            show (⟨(gone1 P t.num).now, (gone1 P t.num).begun, delA (gone1 P t.num).act t.num, (gone1 P t.num).kep, delA (gone1 P t.num).flg t.num, (gone1 P t.num).H, dropN (gone1 P t.num).L t.num⟩ : Pg) = _
            rw [hnow, g1, g2, g3, g4, hHH, gL]
          rw [e1]
          exact (h.leave hi h0 l (releaseP S.H t.num) hll hrel (heldP S.H t.num)).sweep
end
end Go.Proofs.YtknppiebncdjmaaGreat

/- Layer 10: New. -/
namespace Go.Proofs.YtknppiebncdjmaaGreat
set_option maxRecDepth 100000
set_option maxRecDepth 100000
open Go.RowKit Go.Maps Go.ChangeMaps Go.MapKept

/-- May these be caps? -/
def capOk (a k r l : Int) : Prop := (1 ≤ a ∧ a ≤ 64) ∧ (0 ≤ k ∧ k ≤ 1024) ∧ (1 ≤ r ∧ r ≤ 65536) ∧ 1 ≤ l ∧ l ≤ 4096
section
variable {M : MF}
set_option maxHeartbeats 8000000 in
theorem wxNew_no (I : Api9 M) (w : World) (a k r l now : Int) (h : ¬ (capOk a k r l ∧ 0 ≤ now)) :
    Calls Tryz.prog 11 #[.agg #[.int .i64 a, .int .i64 k, .int .i64 r, .int .i64 l], .int .i64 now] w fun e w' => e = .returned (.tuple #[.pointer none, .int .i64 1]) ∧ Below w.heap.size w w' := by
  obtain ⟨W, hW⟩ : ∃ W, w.alloc (.cells #[.int .i64 a, .int .i64 k, .int .i64 r, .int .i64 l] 23) = W := ⟨_, rfl⟩
  have hB : Below w.heap.size w W := by rw [← hW]; exact (Below.refl _ _).alloc (Nat.le_refl _) _
  have q0 : W.heap[w.heap.size]? = some (.cells #[.int .i64 a, .int .i64 k, .int .i64 r, .int .i64 l] 23 (0, 0)) := by rw [← hW]; exact heap_alloc_new _ _
  have x0 : W.cell? ⟨w.heap.size, 0, none⟩ = some (.int .i64 a) := cell_of_row _ _ 0 _ _ _ q0
  have x1 : W.cell? ⟨w.heap.size, 1, none⟩ = some (.int .i64 k) := cell_of_row _ _ 1 _ _ _ q0
  have x2 : W.cell? ⟨w.heap.size, 2, none⟩ = some (.int .i64 r) := cell_of_row _ _ 2 _ _ _ q0
  have x3 : W.cell? ⟨w.heap.size, 3, none⟩ = some (.int .i64 l) := cell_of_row _ _ 3 _ _ _ q0
  have HB := Lib.hid hB
  obtain ⟨e1, he1⟩ : ∃ e1 : Int, (if 1 ≤ l ∧ l ≤ 4096 then 0 else 1) = e1 := ⟨_, rfl⟩
  obtain ⟨e2, he2⟩ : ∃ e2 : Int, (if 1 ≤ r ∧ r ≤ 65536 then 0 else 1) = e2 := ⟨_, rfl⟩
  have CL := Lib.hid (show Calls Tryz.prog 36 #[.int .i64 l] W fun e w' => ∃ q1, e = .returned (.tuple #[.pointer q1, .int .i64 e1]) ∧ Below W.heap.size W w' from by
    by_cases hl : 1 ≤ l ∧ l ≤ 4096
    · rw [if_pos hl] at he1
      refine (wkNew (by omega)).mono ?_
      rintro e w' ⟨rfl, -, b⟩
      exact ⟨_, by rw [← he1], b⟩
    · rw [if_neg hl] at he1
      refine (wkNew_no (by omega)).mono ?_
      rintro e w' ⟨rfl, rfl⟩
      exact ⟨_, by rw [← he1], Below.refl _ _⟩)
  have CR := Lib.hid (show ∀ W1, Calls Tryz.prog 37 #[.int .i64 r] W1 fun e w' => ∃ q1, e = .returned (.tuple #[.pointer q1, .int .i64 e2]) ∧ Below W1.heap.size W1 w' from fun W1 => by
    by_cases hl : 1 ≤ r ∧ r ≤ 65536
    · rw [if_pos hl] at he2
      obtain ⟨m, rfl⟩ : ∃ m : Nat, r = (m : Int) := ⟨r.toNat, by omega⟩
      refine (I.new W1 m (by omega) (by omega)).mono ?_
      rintro e w' ⟨_, _, rfl, -, -, b⟩
      exact ⟨_, by rw [← he2], b⟩
    · rw [if_neg hl] at he2
      refine (I.bad W1 r ?_).mono ?_
      · unfold capP
        simp only [Bool.and_eq_false_iff, decide_eq_false_iff_not]
        omega
      · rintro e w' ⟨rfl, b⟩
        exact ⟨_, by rw [← he2], b⟩)
  have HE := Lib.hid (And.intro he1 he2)
  clear hB q0 he1 he2
  by_cases i1 : a < 1
  · clear h
    go_enter Tryz.func11, Tryz.ntmps11
    go_upto_region 1 with fail
    try rw [hW]
    go_wp2_with (first
      | (go_at_call 36; go_loud (refine CL.out.mono ?_; rintro e w2 ⟨q1, rfl, b2⟩; have B2 := Lib.hid (below_next HB.out b2); replace x0 := keep_below x0 b2; replace x1 := keep_below x1 b2; replace x2 := keep_below x2 b2; clear b2))
      | (go_at_call 37; go_loud (refine (CR.out _).mono ?_; rintro e w3 ⟨q2, rfl, b3⟩; have B3 := Lib.hid (below_next B2.out b3); replace x0 := keep_below x0 b3; replace x1 := keep_below x1 b3; clear b3)))
    refine bodyPost_ret (v := .tuple #[.pointer none, .int .i64 1]) (by simp [results, Tryz.results11, go_sem]) rfl ⟨rfl, B3.out⟩
  by_cases i2 : 64 < a
  · clear h
    go_enter Tryz.func11, Tryz.ntmps11
    go_upto_region 1 with fail
    try rw [hW]
    go_wp2_with (first
      | (go_at_call 36; go_loud (refine CL.out.mono ?_; rintro e w2 ⟨q1, rfl, b2⟩; have B2 := Lib.hid (below_next HB.out b2); replace x0 := keep_below x0 b2; replace x1 := keep_below x1 b2; replace x2 := keep_below x2 b2; clear b2))
      | (go_at_call 37; go_loud (refine (CR.out _).mono ?_; rintro e w3 ⟨q2, rfl, b3⟩; have B3 := Lib.hid (below_next B2.out b3); replace x0 := keep_below x0 b3; replace x1 := keep_below x1 b3; clear b3)))
    refine bodyPost_ret (v := .tuple #[.pointer none, .int .i64 1]) (by simp [results, Tryz.results11, go_sem]) rfl ⟨rfl, B3.out⟩
  by_cases i3 : k < 0
  · clear h
    go_enter Tryz.func11, Tryz.ntmps11
    go_upto_region 1 with fail
    try rw [hW]
    go_wp2_with (first
      | (go_at_call 36; go_loud (refine CL.out.mono ?_; rintro e w2 ⟨q1, rfl, b2⟩; have B2 := Lib.hid (below_next HB.out b2); replace x0 := keep_below x0 b2; replace x1 := keep_below x1 b2; replace x2 := keep_below x2 b2; clear b2))
      | (go_at_call 37; go_loud (refine (CR.out _).mono ?_; rintro e w3 ⟨q2, rfl, b3⟩; have B3 := Lib.hid (below_next B2.out b3); replace x0 := keep_below x0 b3; replace x1 := keep_below x1 b3; clear b3)))
    refine bodyPost_ret (v := .tuple #[.pointer none, .int .i64 1]) (by simp [results, Tryz.results11, go_sem]) rfl ⟨rfl, B3.out⟩
  by_cases i4 : 1024 < k
  · clear h
    go_enter Tryz.func11, Tryz.ntmps11
    go_upto_region 1 with fail
    try rw [hW]
    go_wp2_with (first
      | (go_at_call 36; go_loud (refine CL.out.mono ?_; rintro e w2 ⟨q1, rfl, b2⟩; have B2 := Lib.hid (below_next HB.out b2); replace x0 := keep_below x0 b2; replace x1 := keep_below x1 b2; replace x2 := keep_below x2 b2; clear b2))
      | (go_at_call 37; go_loud (refine (CR.out _).mono ?_; rintro e w3 ⟨q2, rfl, b3⟩; have B3 := Lib.hid (below_next B2.out b3); replace x0 := keep_below x0 b3; replace x1 := keep_below x1 b3; clear b3)))
    refine bodyPost_ret (v := .tuple #[.pointer none, .int .i64 1]) (by simp [results, Tryz.results11, go_sem]) rfl ⟨rfl, B3.out⟩
  by_cases i5 : 1 ≤ r ∧ r ≤ 65536
  · have e5 := HE.out.2
    rw [if_pos i5] at e5
    subst e5
    by_cases i6 : 1 ≤ l ∧ l ≤ 4096
    · have e6 := HE.out.1
      rw [if_pos i6] at e6
      subst e6
      by_cases i7 : now < 0
      · clear h
        go_enter Tryz.func11, Tryz.ntmps11
        go_upto_region 1 with fail
        try rw [hW]
        go_wp2_with (first
          | (go_at_call 36; go_loud (refine CL.out.mono ?_; rintro e w2 ⟨q1, rfl, b2⟩; have B2 := Lib.hid (below_next HB.out b2); replace x0 := keep_below x0 b2; replace x1 := keep_below x1 b2; replace x2 := keep_below x2 b2; clear b2))
          | (go_at_call 37; go_loud (refine (CR.out _).mono ?_; rintro e w3 ⟨q2, rfl, b3⟩; have B3 := Lib.hid (below_next B2.out b3); replace x0 := keep_below x0 b3; replace x1 := keep_below x1 b3; clear b3)))
        refine bodyPost_ret (v := .tuple #[.pointer none, .int .i64 1]) (by simp [results, Tryz.results11, go_sem]) rfl ⟨rfl, B3.out⟩
      · exact absurd ⟨⟨⟨by omega, by omega⟩, ⟨by omega, by omega⟩, i5, i6⟩, by omega⟩ h
    · have e6 := HE.out.1
      rw [if_neg i6] at e6
      subst e6
      clear h
      go_enter Tryz.func11, Tryz.ntmps11
      go_upto_region 1 with fail
      try rw [hW]
      go_wp2_with (first
        | (go_at_call 36; go_loud (refine CL.out.mono ?_; rintro e w2 ⟨q1, rfl, b2⟩; have B2 := Lib.hid (below_next HB.out b2); replace x0 := keep_below x0 b2; replace x1 := keep_below x1 b2; replace x2 := keep_below x2 b2; clear b2))
        | (go_at_call 37; go_loud (refine (CR.out _).mono ?_; rintro e w3 ⟨q2, rfl, b3⟩; have B3 := Lib.hid (below_next B2.out b3); replace x0 := keep_below x0 b3; replace x1 := keep_below x1 b3; clear b3)))
      refine bodyPost_ret (v := .tuple #[.pointer none, .int .i64 1]) (by simp [results, Tryz.results11, go_sem]) rfl ⟨rfl, B3.out⟩
  · have e5 := HE.out.2
    rw [if_neg i5] at e5
    subst e5
    clear h
    go_enter Tryz.func11, Tryz.ntmps11
    go_upto_region 1 with fail
    try rw [hW]
    go_wp2_with (first
      | (go_at_call 36; go_loud (refine CL.out.mono ?_; rintro e w2 ⟨q1, rfl, b2⟩; have B2 := Lib.hid (below_next HB.out b2); replace x0 := keep_below x0 b2; replace x1 := keep_below x1 b2; replace x2 := keep_below x2 b2; clear b2))
      | (go_at_call 37; go_loud (refine (CR.out _).mono ?_; rintro e w3 ⟨q2, rfl, b3⟩; have B3 := Lib.hid (below_next B2.out b3); replace x0 := keep_below x0 b3; replace x1 := keep_below x1 b3; clear b3)))
    refine bodyPost_ret (v := .tuple #[.pointer none, .int .i64 1]) (by simp [results, Tryz.results11, go_sem]) rfl ⟨rfl, B3.out⟩
set_option maxHeartbeats 8000000 in
theorem wxNew (I : Api9 M) (w : World) (a k : Int) (r : Nat) (l now : Int) (h : capOk a k r l) (hnow : 0 ≤ now) :
    Calls Tryz.prog 11 #[.agg #[.int .i64 a, .int .i64 k, .int .i64 (r : Int), .int .i64 l], .int .i64 now] w fun e w' => ∃ b ab kb fb lm lr rr GR, e = .returned (.tuple #[.pointer (some ⟨b, 0, none⟩), .int .i64 0]) ∧ Mem10 M w' b ab kb fb lm lr rr GR ⟨a, k, r, l⟩ ⟨now, 0, [], [], [], [], []⟩ ∧ (∀ x, BlG b ab kb fb lr GR x → w.heap.size ≤ x) ∧ w.heap.size ≤ lm ∧ Below w.heap.size w w' := by
  obtain ⟨⟨h1, h2⟩, ⟨h3, h4⟩, ⟨h5, h6⟩, h7, h8⟩ := h
  obtain ⟨W, hW⟩ : ∃ W, w.alloc (.cells #[.int .i64 a, .int .i64 k, .int .i64 (r : Int), .int .i64 l] 23) = W := ⟨_, rfl⟩
  have hB : Below w.heap.size w W := by rw [← hW]; exact (Below.refl _ _).alloc (Nat.le_refl _) _
  have q0 : W.heap[w.heap.size]? = some (.cells #[.int .i64 a, .int .i64 k, .int .i64 (r : Int), .int .i64 l] 23 (0, 0)) := by rw [← hW]; exact heap_alloc_new _ _
  have x0 : W.cell? ⟨w.heap.size, 0, none⟩ = some (.int .i64 a) := cell_of_row _ _ 0 _ _ _ q0
  have x1 : W.cell? ⟨w.heap.size, 1, none⟩ = some (.int .i64 k) := cell_of_row _ _ 1 _ _ _ q0
  have x2 : W.cell? ⟨w.heap.size, 2, none⟩ = some (.int .i64 (r : Int)) := cell_of_row _ _ 2 _ _ _ q0
  have x3 : W.cell? ⟨w.heap.size, 3, none⟩ = some (.int .i64 l) := cell_of_row _ _ 3 _ _ _ q0
  have HB := Lib.hid hB
  have CL := Lib.hid (wkNew (w := W) (most := l) (by omega))
  have CR := Lib.hid (fun W1 => I.new W1 r (by omega) (by omega))
  have hmm := @run_makeMap Tryz.prog
  have i1 : ¬ a < 1 := by omega
  have i2 : ¬ 64 < a := by omega
  have i3 : ¬ k < 0 := by omega
  have i4 : ¬ 1024 < k := by omega
  have i7 : ¬ now < 0 := by omega
  have HH := Lib.hid (And.intro h5 h6)
  clear hB q0 h1 h2 h3 h4 h5 h6 h7 h8 hnow
  go_enter Tryz.func11, Tryz.ntmps11
  go_upto_region 1 with fail
  try rw [hW]
  clear hW
  go_upto_region 3 with (first
    | (go_at_call 36; go_loud (refine CL.out.mono ?_; rintro e w2 ⟨rfl, l2, b2⟩; have L2 := Lib.hid l2; have B2 := Lib.hid (below_next HB.out b2); have HS2 := Lib.hid b2; replace x0 := keep_below x0 b2; replace x1 := keep_below x1 b2; replace x2 := keep_below x2 b2; replace x3 := keep_below x3 b2; clear b2 l2))
    | (go_at_call 37; go_loud (refine (CR.out _).mono ?_; rintro e w3 ⟨rr, GR, rfl, m3, g3, b3⟩; have M3 := Lib.hid m3; have G3 := Lib.hid g3; have B3 := Lib.hid (below_next B2.out b3); have L3 := Lib.hid (L2.out.below b3); have HS3 := Lib.hid b3; replace x0 := keep_below x0 b3; replace x1 := keep_below x1 b3; replace x2 := keep_below x2 b3; replace x3 := keep_below x3 b3; clear b3 m3 g3)))
  obtain ⟨n0, hn0⟩ : ∃ n, w3.heap.size = n := ⟨_, rfl⟩
  obtain ⟨n1, hn1⟩ : ∃ n, n0 + 1 = n := ⟨_, rfl⟩
  obtain ⟨n2, hn2⟩ : ∃ n, n1 + 1 = n := ⟨_, rfl⟩
  obtain ⟨n3, hn3⟩ : ∃ n, n2 + 1 = n := ⟨_, rfl⟩
  obtain ⟨W5, hW5⟩ : ∃ W, w3.alloc (.map #[] 0) = W := ⟨_, rfl⟩
  obtain ⟨W6, hW6⟩ : ∃ W, W5.alloc (.map #[] 0) = W := ⟨_, rfl⟩
  obtain ⟨W7, hW7⟩ : ∃ W, W6.alloc (.map #[] 0) = W := ⟨_, rfl⟩
  have s5 : W5.heap.size = n1 := by rw [← hW5]; simp [hn0, hn1]
  have s6 : W6.heap.size = n2 := by rw [← hW6]; simp [s5, hn2]
  have s7 : W7.heap.size = n3 := by rw [← hW7]; simp [s6, hn3]
  obtain ⟨W8, hW8⟩ : ∃ U, W7.alloc (.cells #[.int .i64 a, .int .i64 k, .int .i64 (r : Int), .int .i64 l, .int .i64 now, .int .i64 0, .map (some n0), .map (some n1), .map (some n2), .pointer (some ⟨W.heap.size + 1, 0, none⟩), .pointer (some ⟨rr, 0, none⟩)] 92) = U := ⟨_, rfl⟩
  have b5 : Below w3.heap.size w3 W5 := by rw [← hW5]; exact (Below.refl _ _).alloc (Nat.le_refl _) _
  have b6 : Below W5.heap.size W5 W6 := by rw [← hW6]; exact (Below.refl _ _).alloc (Nat.le_refl _) _
  have b7 : Below W6.heap.size W6 W7 := by rw [← hW7]; exact (Below.refl _ _).alloc (Nat.le_refl _) _
  have b8 : Below W7.heap.size W7 W8 := by rw [← hW8]; exact (Below.refl _ _).alloc (Nat.le_refl _) _
  have b38 : Below w3.heap.size w3 W8 := below_next (below_next (below_next b5 b6) b7) b8
  have q8 : W8.heap[n3]? = some (.cells #[.int .i64 a, .int .i64 k, .int .i64 (r : Int), .int .i64 l, .int .i64 now, .int .i64 0, .map (some n0), .map (some n1), .map (some n2), .pointer (some ⟨W.heap.size + 1, 0, none⟩), .pointer (some ⟨rr, 0, none⟩)] 92 (0, 0)) := by rw [← hW8, ← s7]; exact heap_alloc_new _ _
  have ma : MapM KI W8 n0 (actM []) := by
    have : MapM KI W5 n0 [] := by rw [← hW5, ← hn0]; exact MapM.new KI w3
    exact ((this.block (b6.block _ (by omega))).block (b7.block _ (by omega))).block (b8.block _ (by omega))
  have mb : MapM KI W8 n1 (kepM []) := by
    have : MapM KI W6 n1 [] := by rw [← hW6, ← s5]; exact MapM.new KI W5
    exact (this.block (b7.block _ (by omega))).block (b8.block _ (by omega))
  have mc : MapM KI W8 n2 (flgM []) := by
    have : MapM KI W7 n2 [] := by rw [← hW7, ← s6]; exact MapM.new KI W6
    exact this.block (b8.block _ (by omega))
  have ll : MG W8 (W.heap.size + 1) W.heap.size l [] := L3.out.below b38
  have mr : M W8 GR rr r [] := I.below M3.out b38
  have hg2 := G3.out
  have hg3 := I.lt M3.out
  have hl2 : W.heap.size + 1 < w2.heap.size := (Array.getElem?_eq_some_iff.1 L2.out.blk).1
  have hs3 := HS3.out.size
  have hsz := HB.out.size
  have hMem : Mem10 M W8 n3 n0 n1 n2 (W.heap.size + 1) W.heap.size rr GR ⟨a, k, r, l⟩ ⟨now, 0, [], [], [], [], []⟩ := by
    refine ⟨q8, ma, mb, mc, ll, mr, by simp, ?_, fun x hx hg => ?_, by simp⟩
    · simp only [List.nodup_cons, List.mem_cons, List.not_mem_nil, or_false, not_or, List.nodup_nil, not_false_eq_true, and_true]
      omega
    · have h1 := hg2 x hg
      have h2 := hg3 x hg
      simp only [List.mem_cons, List.not_mem_nil, or_false] at hx
      omega
  have HM := Lib.hid hMem
  have HBL := Lib.hid (show (∀ x, BlG n3 n0 n1 n2 W.heap.size GR x → w.heap.size ≤ x) ∧ w.heap.size ≤ W.heap.size + 1 ∧ Below w.heap.size w W8 from by
    refine ⟨fun x hx => ?_, by omega, below_next B3.out b38⟩
    have h3 := B2.out.size
    rcases hx with hx | hx
    · simp only [List.mem_cons, List.not_mem_nil, or_false] at hx
      have := B3.out.size
      omega
    · have := hg2 x hx; omega)
  clear b5 b6 b7 b8 b38 q8 ma mb mc ll mr hg2 hg3 hl2 hs3 hsz hMem
  go_wp2
  refine bodyPost_ret (v := .tuple #[.pointer (some ⟨n3, 0, none⟩), .int .i64 0]) (by simp [results, Tryz.results11, go_sem]) rfl ⟨n3, n0, n1, n2, W.heap.size + 1, W.heap.size, rr, GR, rfl, HM.out, HBL.out.1, HBL.out.2.1, HBL.out.2.2⟩
end
end Go.Proofs.YtknppiebncdjmaaGreat
