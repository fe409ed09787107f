import Derived.Test.YtknppiebncdjmaaGreatJAY
import Derived.Test.YtknppiebncdjmaaGreatJBF
import Derived.Test.YtknppiebncdjmaaGreatJAI
import Derived.Test.YtknppiebncdjmaaGreatJAD
import Derived.Test.YtknppiebncdjmaaGreatJAH
set_option linter.unusedVariables false
namespace Go.Proofs.YtknppiebncdjmaaGreat
set_option maxRecDepth 100000
open Go.RowKit Go.Maps Go.ChangeMaps Go.MapKept

structure CpOk (c : Cp10) : Prop where
  a : 1 ≤ c.act ∧ c.act ≤ 64
  k : 0 ≤ c.kept ∧ c.kept ≤ 1024
def M10 (w : World) (G K : Nat → Prop) (b : Nat) (c : Cp10) (S : St10) : Prop := ∃ ab kb fb lm lr rr GR P, Mem10 M9 w b ab kb fb lm lr rr GR c P ∧ Sim10 c P S ∧ CpOk c ∧ G = BlG b ab kb fb lr GR ∧ K = BlK lm P
structure Bd10 (S : St10) : Prop where
  n : S.next + 1 ≤ 1000000000000000000
  l : S.last + 1 ≤ 2000000000000000000
def Left10 (w w' : World) (G K : Nat → Prop) (b : Nat) (c : Cp10) (S' : St10) : Prop := ∃ G' K', M10 w' G' K' b c S' ∧ (∀ k, G' k → G k ∨ w.heap.size ≤ k) ∧ (∀ k, K' k → K k ∨ w.heap.size ≤ k) ∧ Out G w w'
section
variable {w w' : World} {G K : Nat → Prop} {b : Nat} {c : Cp10} {S : St10}
theorem M10.stays (h : M10 w G K b c S) {F : Nat → Prop} (o : Out F w w') (hF : ∀ k, F k → ¬ G k ∧ ¬ K k) : M10 w' G K b c S := by
  obtain ⟨ab, kb, fb, lm, lr, rr, GR, P, m, s, e, rfl, rfl⟩ := h
  exact ⟨ab, kb, fb, lm, lr, rr, GR, P, m.stays api9 o hF, s, e, rfl, rfl⟩
theorem M10.below (h : M10 w G K b c S) (g : Below w.heap.size w w') : M10 w' G K b c S := h.stays (Out.of_below g (fun _ => False)) fun _ h => h.elim
theorem M10.lt (h : M10 w G K b c S) : (∀ k, G k → k < w.heap.size) ∧ ∀ k, K k → k < w.heap.size := by
  obtain ⟨ab, kb, fb, lm, lr, rr, GR, P, m, s, e, rfl, rfl⟩ := h
  exact m.lt api9
theorem M10.apart (h : M10 w G K b c S) : ∀ k, G k → ¬ K k := by
  obtain ⟨ab, kb, fb, lm, lr, rr, GR, P, m, s, e, rfl, rfl⟩ := h
  rintro k hg (rfl | ⟨p, hp, hk⟩)
  · have h1 := m.ne
    rcases hg with hg | hg
    · simp only [List.mem_cons, List.not_mem_nil, or_false] at hg
      omega
    · exact m.ngr k (by simp) hg
  · have h1 := m.nrow p hp k hk
    rcases hg with hg | hg
    · exact h1.1 hg
    · exact h1.2 hg
theorem M10.blt (h : M10 w G K b c S) : b < w.heap.size ∧ G b := by
  obtain ⟨ab, kb, fb, lm, lr, rr, GR, P, m, s, e, rfl, rfl⟩ := h
  exact ⟨m.blt.1, .inl (by simp)⟩
theorem wf_small {x : Int} (h0 : 0 ≤ x) (h1 : x ≤ 2000000000000000000) : (Lit.int .i64 x).wf = true := by simp [Lit.wf, IntKind.min, IntKind.max, IntKind.bits, IntKind.signed]; omega
theorem sub_len {α : Type} {l : List (Int × α)} {m : List Int} (h : OnceA l) (hs : ∀ p ∈ l, p.1 ∈ m) : l.length ≤ m.length := by
  rw [← List.length_map (f := (·.1))]
  refine List.Nodup.length_le_of_subset h fun x hx => ?_
  obtain ⟨p, hp, e⟩ := List.mem_map.1 hx
  rw [← e]; exact hs p hp
theorem Sim10.pgok {P : Pg} (h : Sim10 c P S) (hc : CpOk c) (hb : Bd10 S) : PgOk c P := by
  have hm := h.m0
  have h1 := hb.n
  have h2 := hb.l
  have hak : ∀ p ∈ P.act, 1 ≤ p.1 ∧ p.1 ≤ P.begun ∧ 0 ≤ p.2 ∧ p.2 ≤ P.now := fun p hp => by
    obtain ⟨t, ht, -, e1, e2⟩ := (h.act p.1 p.2).1 ((getA_some h.oa).2 hp)
    have := h.rg t ht
    rw [h.beg, h.now]
    omega
  have hkk : ∀ p ∈ P.kep, 1 ≤ p.1 ∧ p.1 ≤ P.begun := fun p hp => by
    obtain ⟨t, ht, -, e1, -⟩ := h.kep1 p.1 p.2 ((getA_some h.ok).2 hp)
    have := h.rg t ht
    rw [h.beg]
    omega
  have hfk : ∀ p ∈ P.flg, ∃ t ∈ S.list, t.num = p.1 := fun p hp => h.flg2 p.1 p.2 ((getA_some h.of).2 hp)
  refine ⟨hc.a, hc.k, h.na, h.nk, ?_, by rw [h.beg]; omega, by rw [h.now]; omega, hak, hkk, fun p hp => ?_⟩
  · have h3 := sub_len (m := S.list.map (·.num)) h.of fun p hp => by
      obtain ⟨t, ht, e⟩ := hfk p hp
      rw [← e]; exact List.mem_map.2 ⟨t, ht, rfl⟩
    rw [List.length_map] at h3
    have h4 := h.kepN
    have h5 := h.actN
    have h6 := h.na
    have h7 := h.nk
    have h8 := hc.a
    have h9 := hc.k
    omega
  · obtain ⟨t, ht, e⟩ := hfk p hp
    have := h.rg t ht
    rw [h.beg]
    omega
theorem Sim10.wf {P : Pg} (h : Sim10 c P S) (hb : Bd10 S) : WfP P := by
  have h1 := hb.n
  refine ⟨fun x hx => ?_, fun x hx => ?_, fun x hx => ?_⟩
  · obtain ⟨t, ht, -, e⟩ := h.hh x (by rw [← h.H]; exact hx)
    have := h.rg t ht
    exact wf_small (by omega) (by omega)
  · obtain ⟨t, ht, e⟩ := h.ll x (by rw [← h.L]; exact hx)
    have := h.rg t ht
    exact wf_small (by omega) (by omega)
  · obtain ⟨t, ht, -, e, -⟩ := h.kep1 x.1 x.2 ((getA_some h.ok).2 hx)
    have := h.rg t ht
    exact wf_small (by omega) (by omega)
def KepSub (P' P : Pg) : Prop := ∀ p ∈ P'.kep, p ∈ P.kep
theorem KepSub.refl (P : Pg) : KepSub P P := fun _ h => h
theorem end_sub (P : Pg) (tx : Int) : KepSub (endG P tx) P := fun p hp => (List.mem_filter.1 hp).1
theorem abort_sub (P : Pg) (tx : Int) : KepSub (abortG P tx) P := fun p hp => end_sub _ _ p hp
theorem dep_sub (P : Pg) (tx : Int) (os : List Int) (a d : Bool × Bool) : KepSub (dependG P tx os a d).2 P := by
  unfold dependG
  split
  · exact abort_sub P tx
  · exact KepSub.refl P
theorem note_sub (c : Cp10) (P : Pg) (tx : Int) (x : Rd) (os : List Int) : KepSub (noteG c P tx x os).2 P := by
  unfold noteG
  split
  · exact abort_sub { P with L := _ } tx
  · exact dep_sub { P with L := _ } tx os _ _
theorem read_sub (c : Cp10) (P : Pg) (tx : Int) (l : Lk) (zs : List Int) : KepSub (readG c P tx l zs).2 P := by
  unfold readG
  split
  · exact KepSub.refl P
  · split
    · exact KepSub.refl P
    · exact note_sub c P tx _ _
theorem scan_sub (c : Cp10) (P : Pg) (tx : Int) (tb lo hi : ByteArray) (zs : List Int) : KepSub (scanG c P tx tb lo hi zs).2 P := by
  unfold scanG
  split
  · exact KepSub.refl P
  · split
    · exact KepSub.refl P
    · exact note_sub c P tx _ _
theorem write_sub (c : Cp10) (P : Pg) (tx : Int) (l : Lk) (last : Int) (zs : List Int) : KepSub (writeG c P tx l last zs).2 P := by
  unfold writeG
  split
  · exact KepSub.refl P
  · split
    · exact KepSub.refl P
    · split
      · exact KepSub.refl P
      · split
        · exact abort_sub { P with H := _ } tx
        · split
          · exact abort_sub { P with H := _ } tx
          · exact dep_sub { P with H := _ } tx _ _ _
theorem left_of {ab kb fb lm lr rr : Nat} {GR : Nat → Prop} {P P' : Pg} {S' : St10} (hc : CpOk c) (h : LeftB M9 w w' b ab kb fb lm lr rr GR c P') (s : Sim10 c P' S') (hk : ∀ k, BlK lm P' k → BlK lm P k ∨ w.heap.size ≤ k) : Left10 w w' (BlG b ab kb fb lr GR) (BlK lm P) b c S' := by
  obtain ⟨GR', m, g, o⟩ := h
  refine ⟨_, _, ⟨ab, kb, fb, lm, lr, rr, GR', P', m, s, hc, rfl, rfl⟩, fun k hk2 => ?_, hk, o⟩
  rcases hk2 with h1 | h1
  · exact .inl (.inl h1)
  · exact (g k h1).imp .inr id
theorem sub_k {lm : Nat} {P P' : Pg} (h : KepSub P' P) (n : Nat) : ∀ k, BlK lm P' k → BlK lm P k ∨ n ≤ k := by
  rintro k (hk | ⟨p, hp, hk⟩)
  · exact .inl (.inl hk)
  · exact .inl (.inr ⟨p, h p hp, hk⟩)
theorem w10Begin (h : M10 w G K b c S) (hb : Bd10 S) :
    Calls Tryz.prog 15 #[.pointer (some ⟨b, 0, none⟩)] w fun e w' => e = .returned (.tuple #[.int .i64 (begin10 c S).1.1, .int .i64 (begin10 c S).1.2.1, .int .i64 (begin10 c S).1.2.2]) ∧ Left10 w w' G K b c (begin10 c S).2 := by
  obtain ⟨ab, kb, fb, lm, lr, rr, GR, P, m, s, hc, rfl, rfl⟩ := h
  refine (wxBegin api9 m (s.pgok hc hb)).mono ?_
  rintro e w' ⟨rfl, l⟩
  obtain ⟨e1, s1⟩ := s.begin_
  refine ⟨by rw [e1], left_of hc l s1 (sub_k (fun p hp => ?_) _)⟩
  unfold beginG at hp
  split at hp <;> exact hp
theorem w10Read (h : M10 w G K b c S) (hb : Bd10 S) {tx : Int} (hx : (Lit.int .i64 tx).wf = true) {l : Lk} (hl : Sz2 l) :
    Calls Tryz.prog 31 #[.pointer (some ⟨b, 0, none⟩), .int .i64 tx, lkV l] w fun e w' => e = .returned (.int .i64 (read10 c S tx l).1) ∧ Left10 w w' G K b c (read10 c S tx l).2 := by
  obtain ⟨ab, kb, fb, lm, lr, rr, GR, P, m, s, hc, rfl, rfl⟩ := h
  refine (wxRead api9 m (s.pgok hc hb) (s.wf hb) hx hl).mono ?_
  rintro e w' ⟨zs, hz, rfl, l2⟩
  have h9 : Inv9 c.reads S.L := by rw [← s.L]; exact (api9.inv m.rds).1
  have ho : Once S.H := by rw [← s.H]; exact m.lok.map.once
  obtain ⟨e1, s1⟩ := s.read h9 ho tx l hz
  exact ⟨by rw [e1], left_of hc l2.wide s1 (sub_k (read_sub _ _ _ _ _) _)⟩
theorem w10Scan (h : M10 w G K b c S) (hb : Bd10 S) {tx : Int} (hx : (Lit.int .i64 tx).wf = true) {tb lo hi : ByteArray} (htb : tb.size ≤ 140737488351232) (hlo : lo.size ≤ 140737488351232) :
    Calls Tryz.prog 33 #[.pointer (some ⟨b, 0, none⟩), .int .i64 tx, .string tb, .string lo, .string hi] w fun e w' => e = .returned (.int .i64 (scan10 c S tx tb lo hi).1) ∧ Left10 w w' G K b c (scan10 c S tx tb lo hi).2 := by
  obtain ⟨ab, kb, fb, lm, lr, rr, GR, P, m, s, hc, rfl, rfl⟩ := h
  refine (wxScan api9 m (s.pgok hc hb) (s.wf hb) hx htb hlo).mono ?_
  rintro e w' ⟨zs, hz, rfl, l2⟩
  have h9 : Inv9 c.reads S.L := by rw [← s.L]; exact (api9.inv m.rds).1
  obtain ⟨e1, s1⟩ := s.scan h9 tx tb lo hi hz
  exact ⟨by rw [e1], left_of hc l2.wide s1 (sub_k (scan_sub _ _ _ _ _ _ _) _)⟩
theorem w10Write (h : M10 w G K b c S) (hb : Bd10 S) {tx : Int} (hx : (Lit.int .i64 tx).wf = true) {l : Lk} (hl : Sz2 l) (last : Int) :
    Calls Tryz.prog 16 #[.pointer (some ⟨b, 0, none⟩), .int .i64 tx, lkV l, .int .i64 last] w fun e w' => e = .returned (.int .i64 (write10 c S tx l last).1) ∧ Left10 w w' G K b c (write10 c S tx l last).2 := by
  obtain ⟨ab, kb, fb, lm, lr, rr, GR, P, m, s, hc, rfl, rfl⟩ := h
  refine (wxWrite api9 m (s.pgok hc hb) (s.wf hb) hx hl last).mono ?_
  rintro e w' ⟨zs, hz, rfl, l2⟩
  obtain ⟨e1, s1⟩ := s.write tx l last hz
  exact ⟨by rw [e1], left_of hc l2.wide s1 (sub_k (write_sub _ _ _ _ _ _) _)⟩
theorem w10Abort (h : M10 w G K b c S) (hb : Bd10 S) {tx : Int} (hx : (Lit.int .i64 tx).wf = true) :
    Calls Tryz.prog 17 #[.pointer (some ⟨b, 0, none⟩), .int .i64 tx] w fun e w' => e = .returned (.int .i64 (abort10 S tx).1) ∧ Left10 w w' G K b c (abort10 S tx).2 := by
  obtain ⟨ab, kb, fb, lm, lr, rr, GR, P, m, s, hc, rfl, rfl⟩ := h
  refine (wxAbortC api9 m (s.pgok hc hb) hx).mono ?_
  rintro e w' ⟨rfl, l2⟩
  obtain ⟨e1, s1⟩ := s.abortC tx
  refine ⟨by rw [e1], left_of hc l2.wide s1 (sub_k ?_ _)⟩
  split
  · exact abort_sub P tx
  · exact KepSub.refl P
theorem w10Commit (h : M10 w G K b c S) (hb : Bd10 S) {tx : Int} (hx : (Lit.int .i64 tx).wf = true) :
    Calls Tryz.prog 32 #[.pointer (some ⟨b, 0, none⟩), .int .i64 tx] w fun e w' => e = .returned (.tuple #[.int .i64 (commit10 c S tx).1.1, .int .i64 (commit10 c S tx).1.2]) ∧ Left10 w w' G K b c (commit10 c S tx).2 := by
  obtain ⟨ab, kb, fb, lm, lr, rr, GR, P, m, s, hc, rfl, rfl⟩ := h
  have hp := s.pgok hc hb
  have h9 : Inv9 c.reads S.L := by rw [← s.L]; exact (api9.inv m.rds).1
  have ho : Once S.H := by rw [← s.H]; exact m.lok.map.once
  have key := fun v => s.commit h9 ho tx v
  cases ha : isAct P tx with
  | false =>
    refine (wxCommit0 api9 m hp hx ha).mono ?_
    rintro e w' ⟨rfl, rfl⟩
    obtain ⟨e1, s1⟩ := key undef
    have hg : commitG c P tx undef = ((0, 101), P) := by unfold commitG; rw [if_pos ha]
    rw [hg] at e1 s1
    exact ⟨by rw [← e1], left_of hc ⟨GR, m, fun _ h => .inl h, Out.refl _ _⟩ s1 (sub_k (KepSub.refl P) _)⟩
  | true =>
    cases hbo : bothF (flgOf P tx) with
    | true =>
      refine (wxCommit1 api9 m hp hx ha hbo).mono ?_
      rintro e w' ⟨rfl, l2⟩
      obtain ⟨e1, s1⟩ := key undef
      have hg : commitG c P tx undef = ((0, 100), abortG P tx) := by unfold commitG; rw [if_neg (by rw [ha]; simp), if_pos hbo]
      rw [hg] at e1 s1
      exact ⟨by rw [← e1], left_of hc l2.wide s1 (sub_k (abort_sub P tx) _)⟩
    | false =>
      by_cases hf : keepsG P tx = true ∧ c.kept ≤ (P.kep.length : Int)
      · refine (wxCommit2 api9 m hp hx ha hbo hf.1 hf.2).mono ?_
        rintro e w' ⟨rfl, l2⟩
        obtain ⟨e1, s1⟩ := key undef
        have hg : commitG c P tx undef = ((0, 4), abortG P tx) := by unfold commitG; rw [if_neg (by rw [ha]; simp), if_neg (by rw [hbo]; simp), if_pos hf]
        rw [hg] at e1 s1
        exact ⟨by rw [← e1], left_of hc l2.wide s1 (sub_k (abort_sub P tx) _)⟩
      · refine (wxCommit3 api9 m hp hx ha hbo (fun e => by have : ¬ c.kept ≤ (P.kep.length : Int) := fun h2 => hf ⟨e, h2⟩; omega) (by rw [s.now]; exact hb.l)).mono ?_
        rintro e w' ⟨rfl, v, hv, l2⟩
        obtain ⟨e1, s1⟩ := key v
        have hg : commitG c P tx v = (((gone1 P tx).now, 0), endG (gone2 P tx v) tx) := by unfold commitG; rw [if_neg (by rw [ha]; simp), if_neg (by rw [hbo]; simp), if_neg hf]
        rw [hg] at e1 s1
        refine ⟨by rw [← e1], left_of hc l2 s1 ?_⟩
        rintro k (hk | ⟨p, hp2, hk⟩)
        · exact .inl (.inl hk)
        · have h3 := end_sub _ _ p hp2
          unfold gone2 at h3
          split at h3
          · obtain ⟨p1, p2⟩ := p
            rcases mem_putA.1 h3 with ⟨h4, -⟩ | ⟨-, h4⟩
            · exact .inl (.inr ⟨(p1, p2), h4, hk⟩)
            · rw [h4] at hk
              exact .inr (hv k hk)
          · rw [show (forgetG (gone1 P tx) tx).kep = (gone1 P tx).kep from rfl, (gone1_kep P tx).1] at h3
            exact .inl (.inr ⟨p, h3, hk⟩)
theorem w10Snap (h : M10 w G K b c S) (hb : Bd10 S) {tx : Int} (hx : (Lit.int .i64 tx).wf = true) :
    Calls Tryz.prog 30 #[.pointer (some ⟨b, 0, none⟩), .int .i64 tx] w fun e w' => e = .returned (.tuple #[.int .i64 (of10 S tx).1, .int .i64 (of10 S tx).2.2]) ∧ w' = w := by
  obtain ⟨ab, kb, fb, lm, lr, rr, GR, P, m, s, hc, rfl, rfl⟩ := h
  refine (wxSnap m (s.pgok hc hb) hx).mono ?_
  rintro e w' ⟨rfl, rfl⟩
  exact ⟨by rw [s.of10], rfl⟩
theorem w10Flags (h : M10 w G K b c S) (hb : Bd10 S) {tx : Int} (hx : (Lit.int .i64 tx).wf = true) :
    Calls Tryz.prog 29 #[.pointer (some ⟨b, 0, none⟩), .int .i64 tx] w fun e w' => e = .returned (.tuple #[flagV (of10 S tx).2.1, .int .i64 (of10 S tx).2.2]) ∧ Below w.heap.size w w' := by
  obtain ⟨ab, kb, fb, lm, lr, rr, GR, P, m, s, hc, rfl, rfl⟩ := h
  refine (wxFlags api9 m (s.pgok hc hb) hx).mono ?_
  rintro e w' ⟨rfl, g⟩
  exact ⟨by rw [s.of10], g⟩
theorem w10Now (h : M10 w G K b c S) (hb : Bd10 S) :
    Calls Tryz.prog 34 #[.pointer (some ⟨b, 0, none⟩)] w fun e w' => e = .returned (.int .i64 S.last) ∧ w' = w := by
  obtain ⟨ab, kb, fb, lm, lr, rr, GR, P, m, s, hc, rfl, rfl⟩ := h
  refine (wxNow m (s.pgok hc hb)).mono ?_
  rintro e w' ⟨rfl, rfl⟩
  exact ⟨by rw [s.now], rfl⟩
end
theorem sim_new (c : Cp10) (hc : CpOk c) {now : Int} (h0 : 0 ≤ now) : Sim10 c ⟨now, 0, [], [], [], [], []⟩ (new10 now) := by
  refine ⟨rfl, rfl, rfl, rfl, OnceA.nil, OnceA.nil, OnceA.nil, List.nodup_nil, ⟨Int.le_refl _, Int.le_refl _, h0⟩, fun t ht => (by cases ht), fun x s => ⟨fun e => (by cases e), fun h => (by obtain ⟨t, ht, -⟩ := h; cases ht)⟩, fun x k hk => (by cases hk), fun t ht => (by cases ht), fun t ht => (by cases ht), fun x f hf => (by cases hf), fun t ht => (by cases ht), fun x hx => (by cases hx), fun n hn => (by cases hn), ?_, hc.k.1⟩
  have := hc.a
  show ((0 : Nat) : Int) ≤ c.act
  omega
theorem w10New (w : World) (a k : Int) (r : Nat) (l now : Int) (h : capOk a k r l) (hnow : 0 ≤ now) :
    Calls Tryz.prog 11 #[.agg #[.int .i64 a, .int .i64 k, .int .i64 (r : Int), .int .i64 l], .int .i64 now] w fun e w' => ∃ b G K, e = .returned (.tuple #[.pointer (some ⟨b, 0, none⟩), .int .i64 0]) ∧ M10 w' G K b ⟨a, k, r, l⟩ (new10 now) ∧ (∀ x, G x → w.heap.size ≤ x) ∧ (∀ x, K x → w.heap.size ≤ x) ∧ Below w.heap.size w w' := by
  refine (wxNew api9 w a k r l now h hnow).mono ?_
  rintro e w' ⟨b, ab, kb, fb, lm, lr, rr, GR, rfl, m, hg, hl, g⟩
  have hc : CpOk ⟨a, k, r, l⟩ := ⟨h.1, h.2.1⟩
  refine ⟨b, _, _, rfl, ⟨ab, kb, fb, lm, lr, rr, GR, _, m, sim_new _ hc hnow, hc, rfl, rfl⟩, hg, ?_, g⟩
  rintro x (rfl | ⟨p, hp, -⟩)
  · exact hl
  · cases hp
end Go.Proofs.YtknppiebncdjmaaGreat

namespace Go.Proofs.YtknppiebncdjmaaGreat
set_option maxRecDepth 100000
open Go.RowKit

def cellsF {α : Type} (f : α → List Value) (l : List α) : List Value := l.flatMap f
section
variable {α : Type} {f : α → List Value} {s : Nat}
theorem cellsF_len (hf : ∀ x, (f x).length = s) (l : List α) : (cellsF f l).length = s * l.length := by
  induction l with
  | nil => rfl
  | cons x l ih => simp only [cellsF, List.flatMap_cons, List.length_append, List.length_cons] at ih ⊢; rw [ih, hf, Nat.mul_succ, Nat.add_comm]
theorem cellsF_app (a b : List α) : cellsF f (a ++ b) = cellsF f a ++ cellsF f b := by simp [cellsF]
theorem cellsF_at (hf : ∀ x, (f x).length = s) : ∀ (l : List α) (j : Nat) (x : α), l[j]? = some x → ∀ (k : Nat) u, (f x)[k]? = some u → (cellsF f l)[s * j + k]? = some u
  | [], _, _, h, _, _, _ => by cases h
  | y :: l, 0, x, h, k, u, hu => by
    cases h
    have hk : k < (f y).length := (List.getElem?_eq_some_iff.1 hu).1
    simp only [cellsF, List.flatMap_cons, Nat.mul_zero, Nat.zero_add]
    rw [List.getElem?_append_left hk]; exact hu
  | y :: l, j + 1, x, h, k, u, hu => by
    have := cellsF_at hf l j x (by simpa using h) k u hu
    simp only [cellsF, List.flatMap_cons] at this ⊢
    rw [List.getElem?_append_right (by rw [hf, Nat.mul_succ]; omega), hf]
    rw [show s * (j + 1) + k - s = s * j + k by rw [Nat.mul_succ]; omega]
    exact this
theorem SB.el (hf : ∀ x, (f x).length = s) (hs : 0 < s) {w : World} {A : Option Addr} {L : List α} (h : SB w A (s * L.length) (cellsF f L)) {j : Nat} {x : α} (hp : L[j]? = some x) : ∃ g o, A = some ⟨g, o, none⟩ ∧ ∀ (k : Nat) u, (f x)[k]? = some u → w.cell? ⟨g, o + j * s + k, none⟩ = some u := by
  have hlt := (List.getElem?_eq_some_iff.1 hp).1
  obtain ⟨g, o, e, hc⟩ := h.cell (Nat.mul_pos hs (by omega))
  refine ⟨g, o, e, fun k u hu => ?_⟩
  have := hc _ u (cellsF_at hf L j x hp k u hu)
  rwa [Nat.mul_comm, ← Nat.add_assoc] at this
end
def lkC (l : Lk) : List Value := [.string l.1, .string l.2]
theorem lkC_len (l : Lk) : (lkC l).length = 2 := rfl
def verC (v : Ver10) : List Value := [.string v.at_.1, .string v.at_.2, .int .i64 v.num, .int .i64 v.by_, .int .i64 v.next]
theorem verC_len (v : Ver10) : (verC v).length = 5 := rfl
def redC (p : Lk × Int) : List Value := [.string p.1.1, .string p.1.2, .int .i64 p.2]
theorem redC_len (p : Lk × Int) : (redC p).length = 3 := rfl
structure RunM where
  r : Run10
  ra : Option Addr
  rc : Nat
  wa : Option Addr
  wc : Nat
def RunM.rv (m : RunM) : Value := .slice m.ra m.r.reads.length m.rc
def RunM.wv (m : RunM) : Value := .slice m.wa m.r.writes.length m.wc
def runC (m : RunM) : List Value := [.int .i64 m.r.tx, .int .i64 m.r.snap, .int .i64 m.r.begun, .int .i64 m.r.ended, .bool m.r.com, .bool m.r.over, .slice m.ra m.r.reads.length m.rc, .slice m.wa m.r.writes.length m.wc]
theorem runC_len (m : RunM) : (runC m).length = 8 := rfl
def seV : SEl := ⟨60, 130, .agg #[.string ⟨#[]⟩, .string ⟨#[]⟩, .int .i64 0, .int .i64 0, .int .i64 0], 5, 56⟩
theorem seV_ok : seV.Ok := ⟨by kernel_rfl, by kernel_rfl, by kernel_rfl, by decide, by decide, by decide⟩
def seD : SEl := ⟨68, 135, .agg #[.string ⟨#[]⟩, .string ⟨#[]⟩, .int .i64 0], 3, 40⟩
theorem seD_ok : seD.Ok := ⟨by kernel_rfl, by kernel_rfl, by kernel_rfl, by decide, by decide, by decide⟩
def seU : SEl := ⟨61, 70, .agg #[.int .i64 0, .int .i64 0, .int .i64 0, .int .i64 0, .bool false, .bool false, .slice none 0 0, .slice none 0 0], 8, 88⟩
theorem seU_ok : seU.Ok := ⟨by kernel_rfl, by kernel_rfl, by kernel_rfl, by decide, by decide, by decide⟩

theorem alloc_below10 (w : World) (o : Obj) : Below w.heap.size w (w.alloc o) := (Below.refl _ _).alloc (Nat.le_refl _) _
theorem hasLk_take {L : List Lk} {l p : Lk} {j : Nat} (hp : L[j]? = some p) : hasLk (L.take (j + 1)) l = (hasLk (L.take j) l || lkEq p l) := by
  unfold hasLk
  rw [List.take_add_one, hp, Option.toList_some, List.any_append]
  simp
set_option maxHeartbeats 8000000 in
theorem wHas10 {w : World} {A : Option Addr} {c : Nat} {L : List Lk} (h : SB w A (2 * L.length) (cellsF lkC L)) (hn : L.length ≤ 1599289640354) (l : Lk) :
    Calls Tryz.prog 25 #[.slice A L.length c, .agg #[.string l.1, .string l.2]] w fun e w' => e = .returned (.bool (hasLk L l)) ∧ Below w.heap.size w w' := by
  obtain ⟨W, hW⟩ : ∃ W, w.alloc (.cells #[.string l.1, .string l.2] 42) = W := ⟨_, rfl⟩
  have HW := Lib.hid hW
  have hB : Below w.heap.size w W := by rw [← hW]; exact alloc_below10 _ _
  have q0 : W.heap[w.heap.size]? = some (.cells #[.string l.1, .string l.2] 42 (0, 0)) := by rw [← hW]; exact heap_alloc_new _ _
  have x0 : W.cell? ⟨w.heap.size, 0, none⟩ = some (.string l.1) := cell_of_row _ _ 0 _ _ _ q0
  have x1 : W.cell? ⟨w.heap.size, 1, none⟩ = some (.string l.2) := cell_of_row _ _ 1 _ _ _ q0
  have HS := Lib.hid (h.gw hB)
  have HN := Lib.hid hn
  have HB := Lib.hid hB
  have qE := fun W a b c d => eqLk W a b c d
  clear h hn hW hB q0
  go_enter Tryz.func25, Tryz.ntmps25
  go_upto_region 1 with fail
  rw [HW.out]
  go_upto_region 2 with fail
  go_loopw [9] (fun i wr => ∃ j : Nat, i = .int .i64 (j : Nat) ∧ j ≤ L.length ∧ hasLk (L.take j) l = false ∧ Below W.heap.size W wr) (fun i _ => L.length - (intOf i).toNat)
  case atStart => exact ⟨0, rfl, Nat.zero_le _, rfl, Below.refl _ _⟩
  case round =>
    rename World => wr
    obtain ⟨j, rfl, hj, hno, hb⟩ := hrel
    replace x0 := keep_below x0 hb
    replace x1 := keep_below x1 hb
    by_cases hlt : j < L.length
    · obtain ⟨p, hp⟩ : ∃ p, L[j]? = some p := ⟨_, List.getElem?_eq_getElem hlt⟩
      have HT := hasLk_take (l := l) hp
      rw [hno, Bool.false_or] at HT
      obtain ⟨g, o, rfl, hc⟩ := (HS.out.gw hb).el lkC_len (by omega) hp
      have c0 : wr.cell? ⟨g, o + j * 2, none⟩ = some (.string p.1) := hc 0 _ rfl
      have c1 : wr.cell? ⟨g, o + j * 2 + 1, none⟩ = some (.string p.2) := hc 1 _ rfl
      obtain ⟨Y, hY⟩ : ∃ Y, wr.alloc (.cells #[.string p.1, .string p.2] 42) = Y := ⟨_, rfl⟩
      have HY := Lib.hid hY
      have gY : Below wr.heap.size wr Y := by rw [← hY]; exact alloc_below10 _ _
      have rY : Y.heap[wr.heap.size]? = some (.cells #[.string p.1, .string p.2] 42 (0, 0)) := by rw [← hY]; exact heap_alloc_new _ _
      have y0 : Y.cell? ⟨wr.heap.size, 0, none⟩ = some (.string p.1) := cell_of_row _ _ 0 _ _ _ rY
      have y1 : Y.cell? ⟨wr.heap.size, 1, none⟩ = some (.string p.2) := cell_of_row _ _ 1 _ _ _ rY
      have z0 := keep_below x0 gY
      have z1 := keep_below x1 gY
      have i1 : (j : Int) < (L.length : Int) := by omega
      have l1 : (j : Int) ≤ 1599289640354 := by have := HN.out; omega
      have HLT := Lib.hid hlt
      have HBY := Lib.hid (below_next hb gY)
      have HT' := Lib.hid HT
      clear hj hlt hp hc gY rY hY hb HT hno
      go_upto_region 4 with fail
      rw [HY.out]
      cases he : lkEq (p.1, p.2) (l.1, l.2)
      · have HT2 := Lib.hid (HT'.out.trans he)
        go_wp2
        go_roundw
        case rel => exact ⟨j + 1, by go_num, HLT.out, HT2.out, HBY.out⟩
        case measure => have := HLT.out; simp [intOf]; omega
      · have HT2 := Lib.hid (show hasLk L l = true by
          have h1 := HT'.out.trans he
          rw [hasLk_is] at h1 ⊢
          exact List.mem_of_mem_take h1)
        go_wp2
        go_ret
        exact ⟨by rw [HT2.out]; rfl, below_next HB.out HBY.out⟩
    · obtain rfl : j = L.length := by omega
      have i1 : ¬ (L.length : Int) < (L.length : Int) := by omega
      rw [List.take_length] at hno
      have HB2 := Lib.hid (below_next HB.out hb)
      have HNO := Lib.hid hno
      clear hj hlt hb hno
      go_wp2
      go_ret
      exact ⟨by rw [HNO.out]; rfl, HB2.out⟩
end Go.Proofs.YtknppiebncdjmaaGreat
