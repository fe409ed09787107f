import Derived.Test.YtknppiebncdjmaaGreatJBH
import Derived.Test.YtknppiebncdjmaaGreatJBQ
/- Layer 10: what the program's calls promise, as the document says it. -/
namespace Go.Proofs.YtknppiebncdjmaaGreat
set_option maxRecDepth 100000
set_option maxRecDepth 100000
open Go.RowKit Go.Maps Go.ChangeMaps Go.MapKept

structure CpOk (c : Cp10) : Prop where
  a : 1 ≤ c.act ∧ c.act ≤ 64
  k : 0 ≤ c.kept ∧ c.kept ≤ 1024
/-- The manager S in block b: calls may write the blocks G, they read the blocks K. -/
def M10 (w : World) (G K : Nat → Prop) (b : Nat) (c : Cp10) (S : St10) : Prop := ∃ ab kb fb lm lr rr GR P, Mem10 M9 w b ab kb fb lm lr rr GR c P ∧ Sim10 c P S ∧ CpOk c ∧ G = BlG b ab kb fb lr GR ∧ K = BlK lm P
/-- What bounds the numbers of transactions, of commits. -/
structure Bd10 (S : St10) : Prop where
  n : S.next + 1 ≤ 1000000000000000000
  l : S.last + 1 ≤ 2000000000000000000
/-- What a call that may write leaves. -/
def Left10 (w w' : World) (G K : Nat → Prop) (b : Nat) (c : Cp10) (S' : St10) : Prop := ∃ G' K', M10 w' G' K' b c S' ∧ (∀ k, G' k → G k ∨ w.heap.size ≤ k) ∧ (∀ k, K' k → K k ∨ w.heap.size ≤ k) ∧ Out G w w'
section
variable {w w' : World} {G K : Nat → Prop} {b : Nat} {c : Cp10} {S : St10}
theorem M10.stays (h : M10 w G K b c S) {F : Nat → Prop} (o : Out F w w') (hF : ∀ k, F k → ¬ G k ∧ ¬ K k) : M10 w' G K b c S := by
  obtain ⟨ab, kb, fb, lm, lr, rr, GR, P, m, s, e, rfl, rfl⟩ := h
  exact ⟨ab, kb, fb, lm, lr, rr, GR, P, m.stays api9 o hF, s, e, rfl, rfl⟩
theorem M10.below (h : M10 w G K b c S) (g : Below w.heap.size w w') : M10 w' G K b c S := h.stays (Out.of_below g (fun _ => False)) fun _ h => h.elim
theorem M10.lt (h : M10 w G K b c S) : (∀ k, G k → k < w.heap.size) ∧ ∀ k, K k → k < w.heap.size := by
  obtain ⟨ab, kb, fb, lm, lr, rr, GR, P, m, s, e, rfl, rfl⟩ := h
  exact m.lt api9
theorem M10.apart (h : M10 w G K b c S) : ∀ k, G k → ¬ K k := by
  obtain ⟨ab, kb, fb, lm, lr, rr, GR, P, m, s, e, rfl, rfl⟩ := h
  rintro k hg (rfl | ⟨p, hp, hk⟩)
  · have h1 := m.ne
    rcases hg with hg | hg
    · simp only [List.mem_cons, List.not_mem_nil, or_false] at hg
      omega
    · exact m.ngr k (by simp) hg
  · have h1 := m.nrow p hp k hk
    rcases hg with hg | hg
    · exact h1.1 hg
    · exact h1.2 hg
theorem M10.blt (h : M10 w G K b c S) : b < w.heap.size ∧ G b := by
  obtain ⟨ab, kb, fb, lm, lr, rr, GR, P, m, s, e, rfl, rfl⟩ := h
  exact ⟨m.blt.1, .inl (by simp)⟩
theorem wf_small {x : Int} (h0 : 0 ≤ x) (h1 : x ≤ 2000000000000000000) : (Lit.int .i64 x).wf = true := by simp [Lit.wf, IntKind.min, IntKind.max, IntKind.bits, IntKind.signed]; omega
theorem sub_len {α : Type} {l : List (Int × α)} {m : List Int} (h : OnceA l) (hs : ∀ p ∈ l, p.1 ∈ m) : l.length ≤ m.length := by
  rw [← List.length_map (f := (·.1))]
  refine List.Nodup.length_le_of_subset h fun x hx => ?_
  obtain ⟨p, hp, e⟩ := List.mem_map.1 hx
  rw [← e]; exact hs p hp
theorem Sim10.pgok {P : Pg} (h : Sim10 c P S) (hc : CpOk c) (hb : Bd10 S) : PgOk c P := by
  have hm := h.m0
  have h1 := hb.n
  have h2 := hb.l
  have hak : ∀ p ∈ P.act, 1 ≤ p.1 ∧ p.1 ≤ P.begun ∧ 0 ≤ p.2 ∧ p.2 ≤ P.now := fun p hp => by
    obtain ⟨t, ht, -, e1, e2⟩ := (h.act p.1 p.2).1 ((getA_some h.oa).2 hp)
    have := h.rg t ht
    rw [h.beg, h.now]
    omega
  have hkk : ∀ p ∈ P.kep, 1 ≤ p.1 ∧ p.1 ≤ P.begun := fun p hp => by
    obtain ⟨t, ht, -, e1, -⟩ := h.kep1 p.1 p.2 ((getA_some h.ok).2 hp)
    have := h.rg t ht
    rw [h.beg]
    omega
  have hfk : ∀ p ∈ P.flg, ∃ t ∈ S.list, t.num = p.1 := fun p hp => h.flg2 p.1 p.2 ((getA_some h.of).2 hp)
  refine ⟨hc.a, hc.k, h.na, h.nk, ?_, by rw [h.beg]; omega, by rw [h.now]; omega, hak, hkk, fun p hp => ?_⟩
  · have h3 := sub_len (m := S.list.map (·.num)) h.of fun p hp => by
      obtain ⟨t, ht, e⟩ := hfk p hp
      rw [← e]; exact List.mem_map.2 ⟨t, ht, rfl⟩
    rw [List.length_map] at h3
    have h4 := h.kepN
    have h5 := h.actN
    have h6 := h.na
    have h7 := h.nk
    have h8 := hc.a
    have h9 := hc.k
    omega
  · obtain ⟨t, ht, e⟩ := hfk p hp
    have := h.rg t ht
    rw [h.beg]
    omega
theorem Sim10.wf {P : Pg} (h : Sim10 c P S) (hb : Bd10 S) : WfP P := by
  have h1 := hb.n
  refine ⟨fun x hx => ?_, fun x hx => ?_, fun x hx => ?_⟩
  · obtain ⟨t, ht, -, e⟩ := h.hh x (by rw [← h.H]; exact hx)
    have := h.rg t ht
    exact wf_small (by omega) (by omega)
  · obtain ⟨t, ht, e⟩ := h.ll x (by rw [← h.L]; exact hx)
    have := h.rg t ht
    exact wf_small (by omega) (by omega)
  · obtain ⟨t, ht, -, e, -⟩ := h.kep1 x.1 x.2 ((getA_some h.ok).2 hx)
    have := h.rg t ht
    exact wf_small (by omega) (by omega)
/-- Of those kept no other one is kept behind a call. -/
def KepSub (P' P : Pg) : Prop := ∀ p ∈ P'.kep, p ∈ P.kep
theorem KepSub.refl (P : Pg) : KepSub P P := fun _ h => h
theorem end_sub (P : Pg) (tx : Int) : KepSub (endG P tx) P := fun p hp => (List.mem_filter.1 hp).1
theorem abort_sub (P : Pg) (tx : Int) : KepSub (abortG P tx) P := fun p hp => end_sub _ _ p hp
theorem dep_sub (P : Pg) (tx : Int) (os : List Int) (a d : Bool × Bool) : KepSub (dependG P tx os a d).2 P := by
  unfold dependG
  split
  · exact abort_sub P tx
  · exact KepSub.refl P
theorem note_sub (c : Cp10) (P : Pg) (tx : Int) (x : Rd) (os : List Int) : KepSub (noteG c P tx x os).2 P := by
  unfold noteG
  split
  · exact abort_sub { P with L := _ } tx
  · exact dep_sub { P with L := _ } tx os _ _
theorem read_sub (c : Cp10) (P : Pg) (tx : Int) (l : Lk) (zs : List Int) : KepSub (readG c P tx l zs).2 P := by
  unfold readG
  split
  · exact KepSub.refl P
  · split
    · exact KepSub.refl P
    · exact note_sub c P tx _ _
theorem scan_sub (c : Cp10) (P : Pg) (tx : Int) (tb lo hi : ByteArray) (zs : List Int) : KepSub (scanG c P tx tb lo hi zs).2 P := by
  unfold scanG
  split
  · exact KepSub.refl P
  · split
    · exact KepSub.refl P
    · exact note_sub c P tx _ _
theorem write_sub (c : Cp10) (P : Pg) (tx : Int) (l : Lk) (last : Int) (zs : List Int) : KepSub (writeG c P tx l last zs).2 P := by
  unfold writeG
  split
  · exact KepSub.refl P
  · split
    · exact KepSub.refl P
    · split
      · exact KepSub.refl P
      · split
        · exact abort_sub { P with H := _ } tx
        · split
          · exact abort_sub { P with H := _ } tx
          · exact dep_sub { P with H := _ } tx _ _ _
theorem left_of {ab kb fb lm lr rr : Nat} {GR : Nat → Prop} {P P' : Pg} {S' : St10} (hc : CpOk c) (h : LeftB M9 w w' b ab kb fb lm lr rr GR c P') (s : Sim10 c P' S') (hk : ∀ k, BlK lm P' k → BlK lm P k ∨ w.heap.size ≤ k) : Left10 w w' (BlG b ab kb fb lr GR) (BlK lm P) b c S' := by
  obtain ⟨GR', m, g, o⟩ := h
  refine ⟨_, _, ⟨ab, kb, fb, lm, lr, rr, GR', P', m, s, hc, rfl, rfl⟩, fun k hk2 => ?_, hk, o⟩
  rcases hk2 with h1 | h1
  · exact .inl (.inl h1)
  · exact (g k h1).imp .inr id
theorem sub_k {lm : Nat} {P P' : Pg} (h : KepSub P' P) (n : Nat) : ∀ k, BlK lm P' k → BlK lm P k ∨ n ≤ k := by
  rintro k (hk | ⟨p, hp, hk⟩)
  · exact .inl (.inl hk)
  · exact .inl (.inr ⟨p, h p hp, hk⟩)
theorem w10Begin (h : M10 w G K b c S) (hb : Bd10 S) :
    Calls Tryz.prog 15 #[.pointer (some ⟨b, 0, none⟩)] w fun e w' => e = .returned (.tuple #[.int .i64 (begin10 c S).1.1, .int .i64 (begin10 c S).1.2.1, .int .i64 (begin10 c S).1.2.2]) ∧ Left10 w w' G K b c (begin10 c S).2 := by
  obtain ⟨ab, kb, fb, lm, lr, rr, GR, P, m, s, hc, rfl, rfl⟩ := h
  refine (wxBegin api9 m (s.pgok hc hb)).mono ?_
  rintro e w' ⟨rfl, l⟩
  obtain ⟨e1, s1⟩ := s.begin_
  refine ⟨by rw [e1], left_of hc l s1 (sub_k (fun p hp => ?_) _)⟩
  unfold beginG at hp
  split at hp <;> exact hp
theorem w10Read (h : M10 w G K b c S) (hb : Bd10 S) {tx : Int} (hx : (Lit.int .i64 tx).wf = true) {l : Lk} (hl : Sz2 l) :
    Calls Tryz.prog 31 #[.pointer (some ⟨b, 0, none⟩), .int .i64 tx, lkV l] w fun e w' => e = .returned (.int .i64 (read10 c S tx l).1) ∧ Left10 w w' G K b c (read10 c S tx l).2 := by
  obtain ⟨ab, kb, fb, lm, lr, rr, GR, P, m, s, hc, rfl, rfl⟩ := h
  refine (wxRead api9 m (s.pgok hc hb) (s.wf hb) hx hl).mono ?_
  rintro e w' ⟨zs, hz, rfl, l2⟩
  have h9 : Inv9 c.reads S.L := by rw [← s.L]; exact (api9.inv m.rds).1
  have ho : Once S.H := by rw [← s.H]; exact m.lok.map.once
  obtain ⟨e1, s1⟩ := s.read h9 ho tx l hz
  exact ⟨by rw [e1], left_of hc l2.wide s1 (sub_k (read_sub _ _ _ _ _) _)⟩
theorem w10Scan (h : M10 w G K b c S) (hb : Bd10 S) {tx : Int} (hx : (Lit.int .i64 tx).wf = true) {tb lo hi : ByteArray} (htb : tb.size ≤ 140737488351232) (hlo : lo.size ≤ 140737488351232) :
    Calls Tryz.prog 33 #[.pointer (some ⟨b, 0, none⟩), .int .i64 tx, .string tb, .string lo, .string hi] w fun e w' => e = .returned (.int .i64 (scan10 c S tx tb lo hi).1) ∧ Left10 w w' G K b c (scan10 c S tx tb lo hi).2 := by
  obtain ⟨ab, kb, fb, lm, lr, rr, GR, P, m, s, hc, rfl, rfl⟩ := h
  refine (wxScan api9 m (s.pgok hc hb) (s.wf hb) hx htb hlo).mono ?_
  rintro e w' ⟨zs, hz, rfl, l2⟩
  have h9 : Inv9 c.reads S.L := by rw [← s.L]; exact (api9.inv m.rds).1
  obtain ⟨e1, s1⟩ := s.scan h9 tx tb lo hi hz
  exact ⟨by rw [e1], left_of hc l2.wide s1 (sub_k (scan_sub _ _ _ _ _ _ _) _)⟩
theorem w10Write (h : M10 w G K b c S) (hb : Bd10 S) {tx : Int} (hx : (Lit.int .i64 tx).wf = true) {l : Lk} (hl : Sz2 l) (last : Int) :
    Calls Tryz.prog 16 #[.pointer (some ⟨b, 0, none⟩), .int .i64 tx, lkV l, .int .i64 last] w fun e w' => e = .returned (.int .i64 (write10 c S tx l last).1) ∧ Left10 w w' G K b c (write10 c S tx l last).2 := by
  obtain ⟨ab, kb, fb, lm, lr, rr, GR, P, m, s, hc, rfl, rfl⟩ := h
  refine (wxWrite api9 m (s.pgok hc hb) (s.wf hb) hx hl last).mono ?_
  rintro e w' ⟨zs, hz, rfl, l2⟩
  obtain ⟨e1, s1⟩ := s.write tx l last hz
  exact ⟨by rw [e1], left_of hc l2.wide s1 (sub_k (write_sub _ _ _ _ _ _) _)⟩
theorem w10Abort (h : M10 w G K b c S) (hb : Bd10 S) {tx : Int} (hx : (Lit.int .i64 tx).wf = true) :
    Calls Tryz.prog 17 #[.pointer (some ⟨b, 0, none⟩), .int .i64 tx] w fun e w' => e = .returned (.int .i64 (abort10 S tx).1) ∧ Left10 w w' G K b c (abort10 S tx).2 := by
  obtain ⟨ab, kb, fb, lm, lr, rr, GR, P, m, s, hc, rfl, rfl⟩ := h
  refine (wxAbortC api9 m (s.pgok hc hb) hx).mono ?_
  rintro e w' ⟨rfl, l2⟩
  obtain ⟨e1, s1⟩ := s.abortC tx
  refine ⟨by rw [e1], left_of hc l2.wide s1 (sub_k ?_ _)⟩
  split
  · exact abort_sub P tx
  · exact KepSub.refl P
theorem w10Commit (h : M10 w G K b c S) (hb : Bd10 S) {tx : Int} (hx : (Lit.int .i64 tx).wf = true) :
    Calls Tryz.prog 32 #[.pointer (some ⟨b, 0, none⟩), .int .i64 tx] w fun e w' => e = .returned (.tuple #[.int .i64 (commit10 c S tx).1.1, .int .i64 (commit10 c S tx).1.2]) ∧ Left10 w w' G K b c (commit10 c S tx).2 := by
  obtain ⟨ab, kb, fb, lm, lr, rr, GR, P, m, s, hc, rfl, rfl⟩ := h
  have hp := s.pgok hc hb
  have h9 : Inv9 c.reads S.L := by rw [← s.L]; exact (api9.inv m.rds).1
  have ho : Once S.H := by rw [← s.H]; exact m.lok.map.once
  have key := fun v => s.commit h9 ho tx v
  cases ha : isAct P tx with
  | false =>
    refine (wxCommit0 api9 m hp hx ha).mono ?_
    rintro e w' ⟨rfl, rfl⟩
    obtain ⟨e1, s1⟩ := key undef
    have hg : commitG c P tx undef = ((0, 101), P) := by unfold commitG; rw [if_pos ha]
    rw [hg] at e1 s1
    exact ⟨by rw [← e1], left_of hc ⟨GR, m, fun _ h => .inl h, Out.refl _ _⟩ s1 (sub_k (KepSub.refl P) _)⟩
  | true =>
    cases hbo : bothF (flgOf P tx) with
    | true =>
      refine (wxCommit1 api9 m hp hx ha hbo).mono ?_
      rintro e w' ⟨rfl, l2⟩
      obtain ⟨e1, s1⟩ := key undef
      have hg : commitG c P tx undef = ((0, 100), abortG P tx) := by unfold commitG; rw [if_neg (by rw [ha]; simp), if_pos hbo]
      rw [hg] at e1 s1
      exact ⟨by rw [← e1], left_of hc l2.wide s1 (sub_k (abort_sub P tx) _)⟩
    | false =>
      by_cases hf : keepsG P tx = true ∧ c.kept ≤ (P.kep.length : Int)
      · refine (wxCommit2 api9 m hp hx ha hbo hf.1 hf.2).mono ?_
        rintro e w' ⟨rfl, l2⟩
        obtain ⟨e1, s1⟩ := key undef
        have hg : commitG c P tx undef = ((0, 4), abortG P tx) := by unfold commitG; rw [if_neg (by rw [ha]; simp), if_neg (by rw [hbo]; simp), if_pos hf]
        rw [hg] at e1 s1
        exact ⟨by rw [← e1], left_of hc l2.wide s1 (sub_k (abort_sub P tx) _)⟩
      · refine (wxCommit3 api9 m hp hx ha hbo (fun e => by have : ¬ c.kept ≤ (P.kep.length : Int) := fun h2 => hf ⟨e, h2⟩; omega) (by rw [s.now]; exact hb.l)).mono ?_
        rintro e w' ⟨rfl, v, hv, l2⟩
        obtain ⟨e1, s1⟩ := key v
        have hg : commitG c P tx v = (((gone1 P tx).now, 0), endG (gone2 P tx v) tx) := by unfold commitG; rw [if_neg (by rw [ha]; simp), if_neg (by rw [hbo]; simp), if_neg hf]
        rw [hg] at e1 s1
        refine ⟨by rw [← e1], left_of hc l2 s1 ?_⟩
        rintro k (hk | ⟨p, hp2, hk⟩)
        · exact .inl (.inl hk)
        · have h3 := end_sub _ _ p hp2
          unfold gone2 at h3
          split at h3
          · obtain ⟨p1, p2⟩ := p
            rcases mem_putA.1 h3 with ⟨h4, -⟩ | ⟨-, h4⟩
            · exact .inl (.inr ⟨(p1, p2), h4, hk⟩)
            · rw [h4] at hk
              exact .inr (hv k hk)
          · rw [show (forgetG (gone1 P tx) tx).kep = (gone1 P tx).kep from rfl, (gone1_kep P tx).1] at h3
            exact .inl (.inr ⟨p, h3, hk⟩)
theorem w10Snap (h : M10 w G K b c S) (hb : Bd10 S) {tx : Int} (hx : (Lit.int .i64 tx).wf = true) :
    Calls Tryz.prog 30 #[.pointer (some ⟨b, 0, none⟩), .int .i64 tx] w fun e w' => e = .returned (.tuple #[.int .i64 (of10 S tx).1, .int .i64 (of10 S tx).2.2]) ∧ w' = w := by
  obtain ⟨ab, kb, fb, lm, lr, rr, GR, P, m, s, hc, rfl, rfl⟩ := h
  refine (wxSnap m (s.pgok hc hb) hx).mono ?_
  rintro e w' ⟨rfl, rfl⟩
  exact ⟨by rw [s.of10], rfl⟩
theorem w10Flags (h : M10 w G K b c S) (hb : Bd10 S) {tx : Int} (hx : (Lit.int .i64 tx).wf = true) :
    Calls Tryz.prog 29 #[.pointer (some ⟨b, 0, none⟩), .int .i64 tx] w fun e w' => e = .returned (.tuple #[flagV (of10 S tx).2.1, .int .i64 (of10 S tx).2.2]) ∧ Below w.heap.size w w' := by
  obtain ⟨ab, kb, fb, lm, lr, rr, GR, P, m, s, hc, rfl, rfl⟩ := h
  refine (wxFlags api9 m (s.pgok hc hb) hx).mono ?_
  rintro e w' ⟨rfl, g⟩
  exact ⟨by rw [s.of10], g⟩
theorem w10Now (h : M10 w G K b c S) (hb : Bd10 S) :
    Calls Tryz.prog 34 #[.pointer (some ⟨b, 0, none⟩)] w fun e w' => e = .returned (.int .i64 S.last) ∧ w' = w := by
  obtain ⟨ab, kb, fb, lm, lr, rr, GR, P, m, s, hc, rfl, rfl⟩ := h
  refine (wxNow m (s.pgok hc hb)).mono ?_
  rintro e w' ⟨rfl, rfl⟩
  exact ⟨by rw [s.now], rfl⟩
end
theorem sim_new (c : Cp10) (hc : CpOk c) {now : Int} (h0 : 0 ≤ now) : Sim10 c ⟨now, 0, [], [], [], [], []⟩ (new10 now) := by
  refine ⟨rfl, rfl, rfl, rfl, OnceA.nil, OnceA.nil, OnceA.nil, List.nodup_nil, ⟨Int.le_refl _, Int.le_refl _, h0⟩, fun t ht => (by cases ht), fun x s => ⟨fun e => (by cases e), fun h => (by obtain ⟨t, ht, -⟩ := h; cases ht)⟩, fun x k hk => (by cases hk), fun t ht => (by cases ht), fun t ht => (by cases ht), fun x f hf => (by cases hf), fun t ht => (by cases ht), fun x hx => (by cases hx), fun n hn => (by cases hn), ?_, hc.k.1⟩
  have := hc.a
  show ((0 : Nat) : Int) ≤ c.act
  omega
theorem w10New (w : World) (a k : Int) (r : Nat) (l now : Int) (h : capOk a k r l) (hnow : 0 ≤ now) :
    Calls Tryz.prog 11 #[.agg #[.int .i64 a, .int .i64 k, .int .i64 (r : Int), .int .i64 l], .int .i64 now] w fun e w' => ∃ b G K, e = .returned (.tuple #[.pointer (some ⟨b, 0, none⟩), .int .i64 0]) ∧ M10 w' G K b ⟨a, k, r, l⟩ (new10 now) ∧ (∀ x, G x → w.heap.size ≤ x) ∧ (∀ x, K x → w.heap.size ≤ x) ∧ Below w.heap.size w w' := by
  refine (wxNew api9 w a k r l now h hnow).mono ?_
  rintro e w' ⟨b, ab, kb, fb, lm, lr, rr, GR, rfl, m, hg, hl, g⟩
  have hc : CpOk ⟨a, k, r, l⟩ := ⟨h.1, h.2.1⟩
  refine ⟨b, _, _, rfl, ⟨ab, kb, fb, lm, lr, rr, GR, _, m, sim_new _ hc hnow, hc, rfl, rfl⟩, hg, ?_, g⟩
  rintro x (rfl | ⟨p, hp, -⟩)
  · exact hl
  · cases hp
end Go.Proofs.YtknppiebncdjmaaGreat

/- Layer 10: Tracked. -/
namespace Go.Proofs.YtknppiebncdjmaaGreat
set_option maxRecDepth 100000
set_option maxRecDepth 100000
open Go.RowKit Go.Maps Go.ChangeMaps Go.MapKept

theorem row4_set {w : World} {b : Nat} {t : TypeId} {u0 u1 u2 u3 : Value} (h : w.heap[b]? = some (.cells #[u0, u1, u2, u3] t (0, 0))) (x0 x1 x2 x3 : Value) : ((((w.setCell ⟨b, 0, none⟩ x0).setCell ⟨b, 1, none⟩ x1).setCell ⟨b, 2, none⟩ x2).setCell ⟨b, 3, none⟩ x3).heap[b]? = some (.cells #[x0, x1, x2, x3] t (0, 0)) := by
  have h1 := heap_setCell_same w b 0 _ _ x0 h
  have h2 := heap_setCell_same _ b 1 _ _ x1 h1
  have h3 := heap_setCell_same _ b 2 _ _ x2 h2
  have h4 := heap_setCell_same _ b 3 _ _ x3 h3
  rw [h4]
  rfl
section
variable {M : MF} {w : World} {b ab kb fb lm lr rr : Nat} {GR : Nat → Prop} {c : Cp10} {P : Pg}
set_option maxHeartbeats 8000000 in
theorem wxTrack (I : Api9 M) (h : Mem10 M w b ab kb fb lm lr rr GR c P) (hc : PgOk c P) :
    Calls Tryz.prog 27 #[.pointer (some ⟨b, 0, none⟩)] w fun e w' => e = .returned (.agg #[.int .i64 (P.act.length : Nat), .int .i64 (P.kep.length : Nat), .int .i64 (P.L.length : Nat), .int .i64 (P.H.length : Nat)]) ∧ Below w.heap.size w w' := by
  obtain ⟨W, hW⟩ : ∃ W, w.alloc (.cells #[.int .i64 0, .int .i64 0, .int .i64 0, .int .i64 0] 73) = W := ⟨_, rfl⟩
  have hB : Below w.heap.size w W := by rw [← hW]; exact (Below.refl _ _).alloc (Nat.le_refl _) _
  have q0 : W.heap[w.heap.size]? = some (.cells #[.int .i64 0, .int .i64 0, .int .i64 0, .int .i64 0] 73 (0, 0)) := by rw [← hW]; exact heap_alloc_new _ _
  have m1 := h.below I hB
  have CM := Lib.hid (wxMade m1 hc)
  have CL := Lib.hid (fun (w1 : World) (m : Mem10 M w1 b ab kb fb lm lr rr GR c P) => wkLen m.lok)
  have CR := Lib.hid (fun (w1 : World) (m : Mem10 M w1 b ab kb fb lm lr rr GR c P) => I.len m.rds)
  have QA := Lib.hid (fun (w1 : World) (m : Mem10 M w1 b ab kb fb lm lr rr GR c P) => act_len m)
  have QK := Lib.hid (fun (w1 : World) (m : Mem10 M w1 b ab kb fb lm lr rr GR c P) => kep_len m)
  have M1 := Lib.hid m1
  have HB := Lib.hid hB
  obtain ⟨-, -, -, -, -, -, c6, c7, -, c9, c10⟩ := m1.cells
  have z0 : W.cell? ⟨w.heap.size, 0, none⟩ = some (.int .i64 0) := cell_of_row _ _ 0 _ _ _ q0
  have z1 : W.cell? ⟨w.heap.size, 1, none⟩ = some (.int .i64 0) := cell_of_row _ _ 1 _ _ _ q0
  have z2 : W.cell? ⟨w.heap.size, 2, none⟩ = some (.int .i64 0) := cell_of_row _ _ 2 _ _ _ q0
  have z3 : W.cell? ⟨w.heap.size, 3, none⟩ = some (.int .i64 0) := cell_of_row _ _ 3 _ _ _ q0
  have HBL := Lib.hid h.blt.1
  obtain ⟨na, hna⟩ : ∃ n, P.act.length = n := ⟨_, rfl⟩
  obtain ⟨nk, hnk⟩ : ∃ n, P.kep.length = n := ⟨_, rfl⟩
  obtain ⟨nl, hnl⟩ : ∃ n, P.L.length = n := ⟨_, rfl⟩
  obtain ⟨nh, hnh⟩ : ∃ n, P.H.length = n := ⟨_, rfl⟩
  rw [hna] at QA
  rw [hnk] at QK
  rw [hnl] at CR
  rw [hnh] at CL
  rw [hna, hnk, hnl, hnh]
  have M0 := Lib.hid h
  clear h hc m1 hB hna hnk hnl hnh
  go_enter Tryz.func27, Tryz.ntmps27
  go_upto_region 3 with (go_at_call 40; go_loud (refine CM.out.mono ?_; rintro e w1 ⟨rfl, hw⟩; replace hw := hw.symm; subst hw))
  try rw [hW]
  have MD := Lib.hid (M1.out.below I (Below.refl W.heap.size W).drew)
  have qA := QA.out _ MD.out
  have qK := QK.out _ MD.out
  have f0 : ∀ j, W.frozen? ⟨w.heap.size, j, none⟩ = false := fun j => frozen_of_row _ _ _ _ _ q0
  have hS : W.cell? ⟨b, 6, none⟩ = some (.map (some ab)) ∧ W.cell? ⟨b, 7, none⟩ = some (.map (some kb)) ∧ W.cell? ⟨b, 9, none⟩ = some (.pointer (some ⟨lm, 0, none⟩)) ∧ W.cell? ⟨b, 10, none⟩ = some (.pointer (some ⟨rr, 0, none⟩)) ∧ (Builtin.len_ #[86] 3 #[.map (some ab)]).run Tryz.prog W = .ok (.int .i64 (na : Nat)) W ∧ (Builtin.len_ #[87] 3 #[.map (some kb)]).run Tryz.prog W = .ok (.int .i64 (nk : Nat)) W := ⟨c6, c7, c9, c10, QA.out _ M1.out _, QK.out _ M1.out _⟩
  have SB2 := Lib.hid (show ∀ V, Below W.heap.size W V → (V.cell? ⟨b, 6, none⟩ = some (.map (some ab)) ∧ V.cell? ⟨b, 7, none⟩ = some (.map (some kb)) ∧ V.cell? ⟨b, 9, none⟩ = some (.pointer (some ⟨lm, 0, none⟩)) ∧ V.cell? ⟨b, 10, none⟩ = some (.pointer (some ⟨rr, 0, none⟩)) ∧ (Builtin.len_ #[86] 3 #[.map (some ab)]).run Tryz.prog V = .ok (.int .i64 (na : Nat)) V ∧ (Builtin.len_ #[87] 3 #[.map (some kb)]).run Tryz.prog V = .ok (.int .i64 (nk : Nat)) V) ∧ V.heap[w.heap.size]? = some (.cells #[.int .i64 0, .int .i64 0, .int .i64 0, .int .i64 0] 73 (0, 0)) from fun V g => ⟨⟨keep_below c6 g, keep_below c7 g, keep_below c9 g, keep_below c10 g, QA.out _ (M1.out.below I g) _, QK.out _ (M1.out.below I g) _⟩, (g.block _ (Array.getElem?_eq_some_iff.1 q0).1).trans q0⟩)
  have hD := (SB2.out _ (Below.refl W.heap.size W).drew).1
  clear hW q0 f0 hS
  have SE := Lib.hid (show ∀ V, Below W.heap.size W V → ∀ x0 x1 x2 x3 : Value, ((((V.setCell ⟨w.heap.size, 0, none⟩ x0).setCell ⟨w.heap.size, 1, none⟩ x1).setCell ⟨w.heap.size, 2, none⟩ x2).setCell ⟨w.heap.size, 3, none⟩ x3).cell? ⟨b, 6, none⟩ = some (.map (some ab)) ∧ ((((V.setCell ⟨w.heap.size, 0, none⟩ x0).setCell ⟨w.heap.size, 1, none⟩ x1).setCell ⟨w.heap.size, 2, none⟩ x2).setCell ⟨w.heap.size, 3, none⟩ x3).cell? ⟨b, 7, none⟩ = some (.map (some kb)) ∧ ((((V.setCell ⟨w.heap.size, 0, none⟩ x0).setCell ⟨w.heap.size, 1, none⟩ x1).setCell ⟨w.heap.size, 2, none⟩ x2).setCell ⟨w.heap.size, 3, none⟩ x3).cell? ⟨b, 9, none⟩ = some (.pointer (some ⟨lm, 0, none⟩)) ∧ ((((V.setCell ⟨w.heap.size, 0, none⟩ x0).setCell ⟨w.heap.size, 1, none⟩ x1).setCell ⟨w.heap.size, 2, none⟩ x2).setCell ⟨w.heap.size, 3, none⟩ x3).cell? ⟨b, 10, none⟩ = some (.pointer (some ⟨rr, 0, none⟩)) ∧ (Builtin.len_ #[86] 3 #[.map (some ab)]).run Tryz.prog ((((V.setCell ⟨w.heap.size, 0, none⟩ x0).setCell ⟨w.heap.size, 1, none⟩ x1).setCell ⟨w.heap.size, 2, none⟩ x2).setCell ⟨w.heap.size, 3, none⟩ x3) = .ok (.int .i64 (na : Nat)) ((((V.setCell ⟨w.heap.size, 0, none⟩ x0).setCell ⟨w.heap.size, 1, none⟩ x1).setCell ⟨w.heap.size, 2, none⟩ x2).setCell ⟨w.heap.size, 3, none⟩ x3) ∧ (Builtin.len_ #[87] 3 #[.map (some kb)]).run Tryz.prog ((((V.setCell ⟨w.heap.size, 0, none⟩ x0).setCell ⟨w.heap.size, 1, none⟩ x1).setCell ⟨w.heap.size, 2, none⟩ x2).setCell ⟨w.heap.size, 3, none⟩ x3) = .ok (.int .i64 (nk : Nat)) ((((V.setCell ⟨w.heap.size, 0, none⟩ x0).setCell ⟨w.heap.size, 1, none⟩ x1).setCell ⟨w.heap.size, 2, none⟩ x2).setCell ⟨w.heap.size, 3, none⟩ x3) from fun V g x0 x1 x2 x3 => by
    obtain ⟨⟨a1, a2, a3, a4, -, -⟩, -⟩ := SB2.out V g
    have mm := M0.out.below I (show Below w.heap.size w ((((V.setCell ⟨w.heap.size, 0, none⟩ x0).setCell ⟨w.heap.size, 1, none⟩ x1).setCell ⟨w.heap.size, 2, none⟩ x2).setCell ⟨w.heap.size, 3, none⟩ x3) from ((((below_next HB.out g).setCell (by exact Nat.le_refl _) x0).setCell (by exact Nat.le_refl _) x1).setCell (by exact Nat.le_refl _) x2).setCell (by exact Nat.le_refl _) x3)
    have hb : Out (fun k => k = w.heap.size) V ((((V.setCell ⟨w.heap.size, 0, none⟩ x0).setCell ⟨w.heap.size, 1, none⟩ x1).setCell ⟨w.heap.size, 2, none⟩ x2).setCell ⟨w.heap.size, 3, none⟩ x3) := by
      refine Out.setCell (F := fun k => k = w.heap.size) (Out.setCell (F := fun k => k = w.heap.size) (Out.setCell (F := fun k => k = w.heap.size) (Out.setCell (F := fun k => k = w.heap.size) (Out.refl _ V) ?_ _) ?_ _) ?_ _) ?_ _ <;> exact .inl rfl
    have hne : ¬ b = w.heap.size := by have := HBL.out; omega
    exact ⟨hb.cell a1 hne, hb.cell a2 hne, hb.cell a3 hne, hb.cell a4 hne, QA.out _ mm _, QK.out _ mm _⟩)
  go_region_held3 (fun w' => w'.cell? ⟨b, 6, none⟩ = some (.map (some ab)) ∧ w'.cell? ⟨b, 7, none⟩ = some (.map (some kb)) ∧ w'.cell? ⟨b, 9, none⟩ = some (.pointer (some ⟨lm, 0, none⟩)) ∧ w'.cell? ⟨b, 10, none⟩ = some (.pointer (some ⟨rr, 0, none⟩)) ∧ (Builtin.len_ #[86] 3 #[.map (some ab)]).run Tryz.prog w' = .ok (.int .i64 (na : Nat)) w' ∧ (Builtin.len_ #[87] 3 #[.map (some kb)]).run Tryz.prog w' = .ok (.int .i64 (nk : Nat)) w') (first | exact hD | exact S2 | exact SE.out _ BV.out _ _ _ _)
    (first
      | (go_at_call 72; go_loud (refine (CL.out _ MV.out).mono ?_; rintro e w1 ⟨rfl, hw⟩; replace hw := hw.symm; subst hw))
      | (go_at_call 72; go_loud (refine (CL.out _ MD.out).mono ?_; rintro e w1 ⟨rfl, hw⟩; replace hw := hw.symm; subst hw))
      | (go_at_call 71; go_loud (refine (CR.out _ MD.out).mono ?_; rintro e V ⟨rfl, g⟩; have bv : Below W.heap.size W V := (Below.refl W.heap.size W).drew.trans g; have MV := Lib.hid (M1.out.below I bv); have BV := Lib.hid bv; obtain ⟨S2, hz⟩ := SB2.out _ bv; have HZ := Lib.hid hz; have qA := QA.out _ MV.out; have qK := QK.out _ MV.out; have y0 : V.cell? ⟨w.heap.size, 0, none⟩ = some (.int .i64 0) := cell_of_row _ _ 0 _ _ _ hz; have y1 : V.cell? ⟨w.heap.size, 1, none⟩ = some (.int .i64 0) := cell_of_row _ _ 1 _ _ _ hz; have y2 : V.cell? ⟨w.heap.size, 2, none⟩ = some (.int .i64 0) := cell_of_row _ _ 2 _ _ _ hz; have y3 : V.cell? ⟨w.heap.size, 3, none⟩ = some (.int .i64 0) := cell_of_row _ _ 3 _ _ _ hz; have g0 : V.frozen? ⟨w.heap.size, 0, none⟩ = false := frozen_of_row _ _ _ _ _ hz; have g1 : V.frozen? ⟨w.heap.size, 1, none⟩ = false := frozen_of_row _ _ _ _ _ hz; have g2 : V.frozen? ⟨w.heap.size, 2, none⟩ = false := frozen_of_row _ _ _ _ _ hz; have g3 : V.frozen? ⟨w.heap.size, 3, none⟩ = false := frozen_of_row _ _ _ _ _ hz; clear g bv hz)))
  all_goals
    have r4 := row4_set HZ.out (.int .i64 (na : Nat)) (.int .i64 (nk : Nat)) (.int .i64 (nl : Nat)) (.int .i64 (nh : Nat))
    have v0 := cell_of_row _ _ 0 _ _ _ r4
    have v1 := cell_of_row _ _ 1 _ _ _ r4
    have v2 := cell_of_row _ _ 2 _ _ _ r4
    have v3 := cell_of_row _ _ 3 _ _ _ r4
    go_wp2
    refine bodyPost_ret (v := .agg #[.int .i64 (na : Nat), .int .i64 (nk : Nat), .int .i64 (nl : Nat), .int .i64 (nh : Nat)]) (by simp [results, Tryz.results27, go_sem, v0, v1, v2, v3]; first | done | rfl) rfl ⟨rfl, ?_⟩
    have hb := below_next HB.out BV.out
    exact (((hb.setCell (by exact Nat.le_refl _) _).setCell (by exact Nat.le_refl _) _).setCell (by exact Nat.le_refl _) _).setCell (by exact Nat.le_refl _) _
end
end Go.Proofs.YtknppiebncdjmaaGreat

/- Layer 10: the law's begun. -/
namespace Go.Proofs.YtknppiebncdjmaaGreat
set_option maxRecDepth 100000
set_option maxRecDepth 100000
open Go.RowKit Go.Maps Go.ChangeMaps Go.MapKept

theorem w10Track {w : World} {G K : Nat → Prop} {b : Nat} {c : Cp10} {S : St10} (h : M10 w G K b c S) (hb : Bd10 S) :
    Calls Tryz.prog 27 #[.pointer (some ⟨b, 0, none⟩)] w fun e w' => e = .returned (.agg #[.int .i64 (activeP S.list : Nat), .int .i64 ((S.list.length : Int) - activeP S.list), .int .i64 (S.L.length : Nat), .int .i64 (S.H.length : Nat)]) ∧ Below w.heap.size w w' := by
  obtain ⟨ab, kb, fb, lm, lr, rr, GR, P, m, s, hc, rfl, rfl⟩ := h
  refine (wxTrack api9 m (s.pgok hc hb)).mono ?_
  rintro e w' ⟨rfl, g⟩
  exact ⟨by rw [s.actN, s.kepN, s.L, s.H], g⟩
theorem Left10.m {w w' : World} {G K : Nat → Prop} {b : Nat} {c : Cp10} {S' : St10} (h : Left10 w w' G K b c S') {B : Nat} (hB : B ≤ w.heap.size) (hG : ∀ k, G k → B ≤ k) (hK : ∀ k, K k → B ≤ k) : ∃ G' K', M10 w' G' K' b c S' ∧ (∀ k, G' k → B ≤ k) ∧ (∀ k, K' k → B ≤ k) ∧ Below B w w' := by
  obtain ⟨G', K', m, hg, hk, o⟩ := h
  refine ⟨G', K', m, fun k h => (hg k h).elim (hG k) (fun h => by omega), fun k h => (hk k h).elim (hK k) (fun h => by omega), o.below hB fun i hi h => by have := hG i h; omega⟩
def cp2 : Cp10 := ⟨2, 2, 2, 2⟩
def stB1 : St10 := (begin10 cp2 (new10 5)).2
def stB2 : St10 := (write10 cp2 stB1 1 (⟨#[116]⟩, ⟨#[]⟩) 0).2
theorem begB : (begin10 cp2 (new10 5)).1 = (1, 5, 0) := by rfl
theorem wriB : (write10 cp2 stB1 1 (⟨#[116]⟩, ⟨#[]⟩) 0).1 = 0 ∧ stB2.H.length = 1 ∧ stB2.next = 1 ∧ stB2.last = 5 ∧ stB1.next = 1 ∧ stB1.last = 5 := by
  refine ⟨?_, ?_, ?_, ?_, rfl, rfl⟩ <;> rfl
set_option maxHeartbeats 8000000 in
theorem wbegun10 (w : World) : Calls Tryz.prog 13 #[] w fun e w' => e = .returned (.bool true) ∧ Below w.heap.size w w' := by
  have CN := Lib.hid (show Calls Tryz.prog 11 #[.agg #[.int .i64 2, .int .i64 2, .int .i64 2, .int .i64 2], .int .i64 5] w fun e w' => ∃ b G K, e = .returned (.tuple #[.pointer (some ⟨b, 0, none⟩), .int .i64 0]) ∧ M10 w' G K b cp2 (new10 5) ∧ (∀ x, G x → w.heap.size ≤ x) ∧ (∀ x, K x → w.heap.size ≤ x) ∧ Below w.heap.size w w' from w10New w 2 2 2 2 5 ⟨⟨by decide, by decide⟩, ⟨by decide, by decide⟩, ⟨by decide, by decide⟩, by decide, by decide⟩ (by decide))
  have CB := Lib.hid (fun (w1 : World) (G K : Nat → Prop) (b : Nat) (m : M10 w1 G K b cp2 (new10 5)) => show Calls Tryz.prog 15 #[.pointer (some ⟨b, 0, none⟩)] w1 fun e w' => e = .returned (.tuple #[.int .i64 1, .int .i64 5, .int .i64 0]) ∧ Left10 w1 w' G K b cp2 stB1 from by
    have := w10Begin m ⟨by decide, by decide⟩
    rw [begB] at this
    exact this)
  have CW := Lib.hid (fun (w1 : World) (G K : Nat → Prop) (b : Nat) (m : M10 w1 G K b cp2 stB1) => show Calls Tryz.prog 16 #[.pointer (some ⟨b, 0, none⟩), .int .i64 1, .agg #[.string ⟨#[116]⟩, .string ⟨#[]⟩], .int .i64 0] w1 fun e w' => e = .returned (.int .i64 0) ∧ Left10 w1 w' G K b cp2 stB2 from by
    have := w10Write m ⟨by rw [wriB.2.2.2.2.1]; decide, by rw [wriB.2.2.2.2.2]; decide⟩ (tx := 1) (by decide) (l := (⟨#[116]⟩, ⟨#[]⟩)) ⟨by decide, by decide⟩ 0
    rw [wriB.1] at this
    exact this)
  have CT := Lib.hid (fun (w1 : World) (G K : Nat → Prop) (b : Nat) (m : M10 w1 G K b cp2 stB2) => show Calls Tryz.prog 27 #[.pointer (some ⟨b, 0, none⟩)] w1 fun e w' => ∃ a k l, e = .returned (.agg #[.int .i64 a, .int .i64 k, .int .i64 l, .int .i64 1]) ∧ Below w1.heap.size w1 w' from by
    refine (w10Track m ⟨by rw [wriB.2.2.1]; decide, by rw [wriB.2.2.2.1]; decide⟩).mono ?_
    rintro e w' ⟨rfl, g⟩
    exact ⟨_, _, _, by rw [wriB.2.1]; rfl, g⟩)
  have qF : ∀ (W : World) (a k l : Int), (Instr.field 73 (.agg #[.int .i64 a, .int .i64 k, .int .i64 l, .int .i64 1]) 3).run Tryz.prog W = .ok (.int .i64 1) W := fun W a k l => by kernel_rfl
  go_enter Tryz.func13, Tryz.ntmps13
  go_wp2_with (first
    | (go_at_call 11; go_loud (refine CN.out.mono ?_; rintro e w1 ⟨b, G, K, rfl, m1, g1, k1, b1⟩; have M1 := Lib.hid m1; have GK1 := Lib.hid (And.intro g1 k1); have B1 := Lib.hid b1; clear m1 g1 k1 b1))
    | (go_at_call 15; go_loud (refine (CB.out _ _ _ _ M1.out).mono ?_; rintro e w2 ⟨rfl, l2⟩; obtain ⟨G2, K2, m2, g2, k2, b2⟩ := l2.m B1.out.size GK1.out.1 GK1.out.2; have M2 := Lib.hid m2; have GK2 := Lib.hid (And.intro g2 k2); have B2 := Lib.hid (B1.out.trans b2); clear m2 g2 k2 b2 l2))
    | (go_at_call 16; go_loud (refine (CW.out _ _ _ _ M2.out).mono ?_; rintro e w3 ⟨rfl, l3⟩; obtain ⟨G3, K3, m3, g3, k3, b3⟩ := l3.m B2.out.size GK2.out.1 GK2.out.2; have M3 := Lib.hid m3; have B3 := Lib.hid (B2.out.trans b3); clear m3 g3 k3 b3 l3))
    | (go_at_call 27; go_loud (refine (CT.out _ _ _ _ M3.out).mono ?_; rintro e w4 ⟨a4, k4, l4, rfl, b4⟩; have B4 := Lib.hid (below_next B3.out b4); clear b4)))
  go_ret
  exact ⟨rfl, B4.out⟩
end Go.Proofs.YtknppiebncdjmaaGreat
