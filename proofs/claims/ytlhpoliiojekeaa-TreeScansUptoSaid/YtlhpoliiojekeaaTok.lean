/- What stands behind each other in a node: laws of its order. -/
import Derived.Test.YtlhpoliiojekeaaNode
namespace Go.Proofs.Ytlhpoliiojekeaa
set_option maxRecDepth 100000
open Go.RowKit

theorem toks_join (s : ByteArray) (S2 : List ByteArray) (K2 : List Kid) : ∀ (S1 : List ByteArray) (K1 : List Kid), K1.length = S1.length + 1 → toks (S1 ++ s :: S2) (K1 ++ K2) = toks S1 K1 ++ Tk.sep s :: toks S2 K2
  | [], [y], _ => rfl
  | [], [], h => by simp at h
  | [], _ :: _ :: _, h => by simp at h
  | _ :: _, [], h => by simp at h
  | a :: S1, y :: K1, h => by
    simp only [List.cons_append, toks]
    rw [toks_join s S2 K2 S1 K1 (by simpa using h)]
    simp
def frontT : List ByteArray → List Kid → List Tk
  | s :: S, y :: K => kt y ++ Tk.sep s :: frontT S K
  | _, _ => []
def backT : List ByteArray → List Kid → List Tk
  | s :: S, y :: K => Tk.sep s :: (kt y ++ backT S K)
  | _, _ => []
theorem toks_back (y : Kid) : ∀ (S : List ByteArray) (K : List Kid), S.length = K.length → toks S (y :: K) = kt y ++ backT S K
  | [], [], _ => by simp [toks, backT]
  | [], _ :: _, h => by simp at h
  | _ :: _, [], h => by simp at h
  | s :: S, z :: K, h => by
    simp only [toks, backT]
    rw [toks_back z S K (by simpa using h)]
theorem toks_mid (y : Kid) (S2 : List ByteArray) (K2 : List Kid) (h2 : S2.length = K2.length) : ∀ (S1 : List ByteArray) (K1 : List Kid), K1.length = S1.length → toks (S1 ++ S2) (K1 ++ y :: K2) = frontT S1 K1 ++ (kt y ++ backT S2 K2)
  | [], [], _ => by simpa [frontT] using toks_back y S2 K2 h2
  | [], _ :: _, h => by simp at h
  | _ :: _, [], h => by simp at h
  | s :: S1, z :: K1, h => by
    simp only [List.cons_append, toks, frontT]
    rw [toks_mid y S2 K2 h2 S1 K1 (by simpa using h)]
    simp
theorem mem_kt {y : Kid} {p : Pr} (h : p ∈ y.ps) : Tk.key p.1 ∈ kt y := by
  simp only [kt, keys, List.map_map, List.mem_map]
  exact ⟨p, h, rfl⟩
theorem kt_mem {y : Kid} {u : Tk} (h : u ∈ kt y) : ∃ p ∈ y.ps, u = Tk.key p.1 := by
  simp only [kt, keys, List.map_map, List.mem_map] at h
  obtain ⟨p, hp, rfl⟩ := h
  exact ⟨p, hp, rfl⟩
theorem kidsP_cons (y : Kid) (K : List Kid) : kidsP (y :: K) = y.ps ++ kidsP K := by simp [kidsP]
theorem kidsP_app (K1 K2 : List Kid) : kidsP (K1 ++ K2) = kidsP K1 ++ kidsP K2 := by simp [kidsP]
theorem mem_toks : ∀ (S : List ByteArray) (K : List Kid), K.length = S.length + 1 → ∀ p ∈ kidsP K, Tk.key p.1 ∈ toks S K
  | [], [y], _, p, hp => by simp [kidsP] at hp; exact mem_kt hp
  | [], [], h, _, _ => by simp at h
  | [], _ :: _ :: _, h, _, _ => by simp at h
  | _ :: _, [], h, _, _ => by simp at h
  | s :: S, y :: K, h, p, hp => by
    rw [kidsP_cons] at hp
    simp only [toks]
    rcases List.mem_append.1 hp with hp | hp
    · exact List.mem_append_left _ (mem_kt hp)
    · exact List.mem_append_right _ (List.mem_cons_of_mem _ (mem_toks S K (by simpa using h) p hp))
theorem sep_toks : ∀ (S : List ByteArray) (K : List Kid), K.length = S.length + 1 → ∀ s ∈ S, Tk.sep s ∈ toks S K
  | [], _, _, s, hs => by simp at hs
  | _ :: _, [], h, _, _ => by simp at h
  | a :: S, y :: K, h, s, hs => by
    simp only [toks]
    rcases List.mem_cons.1 hs with rfl | hs
    · exact List.mem_append_right _ (List.mem_cons_self ..)
    · exact List.mem_append_right _ (List.mem_cons_of_mem _ (sep_toks S K (by simpa using h) s hs))
theorem toks_mem : ∀ (S : List ByteArray) (K : List Kid) (u : Tk), u ∈ toks S K → (∃ s ∈ S, u = Tk.sep s) ∨ (∃ p ∈ kidsP K, u = Tk.key p.1)
  | _, [], _, h => by simp [toks] at h
  | [], y :: K, u, h => by
    obtain ⟨p, hp, rfl⟩ := kt_mem (show u ∈ kt y from h)
    exact .inr ⟨p, by rw [kidsP_cons]; exact List.mem_append_left _ hp, rfl⟩
  | s :: S, y :: K, u, h => by
    simp only [toks] at h
    rcases List.mem_append.1 h with h | h
    · obtain ⟨p, hp, rfl⟩ := kt_mem h
      exact .inr ⟨p, by rw [kidsP_cons]; exact List.mem_append_left _ hp, rfl⟩
    · rcases List.mem_cons.1 h with rfl | h
      · exact .inl ⟨s, List.mem_cons_self .., rfl⟩
      · rcases toks_mem S K u h with ⟨t, ht, rfl⟩ | ⟨p, hp, rfl⟩
        · exact .inl ⟨t, List.mem_cons_of_mem _ ht, rfl⟩
        · exact .inr ⟨p, by rw [kidsP_cons]; exact List.mem_append_right _ hp, rfl⟩
theorem front_mem : ∀ (S : List ByteArray) (K : List Kid) (u : Tk), u ∈ frontT S K → (∃ s ∈ S, u = Tk.sep s) ∨ (∃ p ∈ kidsP K, u = Tk.key p.1)
  | [], _, _, h => by simp [frontT] at h
  | _ :: _, [], _, h => by simp [frontT] at h
  | s :: S, y :: K, u, h => by
    simp only [frontT] at h
    rcases List.mem_append.1 h with h | h
    · obtain ⟨p, hp, rfl⟩ := kt_mem h
      exact .inr ⟨p, by rw [kidsP_cons]; exact List.mem_append_left _ hp, rfl⟩
    · rcases List.mem_cons.1 h with rfl | h
      · exact .inl ⟨s, List.mem_cons_self .., rfl⟩
      · rcases front_mem S K u h with ⟨t, ht, rfl⟩ | ⟨p, hp, rfl⟩
        · exact .inl ⟨t, List.mem_cons_of_mem _ ht, rfl⟩
        · exact .inr ⟨p, by rw [kidsP_cons]; exact List.mem_append_right _ hp, rfl⟩
theorem back_mem : ∀ (S : List ByteArray) (K : List Kid) (u : Tk), u ∈ backT S K → (∃ s ∈ S, u = Tk.sep s) ∨ (∃ p ∈ kidsP K, u = Tk.key p.1)
  | [], _, _, h => by simp [backT] at h
  | _ :: _, [], _, h => by simp [backT] at h
  | s :: S, y :: K, u, h => by
    simp only [backT] at h
    rcases List.mem_cons.1 h with rfl | h
    · exact .inl ⟨s, List.mem_cons_self .., rfl⟩
    · rcases List.mem_append.1 h with h | h
      · obtain ⟨p, hp, rfl⟩ := kt_mem h
        exact .inr ⟨p, by rw [kidsP_cons]; exact List.mem_append_left _ hp, rfl⟩
      · rcases back_mem S K u h with ⟨t, ht, rfl⟩ | ⟨p, hp, rfl⟩
        · exact .inl ⟨t, List.mem_cons_of_mem _ ht, rfl⟩
        · exact .inr ⟨p, by rw [kidsP_cons]; exact List.mem_append_right _ hp, rfl⟩
theorem tr_sep {u v : Tk} {k : ByteArray} (h1 : tr u (.sep k)) (h2 : tr (.sep k) v) : tr u v := by
  cases u <;> cases v <;> simp only [tr] at h1 h2 ⊢
  · exact kl_lt_le h1 h2
  · exact kl_trans h1 h2
  · rename_i s b
    cases h3 : kl b s
    · rfl
    · have := kl_trans h3 h1; rw [h2] at this; cases this
  · exact kl_trans h1 h2
theorem cut_at {α : Type} (l : List α) (i : Nat) (a : α) (h : l[i]? = some a) : l = l.take i ++ a :: l.drop (i + 1) := by
  obtain ⟨hlt, rfl⟩ := List.getElem?_eq_some_iff.1 h
  rw [← List.drop_eq_getElem_cons hlt, List.take_append_drop]
section
variable {N : Value → List Pr → Nat → Prop} {w : World} {g : Nat} {ps : List Pr} {ks : List ByteArray} {kids : List Kid}
theorem toks_rise : ∀ (S : List ByteArray) (K : List Kid), K.length = S.length + 1 → (toks S K).Pairwise tr → Rises S
  | [], _, _, _ => List.Pairwise.nil
  | _ :: _, [], h, _ => by simp at h
  | s :: S, y :: K, h, hp => by
    simp only [toks] at hp
    have h1 := (List.pairwise_append.1 hp).2.1
    have h2 := List.pairwise_cons.1 h1
    refine List.pairwise_cons.2 ⟨fun t ht => ?_, toks_rise S K (by simpa using h) h2.2⟩
    exact h2.1 _ (sep_toks S K (by simpa using h) t ht)
theorem InC.rise (h : InC N w g ps ks kids) : Rises ks := toks_rise ks kids h.num h.tok
theorem InC.cutS (h : InC N w g ps ks kids) {i : Nat} {s : ByteArray} (hs : ks[i]? = some s) : toks ks kids = toks (ks.take i) (kids.take (i + 1)) ++ Tk.sep s :: toks (ks.drop (i + 1)) (kids.drop (i + 1)) := by
  have hlt := (List.getElem?_eq_some_iff.1 hs).1
  have hn := h.num
  have h1 := toks_join s (ks.drop (i + 1)) (kids.drop (i + 1)) (ks.take i) (kids.take (i + 1)) (by rw [List.length_take, List.length_take]; omega)
  rw [← cut_at ks i s hs, List.take_append_drop] at h1
  exact h1
theorem InC.below (h : InC N w g ps ks kids) : ∀ i s, ks[i]? = some s → ∀ p ∈ kidsP (kids.take (i + 1)), kl p.1 s = true := by
  intro i s hs p hp
  have hlt := (List.getElem?_eq_some_iff.1 hs).1
  have hn := h.num
  have h1 := h.tok
  rw [h.cutS hs] at h1
  exact (List.pairwise_append.1 h1).2.2 _ (mem_toks _ _ (by rw [List.length_take, List.length_take]; omega) p hp) _ (List.mem_cons_self ..)
theorem InC.above (h : InC N w g ps ks kids) : ∀ i s, ks[i]? = some s → ∀ p ∈ kidsP (kids.drop (i + 1)), kl p.1 s = false := by
  intro i s hs p hp
  have hlt := (List.getElem?_eq_some_iff.1 hs).1
  have hn := h.num
  have h1 := h.tok
  rw [h.cutS hs] at h1
  exact (List.pairwise_cons.1 (List.pairwise_append.1 h1).2.1).1 _ (mem_toks _ _ (by rw [List.length_drop, List.length_drop]; omega) p hp)
end

/-- A kid's keys change at one key. -/
theorem tok_change {U V : List Tk} {y y' : Kid} {k : ByteArray} {P : List Pr} (h : (U ++ (kt y ++ V)).Pairwise tr) (hr : Rises (keys y'.ps)) (hm : ∀ p ∈ y'.ps, p.1 = k ∨ p ∈ y.ps) (hU : ∀ u ∈ U, tr u (.key k)) (hV : ∀ u ∈ V, tr (.key k) u) :
    (U ++ (kt y' ++ V)).Pairwise tr := by
  rw [List.pairwise_append, List.pairwise_append] at h ⊢
  obtain ⟨h1, ⟨h2, h3, h4⟩, h5⟩ := h
  refine ⟨h1, ⟨?_, h3, fun a ha b hb => ?_⟩, fun a ha b hb => ?_⟩
  · unfold kt
    rw [List.pairwise_map]
    exact hr
  · obtain ⟨p, hp, rfl⟩ := kt_mem ha
    rcases hm p hp with e | hp
    · rw [e]; exact hV b hb
    · exact h4 _ (mem_kt hp) b hb
  · rcases List.mem_append.1 hb with hb | hb
    · obtain ⟨p, hp, rfl⟩ := kt_mem hb
      rcases hm p hp with e | hp
      · rw [e]; exact hU a ha
      · exact h5 a ha _ (List.mem_append_left _ (mem_kt hp))
    · exact h5 a ha b (List.mem_append_right _ hb)
/-- Two neighbours become one. -/
theorem tok_join {U V : List Tk} {a b y : Kid} {s : ByteArray} (h : (U ++ (kt a ++ Tk.sep s :: (kt b ++ V))).Pairwise tr) (hy : y.ps = a.ps ++ b.ps) : (U ++ (kt y ++ V)).Pairwise tr := by
  refine h.sublist ?_
  refine List.Sublist.append (List.Sublist.refl _) ?_
  have : kt y ++ V = kt a ++ (kt b ++ V) := by simp [kt, keys, hy]
  rw [this]
  exact List.Sublist.append (List.Sublist.refl _) (List.sublist_cons_self _ _)
/-- One becomes two neighbours. -/
theorem tok_split {U V : List Tk} {a b y : Kid} {s : ByteArray} (h : (U ++ (kt y ++ V)).Pairwise tr) (hy : y.ps = a.ps ++ b.ps) (ha : a.ps ≠ []) (hb : b.ps ≠ []) (h1 : ∀ p ∈ a.ps, kl p.1 s = true) (h2 : ∀ p ∈ b.ps, kl p.1 s = false) :
    (U ++ (kt a ++ Tk.sep s :: (kt b ++ V))).Pairwise tr := by
  have e : kt y ++ V = kt a ++ (kt b ++ V) := by simp [kt, keys, hy]
  rw [e] at h
  rw [List.pairwise_append, List.pairwise_append] at h ⊢
  obtain ⟨q1, ⟨q2, q3, q4⟩, q5⟩ := h
  obtain ⟨pa, hpa⟩ := List.exists_mem_of_ne_nil _ ha
  obtain ⟨pb, hpb⟩ := List.exists_mem_of_ne_nil _ hb
  have q6 := (List.pairwise_append.1 q3).2.2
  refine ⟨q1, ⟨q2, List.pairwise_cons.2 ⟨fun v hv => ?_, q3⟩, fun u hu v hv => ?_⟩, fun u hu v hv => ?_⟩
  · rcases List.mem_append.1 hv with hv | hv
    · obtain ⟨p, hp, rfl⟩ := kt_mem hv
      exact h2 p hp
    · have h3 := q6 _ (mem_kt hpb) v hv
      cases v with
      | key c => simp only [tr] at h3 ⊢; exact kl_asymm (kl_le_lt (h2 pb hpb) h3)
      | sep c => simp only [tr] at h3 ⊢; exact kl_le_lt (h2 pb hpb) h3
  · rcases List.mem_cons.1 hv with rfl | hv
    · obtain ⟨p, hp, rfl⟩ := kt_mem hu
      exact h1 p hp
    · exact q4 u hu v hv
  · rcases List.mem_append.1 hv with hv | hv
    · exact q5 u hu v (List.mem_append_left _ hv)
    · rcases List.mem_cons.1 hv with rfl | hv
      · have h3 := q5 u hu _ (List.mem_append_left _ (mem_kt hpa))
        cases u with
        | key c => simp only [tr] at h3 ⊢; exact kl_trans h3 (h1 pa hpa)
        | sep c => simp only [tr] at h3 ⊢; exact kl_le_lt h3 (h1 pa hpa)
      · exact q5 u hu v (List.mem_append_right _ hv)
/-- A separating key has a key of what is below that is not below it. -/
theorem sep_after : ∀ (S : List ByteArray) (K : List Kid), K.length = S.length + 1 → (toks S K).Pairwise tr → (∀ y ∈ K, y.ps ≠ []) → ∀ s ∈ S, ∃ p ∈ kidsP K, kl p.1 s = false
  | [], _, _, _, _, s, hs => by simp at hs
  | _ :: _, [], h, _, _, _, _ => by simp at h
  | a :: S, y :: K, h, hp, hne, s, hs => by
    simp only [toks] at hp
    have h2 := List.pairwise_cons.1 (List.pairwise_append.1 hp).2.1
    have hK : K.length = S.length + 1 := by simpa using h
    rcases List.mem_cons.1 hs with rfl | hs
    · obtain ⟨z, K', rfl⟩ : ∃ z K', K = z :: K' := by
        cases K with
        | nil => simp at hK
        | cons z K' => exact ⟨z, K', rfl⟩
      obtain ⟨p, hpz⟩ := List.exists_mem_of_ne_nil _ (hne z (by simp))
      refine ⟨p, by rw [kidsP_cons, kidsP_cons]; simp [hpz], ?_⟩
      exact h2.1 _ (mem_toks S _ hK p (by rw [kidsP_cons]; simp [hpz]))
    · obtain ⟨p, hp, h3⟩ := sep_after S K hK h2.2 (fun z hz => hne z (List.mem_cons_of_mem _ hz)) s hs
      exact ⟨p, by rw [kidsP_cons]; exact List.mem_append_right _ hp, h3⟩
theorem sep_before : ∀ (S : List ByteArray) (K : List Kid), K.length = S.length + 1 → (toks S K).Pairwise tr → (∀ y ∈ K, y.ps ≠ []) → ∀ s ∈ S, ∃ p ∈ kidsP K, kl p.1 s = true
  | [], _, _, _, _, s, hs => by simp at hs
  | _ :: _, [], h, _, _, _, _ => by simp at h
  | a :: S, y :: K, h, hp, hne, s, hs => by
    simp only [toks] at hp
    have h1 := (List.pairwise_append.1 hp).2.2
    obtain ⟨p, hpy⟩ := List.exists_mem_of_ne_nil _ (hne y (by simp))
    refine ⟨p, by rw [kidsP_cons]; simp [hpy], ?_⟩
    have hK : K.length = S.length + 1 := by simpa using h
    rcases List.mem_cons.1 hs with rfl | hs
    · exact h1 _ (mem_kt hpy) _ (List.mem_cons_self ..)
    · exact h1 _ (mem_kt hpy) _ (List.mem_cons_of_mem _ (sep_toks S K hK s hs))
/-- Two nodes become one. -/
theorem tok_nodes {S1 S2 : List ByteArray} {K1 K2 : List Kid} {k : ByteArray} (n1 : K1.length = S1.length + 1) (n2 : K2.length = S2.length + 1) (h1 : (toks S1 K1).Pairwise tr) (h2 : (toks S2 K2).Pairwise tr) (e1 : ∀ y ∈ K1, y.ps ≠ []) (e2 : ∀ y ∈ K2, y.ps ≠ [])
    (b1 : ∀ p ∈ kidsP K1, kl p.1 k = true) (b2 : ∀ p ∈ kidsP K2, kl p.1 k = false) : (toks (S1 ++ k :: S2) (K1 ++ K2)).Pairwise tr := by
  rw [toks_join k S2 K2 S1 K1 n1, List.pairwise_append]
  have f1 : ∀ u ∈ toks S1 K1, tr u (.sep k) := by
    intro u hu
    rcases toks_mem S1 K1 u hu with ⟨s, hs, rfl⟩ | ⟨p, hp, rfl⟩
    · obtain ⟨p, hp, h3⟩ := sep_after S1 K1 n1 h1 e1 s hs
      exact kl_le_lt h3 (b1 p hp)
    · exact b1 p hp
  have f2 : ∀ v ∈ toks S2 K2, tr (.sep k) v := by
    intro v hv
    rcases toks_mem S2 K2 v hv with ⟨s, hs, rfl⟩ | ⟨p, hp, rfl⟩
    · obtain ⟨p, hp, h3⟩ := sep_before S2 K2 n2 h2 e2 s hs
      exact kl_le_lt (b2 p hp) h3
    · exact b2 p hp
  refine ⟨h1, List.pairwise_cons.2 ⟨f2, h2⟩, fun u hu v hv => ?_⟩
  rcases List.mem_cons.1 hv with rfl | hv
  · exact f1 u hu
  · exact tr_sep (f1 u hu) (f2 v hv)
end Go.Proofs.Ytlhpoliiojekeaa
