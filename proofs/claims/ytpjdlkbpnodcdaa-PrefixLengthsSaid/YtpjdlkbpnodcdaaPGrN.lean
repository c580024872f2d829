/- Two rows of trees, of leaves that are sorted and of pairs as they come: their two lightest are those of all; how deep a symbol stands in the tree that is left. -/
import Derived.Test.YtpjdlkbpnodcdaaPLen
import Derived.Test.YtpjdlkbpnodcdaaPMrgN
namespace Go.Proofs.Ytpjdlkbpnodcdaa
set_option linter.unusedVariables false

/-- a tree: a leaf (its weight, its symbol), or a pair (its number, its weight) -/
inductive HT where
  | lf (w s : Nat)
  | nd (i w : Nat) (l r : HT)
def HT.wt : HT → Nat | .lf w _ => w | .nd _ w _ _ => w
def HT.id : HT → Nat | .lf _ s => s | .nd i _ _ _ => i
def HT.syms : HT → List Nat | .lf _ s => [s] | .nd _ _ l r => l.syms ++ r.syms
/-- how deep a symbol stands -/
def HT.dep : HT → Nat → Nat | .lf _ _, _ => 0 | .nd _ _ l r, s => if s ∈ r.syms then r.dep s + 1 else l.dep s + 1
def HT.key (t : HT) : Nat × Nat := (t.wt, t.id)
def hlt (t u : HT) : Prop := lexT t.key u.key
/-- what is written of a tree -/
def HT.write : HT → Nat → List Nat → List Nat | .lf _ s, d, L => L.set s d | .nd _ _ l r, d, L => r.write (d + 1) (l.write (d + 1) L)
theorem HT.write_len : ∀ (t : HT) (d : Nat) (L : List Nat), (t.write d L).length = L.length
  | .lf _ s, d, L => by simp [HT.write]
  | .nd _ _ l r, d, L => by rw [HT.write, HT.write_len r, HT.write_len l]
theorem HT.write_getD : ∀ (t : HT) (d : Nat) (L : List Nat) (j : Nat), (∀ s ∈ t.syms, s < L.length) → (t.write d L).getD j 0 = if j ∈ t.syms then d + t.dep j else L.getD j 0
  | .lf w s, d, L, j, h => by
    rw [HT.write, getD_set _ _ _ _ (h s (by simp [HT.syms]))]
    simp only [HT.syms, List.mem_singleton, HT.dep, Nat.add_zero]
    by_cases e : s = j
    · rw [if_pos e, if_pos e.symm]
    · rw [if_neg e, if_neg (fun h => e h.symm)]
  | .nd i w l r, d, L, j, h => by
    rw [HT.write, HT.write_getD r _ _ _ (fun s hs => by rw [HT.write_len]; exact h s (by simp [HT.syms, hs])), HT.write_getD l _ _ _ (fun s hs => h s (by simp [HT.syms, hs]))]
    simp only [HT.syms, List.mem_append, HT.dep]
    by_cases h1 : j ∈ r.syms
    · rw [if_pos h1, if_pos (.inr h1), if_pos h1]; omega
    · rw [if_neg h1, if_neg h1]
      by_cases h2 : j ∈ l.syms
      · rw [if_pos h2, if_pos (.inl h2)]; omega
      · rw [if_neg h2, if_neg (fun h => by rcases h with h | h; exact h2 h; exact h1 h)]
theorem light_is {c : Nat} {l : List (Nat × Nat)} (h : OkT c l) {x : Nat × Nat} (hx : x ∈ l) (hm : ∀ u ∈ l, u ≠ x → lexT x u) : light l = x := by
  by_cases e : light l = x
  · exact e
  · have h0 : l ≠ [] := by intro e0; rw [e0] at hx; cases hx
    have h1 := hm _ (light_mem h h0) e
    have h2 := light_le h hx (fun e' => e e'.symm)
    unfold lexT at h1 h2
    omega
/-- the one that goes first: from which row -/
def fromS : List HT → List HT → Bool
  | [], _ => false
  | _ :: _, [] => true
  | s :: _, q :: _ => decide (¬ q.wt < s.wt)
/-- the first one of two rows, and what is left -/
structure Pick (S Q : List HT) (t : HT) (S' Q' : List HT) : Prop where
  or : (S = t :: S' ∧ Q = Q' ∧ fromS S Q = true) ∨ (Q = t :: Q' ∧ S = S' ∧ fromS S Q = false)
theorem Pick.some {S Q : List HT} (h : 0 < S.length + Q.length) : ∃ t S' Q', Pick S Q t S' Q' := by
  match S, Q with
  | [], [] => simp at h
  | [], q :: Q' => exact ⟨q, [], Q', ⟨.inr ⟨rfl, rfl, rfl⟩⟩⟩
  | s :: S', [] => exact ⟨s, S', [], ⟨.inl ⟨rfl, rfl, rfl⟩⟩⟩
  | s :: S', q :: Q' =>
    by_cases e : q.wt < s.wt
    · exact ⟨q, s :: S', Q', ⟨.inr ⟨rfl, rfl, by simp [fromS, e]⟩⟩⟩
    · exact ⟨s, S', q :: Q', ⟨.inl ⟨rfl, rfl, by simp [fromS]; omega⟩⟩⟩
theorem Pick.perm {S Q : List HT} {t : HT} {S' Q' : List HT} (h : Pick S Q t S' Q') : (S ++ Q).Perm (t :: (S' ++ Q')) := by
  rcases h.or with ⟨rfl, rfl, _⟩ | ⟨rfl, rfl, _⟩
  · exact List.Perm.refl _
  · exact List.perm_middle
theorem Pick.subS {S Q : List HT} {t : HT} {S' Q' : List HT} (h : Pick S Q t S' Q') : S'.Sublist S ∧ Q'.Sublist Q := by
  rcases h.or with ⟨rfl, rfl, _⟩ | ⟨rfl, rfl, _⟩
  · exact ⟨List.sublist_cons_self _ _, List.Sublist.refl _⟩
  · exact ⟨List.Sublist.refl _, List.sublist_cons_self _ _⟩
theorem Pick.min {S Q : List HT} {t : HT} {S' Q' : List HT} (h : Pick S Q t S' Q') (sS : S.Pairwise hlt) (sQ : Q.Pairwise hlt) (cr : ∀ s ∈ S, ∀ q ∈ Q, s.id < q.id) : ∀ u ∈ S' ++ Q', hlt t u := by
  intro u hu
  have tr : ∀ {a b c : HT}, hlt a b → hlt b c → hlt a c := fun h1 h2 => by unfold hlt lexT at *; omega
  rcases h.or with ⟨rfl, rfl, hf⟩ | ⟨rfl, rfl, hf⟩
  · rcases List.mem_append.1 hu with hu | hu
    · exact (List.pairwise_cons.1 sS).1 u hu
    · match Q, hu, hf with
      | q :: Q', hu, hf =>
        have hq : ¬ q.wt < t.wt := by simpa [fromS] using hf
        have hc := cr t (by simp) q (by simp)
        have h1 : hlt t q := by
          unfold hlt lexT HT.key
          simp only
          omega
        rcases List.mem_cons.1 hu with rfl | hu
        · exact h1
        · exact tr h1 ((List.pairwise_cons.1 sQ).1 u hu)
  · rcases List.mem_append.1 hu with hu | hu
    · match S, hu, hf with
      | s :: S', hu, hf =>
        have hq : t.wt < s.wt := by simpa [fromS] using hf
        have h1 : hlt t s := .inl hq
        rcases List.mem_cons.1 hu with rfl | hu
        · exact h1
        · exact tr h1 ((List.pairwise_cons.1 sS).1 u hu)
    · exact (List.pairwise_cons.1 sQ).1 u hu
/-- two rows that stand for the trees l, whose symbols' depths will be D -/
structure Gr (D : Nat → Nat) (f c : Nat) (l : List (Nat × Nat)) (S Q : List HT) : Prop where
  ok : OkT c l
  perm : l.Perm ((S ++ Q).map HT.key)
  sS : S.Pairwise hlt
  sQ : Q.Pairwise hlt
  cr : ∀ s ∈ S, ∀ q ∈ Q, s.id < q.id
  mid : ∃ m, (∀ q ∈ Q, q.wt ≤ 2 * m) ∧ ∀ t ∈ S ++ Q, m ≤ t.wt
  fu : l.length ≤ f + 1
  deep : ∀ t ∈ S ++ Q, ∀ s ∈ t.syms, D s = deepT f c l t.id + t.dep s
  nd : ((S ++ Q).flatMap HT.syms).Nodup
theorem Gr.len {D : Nat → Nat} {f c : Nat} {l : List (Nat × Nat)} {S Q : List HT} (h : Gr D f c l S Q) : l.length = S.length + Q.length := by
  have := h.perm.length_eq
  simpa using this
theorem Gr.step {D : Nat → Nat} {f c : Nat} {l : List (Nat × Nat)} {S Q S1 Q1 S2 Q2 : List HT} {a b : HT} (h : Gr D (f + 1) c l S Q) (h2 : 2 ≤ l.length) (p1 : Pick S Q a S1 Q1) (p2 : Pick S1 Q1 b S2 Q2) : Gr D f (c + 1) (nextT c l) S2 (Q2 ++ [.nd c (a.wt + b.wt) a b]) := by
  obtain ⟨ok, perm, sS, sQ, cr, ⟨m, m1, m2⟩, fu, deep, nd⟩ := h
  have hp1 := p1.perm
  have hp2 := p2.perm
  have mn1 := p1.min sS sQ cr
  obtain ⟨u1, u2⟩ := p1.subS
  obtain ⟨u3, u4⟩ := p2.subS
  have mn2 := p2.min (sS.sublist u1) (sQ.sublist u2) (fun s hs q hq => cr s (u1.subset hs) q (u2.subset hq))
  have hA : pickA l = a.key := by
    refine light_is ok (perm.symm.subset (List.mem_map_of_mem (hp1.symm.subset (by simp)))) fun u hu hne => ?_
    obtain ⟨t, ht, rfl⟩ := List.mem_map.1 (perm.subset hu)
    rcases List.mem_cons.1 (hp1.subset ht) with rfl | ht
    · exact absurd rfl hne
    · exact mn1 t ht
  have hpe : (l.erase (pickA l)).Perm ((S1 ++ Q1).map HT.key) := by
    rw [hA]
    have := (perm.trans (hp1.map HT.key)).erase a.key
    rwa [List.map_cons, List.erase_cons_head] at this
  have hB : pickB l = b.key := by
    unfold pickB
    refine light_is (ok.erase _) (hpe.symm.subset (List.mem_map_of_mem (hp2.symm.subset (by simp)))) fun u hu hne => ?_
    obtain ⟨t, ht, rfl⟩ := List.mem_map.1 (hpe.subset hu)
    rcases List.mem_cons.1 (hp2.subset ht) with rfl | ht
    · exact absurd rfl hne
    · exact mn2 t ht
  have hpm : (pickM l).Perm ((S2 ++ Q2).map HT.key) := by
    unfold pickM
    rw [hB]
    have := (hpe.trans (hp2.map HT.key)).erase b.key
    rwa [List.map_cons, List.erase_cons_head] at this
  have hbw : (both c l) = (HT.nd c (a.wt + b.wt) a b).key := by
    unfold both
    rw [hA, hB]
    rfl
  have mem2 : ∀ t, t ∈ S2 ++ Q2 → t ∈ S ++ Q := fun t ht => hp1.symm.subset (List.mem_cons_of_mem _ (hp2.symm.subset (List.mem_cons_of_mem _ ht)))
  have ha : a ∈ S ++ Q := hp1.symm.subset (by simp)
  have hb : b ∈ S ++ Q := hp1.symm.subset (List.mem_cons_of_mem _ (hp2.symm.subset (by simp)))
  have hid : ∀ t ∈ S ++ Q, t.id < c := fun t ht => ok.2 t.key (perm.symm.subset (List.mem_map_of_mem ht))
  have hab : a.wt ≤ b.wt := by
    have := mn1 b (hp2.symm.subset (by simp))
    unfold hlt lexT HT.key at this
    simp only at this
    omega
  have hma := m2 a ha
  have hmb := m2 b hb
  have hfl : ((S ++ Q).flatMap HT.syms).Perm (a.syms ++ (b.syms ++ (S2 ++ Q2).flatMap HT.syms)) := by
    refine (hp1.flatMap_right _).trans ?_
    rw [List.flatMap_cons]
    refine List.Perm.append_left _ ?_
    refine (hp2.flatMap_right _).trans ?_
    rw [List.flatMap_cons]
  refine ⟨nextT_ok ok, ?_, sS.sublist (u3.trans u1), ?_, fun s hs q hq => ?_, ⟨b.wt, fun q hq => ?_, fun t ht => ?_⟩, by have := nextT_len ok h2; omega, fun t ht s hs => ?_, ?_⟩
  · unfold nextT
    rw [hbw, ← List.append_assoc, List.map_append]
    exact List.Perm.append_right _ hpm
  · refine List.pairwise_append.2 ⟨sQ.sublist (u4.trans u2), List.pairwise_singleton _ _, fun q hq n hn => ?_⟩
    rw [List.mem_singleton.1 hn]
    have h1 := m1 q (u2.subset (u4.subset hq))
    have h3 := hid q (mem2 q (List.mem_append_right _ hq))
    show q.wt < a.wt + b.wt ∨ (q.wt = a.wt + b.wt ∧ q.id < c)
    omega
  · rcases List.mem_append.1 hq with hq | hq
    · exact cr s (u1.subset (u3.subset hs)) q (u2.subset (u4.subset hq))
    · rw [List.mem_singleton.1 hq]
      exact hid s (mem2 s (List.mem_append_left _ hs))
  · rcases List.mem_append.1 hq with hq | hq
    · have h1 := m1 q (u2.subset (u4.subset hq)); omega
    · rw [List.mem_singleton.1 hq]; show a.wt + b.wt ≤ 2 * b.wt; omega
  · rw [← List.append_assoc] at ht
    rcases List.mem_append.1 ht with ht | ht
    · have := mn2 t ht
      unfold hlt lexT HT.key at this
      simp only at this
      omega
    · rw [List.mem_singleton.1 ht]; show b.wt ≤ a.wt + b.wt; omega
  · rw [← List.append_assoc] at ht
    rcases List.mem_append.1 ht with ht | ht
    · rw [deep t (mem2 t ht) s hs]
      have hm : t.key ∈ pickM l := hpm.symm.subset (List.mem_map_of_mem ht)
      have := deepT_m (f := f) ok h2 hm
      have e : t.key.2 = t.id := rfl
      rw [e] at this
      rw [this]
    · rw [List.mem_singleton.1 ht] at hs ⊢
      have e1 : a.id = (pickA l).2 := by rw [hA]; rfl
      have e2 : b.id = (pickB l).2 := by rw [hB]; rfl
      have nd' := hfl.nodup_iff.1 nd
      simp only [HT.syms, List.mem_append] at hs
      simp only [HT.id, HT.dep]
      by_cases h1 : s ∈ b.syms
      · rw [if_pos h1, deep b hb s h1, e2, deepT_b h2]; omega
      · rw [if_neg h1]
        have h3 : s ∈ a.syms := by rcases hs with h | h; exact h; exact absurd h h1
        rw [deep a ha s h3, e1, deepT_a h2]; omega
  · have e : (S2 ++ (Q2 ++ [HT.nd c (a.wt + b.wt) a b])).flatMap HT.syms = (S2 ++ Q2).flatMap HT.syms ++ (a.syms ++ b.syms) := by
      rw [← List.append_assoc, List.flatMap_append]
      simp [HT.syms]
    rw [e]
    refine (List.Perm.nodup_iff ?_).1 nd
    refine hfl.trans ?_
    rw [← List.append_assoc]
    exact List.perm_append_comm
/-- symbols are kept -/
theorem pick_syms {S Q S1 Q1 S2 Q2 : List HT} {a b : HT} (c w : Nat) (p1 : Pick S Q a S1 Q1) (p2 : Pick S1 Q1 b S2 Q2) : ((S ++ Q).flatMap HT.syms).Perm ((S2 ++ (Q2 ++ [HT.nd c w a b])).flatMap HT.syms) := by
  have e : (S2 ++ (Q2 ++ [HT.nd c w a b])).flatMap HT.syms = (S2 ++ Q2).flatMap HT.syms ++ (a.syms ++ b.syms) := by
    rw [← List.append_assoc, List.flatMap_append]
    simp [HT.syms]
  rw [e]
  refine (p1.perm.flatMap_right _).trans ?_
  rw [List.flatMap_cons]
  refine (List.Perm.append_left _ (p2.perm.flatMap_right _)).trans ?_
  rw [List.flatMap_cons, ← List.append_assoc]
  exact List.perm_append_comm
/-- at first: the leaves, sorted -/
theorem Gr.first {fr : List Nat} {S : List Nat} (hp : S.Perm ((treesF fr).map (·.2))) (hs : Srt (fun i => fr.getD i 0) S) : Gr (fun s => deepT fr.length fr.length (treesF fr) s) fr.length fr.length (treesF fr) (S.map fun s => .lf (fr.getD s 0) s) [] := by
  have hk : ((S.map fun s => HT.lf (fr.getD s 0) s) ++ []).map HT.key = S.map fun s => (fr.getD s 0, s) := by
    rw [List.append_nil, List.map_map]
    rfl
  refine ⟨treesF_ok fr, ?_, ?_, List.Pairwise.nil, (fun s _ q hq => by cases hq), ⟨0, (fun q hq => by cases hq), fun _ _ => Nat.zero_le _⟩, by have := treesF_len fr; omega, fun t ht s hs => ?_, ?_⟩
  · rw [hk]
    have := (hp.map fun s => (fr.getD s 0, s)).symm
    refine List.Perm.trans ?_ this
    rw [List.map_map]
    have e : (treesF fr).map ((fun s => (fr.getD s 0, s)) ∘ fun x => x.2) = treesF fr := by
      conv => rhs; rw [← List.map_id (treesF fr)]
      refine List.map_congr_left fun t ht => ?_
      obtain ⟨_, h2, _⟩ := treesF_of ht
      show (fr.getD t.2 0, t.2) = t
      rw [← h2]
    rw [e]
  · rw [List.pairwise_map]
    exact hs
  · rw [List.append_nil] at ht
    obtain ⟨x, _, rfl⟩ := List.mem_map.1 ht
    simp only [HT.syms, List.mem_singleton] at hs
    subst hs
    rfl
  · rw [List.append_nil, List.flatMap_map]
    have e : (S.flatMap fun a => (HT.lf (fr.getD a 0) a).syms) = S := by simp [HT.syms]
    rw [e]
    refine (hp.nodup_iff).2 ?_
    exact (List.pairwise_map.2 (treesF_ok fr).1).imp fun h => Nat.ne_of_lt h
/-- at the end -/
theorem Gr.last {D : Nat → Nat} {f c : Nat} {l : List (Nat × Nat)} {S Q S' Q' : List HT} {t : HT} (h : Gr D f c l S Q) (h1 : l.length = 1) (p : Pick S Q t S' Q') : ∀ s ∈ t.syms, t.dep s = D s := fun s hs => by
  rw [h.deep t (p.perm.symm.subset (by simp)) s hs, deepT_end (by omega), Nat.zero_add]
theorem pick_one {S Q S' Q' : List HT} {t : HT} (h : S.length + Q.length = 1) (p : Pick S Q t S' Q') : (S ++ Q).flatMap HT.syms = t.syms := by
  have hl := p.perm.length_eq
  simp only [List.length_append, List.length_cons] at hl
  have e : S' ++ Q' = [] := List.eq_nil_of_length_eq_zero (by rw [List.length_append]; omega)
  have := p.perm
  rw [e, List.perm_singleton] at this
  rw [this]
  simp
end Go.Proofs.Ytpjdlkbpnodcdaa
