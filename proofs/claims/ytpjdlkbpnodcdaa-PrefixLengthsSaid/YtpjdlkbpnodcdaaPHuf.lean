/- Trees of two lightest, by plain numbers: how deep each stands; that heavier ones stand no deeper; that all weights of one are within one level; the sum of their shares is one whole. -/
import Derived.Test.YtpjdlkbpnodcdaaPNum
namespace Go.Proofs.Ytpjdlkbpnodcdaa
set_option linter.unusedVariables false

/-- the lightest one, the earlier of the same -/
def light : List (Nat × Nat) → (Nat × Nat)
  | [] => (0, 0)
  | t :: l => l.foldl (fun m u => if u.1 < m.1 then u else m) t
def lexT (t u : (Nat × Nat)) : Prop := t.1 < u.1 ∨ (t.1 = u.1 ∧ t.2 < u.2)
theorem light_fold : ∀ (l : List (Nat × Nat)) (t : (Nat × Nat)), (t :: l).Pairwise (fun a b => a.2 < b.2) →
    l.foldl (fun m u => if u.1 < m.1 then u else m) t ∈ t :: l ∧ ∀ u ∈ t :: l, u ≠ l.foldl (fun m u => if u.1 < m.1 then u else m) t → lexT (l.foldl (fun m u => if u.1 < m.1 then u else m) t) u
  | [], t, _ => ⟨by simp, fun u hu hne => by simp at hu; exact absurd hu hne⟩
  | v :: l, t, h => by
    have h1 := List.pairwise_cons.1 h
    have h2 := List.pairwise_cons.1 h1.2
    simp only [List.foldl_cons]
    by_cases e : v.1 < t.1
    · rw [if_pos e]
      have ih := light_fold l v h1.2
      refine ⟨List.mem_cons_of_mem _ ih.1, fun u hu hne => ?_⟩
      rcases List.mem_cons.1 hu with rfl | hu
      · generalize List.foldl _ v l = m at *
        by_cases em : v = m
        · rw [← em]; exact .inl e
        · have := ih.2 v (by simp) em
          unfold lexT at this ⊢
          omega
      · exact ih.2 u hu hne
    · rw [if_neg e]
      have hp : (t :: l).Pairwise (fun a b => a.2 < b.2) := List.pairwise_cons.2 ⟨fun u hu => h1.1 u (by simp [hu]), h2.2⟩
      have ih := light_fold l t hp
      have htv := h1.1 v (by simp)
      refine ⟨?_, fun u hu hne => ?_⟩
      · rcases List.mem_cons.1 ih.1 with h' | h'
        · rw [h']; simp
        · simp [h']
      · rcases List.mem_cons.1 hu with rfl | hu
        · exact ih.2 u (by simp) hne
        · rcases List.mem_cons.1 hu with rfl | hu
          · generalize hm : List.foldl _ t l = m at *
            by_cases em : t = m
            · rw [← em]; unfold lexT; omega
            · have := ih.2 t (by simp) em
              unfold lexT at this ⊢
              omega
          · exact ih.2 u (by simp [hu]) hne
/-- in order of their coming, all ahead of c -/
def OkT (c : Nat) (l : List (Nat × Nat)) : Prop := l.Pairwise (fun a b => a.2 < b.2) ∧ ∀ t ∈ l, t.2 < c
theorem light_mem {c : Nat} {l : List (Nat × Nat)} (h : OkT c l) (h0 : l ≠ []) : light l ∈ l := by
  match l, h0 with
  | t :: l, _ => exact (light_fold l t h.1).1
theorem light_le {c : Nat} {l : List (Nat × Nat)} (h : OkT c l) {u : (Nat × Nat)} (hu : u ∈ l) (hne : u ≠ light l) : lexT (light l) u := by
  match l, hu with
  | t :: l, hu => exact (light_fold l t h.1).2 u hu hne
theorem OkT.nodup {c : Nat} {l : List (Nat × Nat)} (h : OkT c l) : l.Nodup := h.1.imp fun h e => by subst e; exact Nat.lt_irrefl _ h
theorem OkT.erase {c : Nat} {l : List (Nat × Nat)} (h : OkT c l) (t : (Nat × Nat)) : OkT c (l.erase t) := ⟨h.1.sublist List.erase_sublist, fun u hu => h.2 u (List.mem_of_mem_erase hu)⟩
theorem OkT.inj {c : Nat} {l : List (Nat × Nat)} (h : OkT c l) {t u : (Nat × Nat)} (ht : t ∈ l) (hu : u ∈ l) (e : t.2 = u.2) : t = u := by
  by_cases hne : t = u
  · exact hne
  · exact absurd e (by
      rcases List.getElem_of_mem ht with ⟨i, hi, rfl⟩
      rcases List.getElem_of_mem hu with ⟨j, hj, rfl⟩
      have hp := List.pairwise_iff_getElem.1 h.1
      rcases Nat.lt_trichotomy i j with hij | hij | hij
      · have := hp i j hi hj hij; omega
      · subst hij; exact absurd rfl hne
      · have := hp j i hj hi hij; omega)
theorem OkT.push {c : Nat} {l : List (Nat × Nat)} (h : OkT c l) (w : Nat) : OkT (c + 1) (l ++ [(w, c)]) := by
  refine ⟨List.pairwise_append.2 ⟨h.1, by simp, fun t ht u hu => ?_⟩, fun t ht => ?_⟩
  · simp at hu; subst hu; exact h.2 t ht
  · rcases List.mem_append.1 ht with ht | ht
    · have := h.2 t ht; omega
    · simp at ht; subst ht; show c < c + 1; omega
/-- the two lightest, and what is left -/
def pickA (l : List (Nat × Nat)) : (Nat × Nat) := light l
def pickB (l : List (Nat × Nat)) : (Nat × Nat) := light (l.erase (light l))
def pickM (l : List (Nat × Nat)) : List (Nat × Nat) := (l.erase (pickA l)).erase (pickB l)
def both (c : Nat) (l : List (Nat × Nat)) : (Nat × Nat) := ((pickA l).1 + (pickB l).1, c)
def nextT (c : Nat) (l : List (Nat × Nat)) : List (Nat × Nat) := pickM l ++ [both c l]
theorem pickA_mem {c : Nat} {l : List (Nat × Nat)} (h : OkT c l) (h2 : 2 ≤ l.length) : pickA l ∈ l := light_mem h (by intro e; subst e; simp at h2)
theorem erase_len {c : Nat} {l : List (Nat × Nat)} (h : OkT c l) (h2 : 2 ≤ l.length) : (l.erase (pickA l)).length = l.length - 1 := List.length_erase_of_mem (pickA_mem h h2)
theorem pickB_mem' {c : Nat} {l : List (Nat × Nat)} (h : OkT c l) (h2 : 2 ≤ l.length) : pickB l ∈ l.erase (pickA l) := light_mem (h.erase _) (by
  intro e
  have := erase_len h h2
  rw [e] at this
  simp at this
  omega)
theorem pickB_mem {c : Nat} {l : List (Nat × Nat)} (h : OkT c l) (h2 : 2 ≤ l.length) : pickB l ∈ l := List.mem_of_mem_erase (pickB_mem' h h2)
theorem pick_ne {c : Nat} {l : List (Nat × Nat)} (h : OkT c l) (h2 : 2 ≤ l.length) : pickB l ≠ pickA l := fun e => by
  have := pickB_mem' h h2
  rw [e] at this
  exact (h.nodup.not_mem_erase) this
theorem pickM_mem {c : Nat} {l : List (Nat × Nat)} (h : OkT c l) {t : (Nat × Nat)} : t ∈ pickM l ↔ t ∈ l ∧ t ≠ pickA l ∧ t ≠ pickB l := by
  unfold pickM
  rw [(h.erase _).nodup.mem_erase_iff, h.nodup.mem_erase_iff]
  exact ⟨fun ⟨q1, q2, q3⟩ => ⟨q3, q2, q1⟩, fun ⟨q1, q2, q3⟩ => ⟨q3, q2, q1⟩⟩
theorem pickM_len {c : Nat} {l : List (Nat × Nat)} (h : OkT c l) (h2 : 2 ≤ l.length) : (pickM l).length = l.length - 2 := by
  unfold pickM
  rw [List.length_erase_of_mem (pickB_mem' h h2)]
  have := erase_len h h2
  omega
theorem pickM_le {c : Nat} {l : List (Nat × Nat)} (h : OkT c l) {t : (Nat × Nat)} (ht : t ∈ pickM l) : lexT (pickA l) t ∧ lexT (pickB l) t := by
  obtain ⟨q1, q2, q3⟩ := (pickM_mem h).1 ht
  exact ⟨light_le h q1 q2, light_le (h.erase _) (h.nodup.mem_erase_iff.2 ⟨q2, q1⟩) q3⟩
theorem pick_le {c : Nat} {l : List (Nat × Nat)} (h : OkT c l) (h2 : 2 ≤ l.length) : lexT (pickA l) (pickB l) := light_le h (pickB_mem h h2) (pick_ne h h2)
theorem nextT_ok {c : Nat} {l : List (Nat × Nat)} (h : OkT c l) : OkT (c + 1) (nextT c l) := OkT.push ((h.erase _).erase _) _
theorem nextT_len {c : Nat} {l : List (Nat × Nat)} (h : OkT c l) (h2 : 2 ≤ l.length) : (nextT c l).length = l.length - 1 := by
  unfold nextT
  rw [List.length_append, pickM_len h h2]
  simp
  omega
/-- how deep the tree that came at x stands at the end -/
def deepT : Nat → Nat → List (Nat × Nat) → Nat → Nat
  | 0, _, _, _ => 0
  | f + 1, c, l, x => if l.length ≤ 1 then 0 else if x = (pickA l).2 ∨ x = (pickB l).2 then deepT f (c + 1) (nextT c l) c + 1 else deepT f (c + 1) (nextT c l) x
theorem deepT_end {f c : Nat} {l : List (Nat × Nat)} {x : Nat} (hl : l.length ≤ 1) : deepT f c l x = 0 := by
  cases f with
  | zero => rfl
  | succ f => exact if_pos hl
theorem deepT_a {f c : Nat} {l : List (Nat × Nat)} (hl : 2 ≤ l.length) : deepT (f + 1) c l (pickA l).2 = deepT f (c + 1) (nextT c l) c + 1 := by
  conv => lhs; unfold deepT
  rw [if_neg (by omega), if_pos (.inl rfl)]
theorem deepT_b {f c : Nat} {l : List (Nat × Nat)} (hl : 2 ≤ l.length) : deepT (f + 1) c l (pickB l).2 = deepT f (c + 1) (nextT c l) c + 1 := by
  conv => lhs; unfold deepT
  rw [if_neg (by omega), if_pos (.inr rfl)]
theorem deepT_m {f c : Nat} {l : List (Nat × Nat)} (h : OkT c l) (hl : 2 ≤ l.length) {t : (Nat × Nat)} (ht : t ∈ pickM l) : deepT (f + 1) c l t.2 = deepT f (c + 1) (nextT c l) t.2 := by
  obtain ⟨q1, q2, q3⟩ := (pickM_mem h).1 ht
  conv => lhs; unfold deepT
  rw [if_neg (by omega), if_neg]
  rintro (e | e)
  · exact q2 (h.inj q1 (pickA_mem h hl) e)
  · exact q3 (h.inj q1 (pickB_mem h hl) e)
/-- a tree of l is one of the two, or is left -/
theorem pick_cases {c : Nat} {l : List (Nat × Nat)} (h : OkT c l) {t : (Nat × Nat)} (ht : t ∈ l) : t = pickA l ∨ t = pickB l ∨ t ∈ pickM l := by
  by_cases e1 : t = pickA l
  · exact .inl e1
  · by_cases e2 : t = pickB l
    · exact .inr (.inl e2)
    · exact .inr (.inr ((pickM_mem h).2 ⟨ht, e1, e2⟩))
theorem mem_next {c : Nat} {l : List (Nat × Nat)} {t : (Nat × Nat)} (ht : t ∈ pickM l) : t ∈ nextT c l := List.mem_append_left _ ht
theorem both_next (c : Nat) (l : List (Nat × Nat)) : both c l ∈ nextT c l := List.mem_append_right _ (by simp)
/-- what comes earlier, or weighs less, stands no higher; and where all others weigh at least half as much as one, none stands more than one level deeper than it -/
theorem deep_order : ∀ (f c : Nat) (l : List (Nat × Nat)), OkT c l → l.length ≤ f + 1 →
    (∀ t ∈ l, ∀ u ∈ l, lexT t u → deepT f c l u.2 ≤ deepT f c l t.2) ∧
    (∀ r ∈ l, (∀ u ∈ l, u ≠ r → r.1 ≤ 2 * u.1) → ∀ u ∈ l, deepT f c l u.2 ≤ deepT f c l r.2 + 1)
  | f, c, l, h, hf => by
    by_cases hl : l.length ≤ 1
    · exact ⟨fun t _ u _ _ => by rw [deepT_end hl, deepT_end hl]; exact Nat.le_refl _, fun r _ _ u _ => by rw [deepT_end hl]; omega⟩
    match f, hf with
    | 0, hf => omega
    | f + 1, hf =>
      have h2 : 2 ≤ l.length := by omega
      have hn := nextT_len h h2 
      have ih := deep_order f (c + 1) (nextT c l) (nextT_ok h) (by omega)
      have hle := fun {t : (Nat × Nat)} (ht : t ∈ pickM l) => pickM_le h ht
      have hab := pick_le h h2
      have hbn := both_next c l
      have hbw : (both c l).1 = (pickA l).1 + (pickB l).1 := rfl
      -- none is more than one level deeper than both
      have hP : ∀ u ∈ pickM l, deepT f (c + 1) (nextT c l) u.2 ≤ deepT f (c + 1) (nextT c l) c + 1 := fun u hu =>
        ih.2 (both c l) hbn (fun v hv hne => by
          rcases List.mem_append.1 hv with hv | hv
          · have h1 := hle hv
            unfold lexT at h1 hab
            omega
          · simp at hv; exact absurd hv hne) u (mem_next hu)
      refine ⟨fun t ht u hu htu => ?_, fun r hr hrw u hu => ?_⟩
      · rcases pick_cases h ht with rfl | rfl | ht'
        · rcases pick_cases h hu with rfl | rfl | hu'
          · exact Nat.le_refl _
          · rw [deepT_a h2, deepT_b h2]; exact Nat.le_refl _
          · rw [deepT_a h2, deepT_m h h2 hu']; exact hP u hu'
        · rcases pick_cases h hu with rfl | rfl | hu'
          · rw [deepT_a h2, deepT_b h2]; exact Nat.le_refl _
          · exact Nat.le_refl _
          · rw [deepT_b h2, deepT_m h h2 hu']; exact hP u hu'
        · have h1 := hle ht'
          rcases pick_cases h hu with rfl | rfl | hu'
          · unfold lexT at h1 htu; omega
          · unfold lexT at h1 htu; omega
          · rw [deepT_m h h2 ht', deepT_m h h2 hu']
            exact ih.1 t (mem_next ht') u (mem_next hu') htu
      · -- r against what it may be
        rcases pick_cases h hr with rfl | rfl | hr'
        · rw [deepT_a h2]
          rcases pick_cases h hu with rfl | rfl | hu'
          · rw [deepT_a h2]; omega
          · rw [deepT_b h2]; omega
          · rw [deepT_m h h2 hu']; have := hP u hu'; omega
        · rw [deepT_b h2]
          rcases pick_cases h hu with rfl | rfl | hu'
          · rw [deepT_a h2]; omega
          · rw [deepT_b h2]; omega
          · rw [deepT_m h h2 hu']; have := hP u hu'; omega
        · have hra := hrw (pickA l) (pickA_mem h h2) (fun e => by rw [← e] at hr'; exact ((pickM_mem h).1 hr').2.1 rfl)
          have hrb := hrw (pickB l) (pickB_mem h h2) (fun e => by rw [← e] at hr'; exact ((pickM_mem h).1 hr').2.2 rfl)
          have hrc : r.2 < c := h.2 r hr
          have hord : deepT f (c + 1) (nextT c l) c ≤ deepT f (c + 1) (nextT c l) r.2 := ih.1 r (mem_next hr') (both c l) hbn (by
            unfold lexT
            rw [hbw]
            show _ ∨ (_ ∧ r.2 < c)
            omega)
          rw [deepT_m h h2 hr']
          rcases pick_cases h hu with rfl | rfl | hu'
          · rw [deepT_a h2]; omega
          · rw [deepT_b h2]; omega
          · rw [deepT_m h h2 hu']
            refine ih.2 r (mem_next hr') (fun v hv hne => ?_) u (mem_next hu')
            rcases List.mem_append.1 hv with hv | hv
            · exact hrw v ((pickM_mem h).1 hv).1 hne
            · simp at hv; rw [hv, hbw]; omega
theorem pick_perm {c : Nat} {l : List (Nat × Nat)} (h : OkT c l) (h2 : 2 ≤ l.length) : l.Perm (pickA l :: pickB l :: pickM l) :=
  (List.perm_cons_erase (pickA_mem h h2)).trans ((List.perm_cons_erase (pickB_mem' h h2)).cons _)
theorem sum_perm {a b : List Nat} (h : a.Perm b) : a.sum = b.sum := h.sum_nat
theorem deepT_le : ∀ (f c : Nat) (l : List (Nat × Nat)) (x : Nat), deepT f c l x ≤ f
  | 0, _, _, _ => Nat.le_refl _
  | f + 1, c, l, x => by
    unfold deepT
    have h1 := deepT_le f (c + 1) (nextT c l) c
    have h2 := deepT_le f (c + 1) (nextT c l) x
    split
    · omega
    · split <;> omega
/-- the shares of all are one whole -/
theorem deep_kraft (H : Nat) : ∀ (f c : Nat) (l : List (Nat × Nat)), OkT c l → 1 ≤ l.length → l.length ≤ f + 1 → (∀ t ∈ l, deepT f c l t.2 ≤ H) → (l.map fun t => 2 ^ (H - deepT f c l t.2)).sum = 2 ^ H
  | f, c, l, h, h1, hf, hH => by
    by_cases hl : l.length ≤ 1
    · match l, h1, hl with
      | [t], _, _ => simp [deepT_end (f := f) (c := c) (l := [t]) (x := t.2) (by simp)]
    match f, hf with
    | 0, hf => omega
    | f + 1, hf =>
      have h2 : 2 ≤ l.length := by omega
      have hn := nextT_len h h2
      have hda := hH _ (pickA_mem h h2)
      rw [deepT_a h2] at hda
      have ih := deep_kraft H f (c + 1) (nextT c l) (nextT_ok h) (by omega) (by omega) (fun t ht => by
        rcases List.mem_append.1 ht with ht | ht
        · rw [← deepT_m h h2 ht]; exact hH t ((pickM_mem h).1 ht).1
        · simp at ht; rw [ht]; show deepT f (c + 1) (nextT c l) c ≤ H; omega)
      rw [sum_perm ((pick_perm h h2).map _)]
      simp only [List.map_cons, List.sum_cons]
      rw [deepT_a h2, deepT_b h2, show (pickM l).map (fun (t : (Nat × Nat)) => 2 ^ (H - deepT (f + 1) c l t.2)) = (pickM l).map (fun (t : (Nat × Nat)) => 2 ^ (H - deepT f (c + 1) (nextT c l) t.2)) from List.map_congr_left fun t ht => by rw [deepT_m h h2 ht]]
      have e : nextT c l = pickM l ++ [both c l] := rfl
      conv at ih => lhs; arg 1; arg 2; rw [e]
      rw [List.map_append, List.sum_append] at ih
      simp only [List.map_cons, List.map_nil, List.sum_cons, List.sum_nil, Nat.add_zero] at ih
      have e2 : 2 ^ (H - deepT f (c + 1) (nextT c l) (both c l).2) = 2 ^ (H - (deepT f (c + 1) (nextT c l) c + 1)) * 2 := by
        rw [← Nat.pow_succ]
        congr 1
        show H - deepT f (c + 1) (nextT c l) c = _
        omega
      rw [e2] at ih
      omega
def fibN : Nat → Nat
  | 0 => 0
  | 1 => 1
  | n + 2 => fibN n + fibN (n + 1)
theorem fibN_le : ∀ n, fibN n ≤ fibN (n + 1)
  | 0 => by decide
  | n + 1 => by show fibN (n + 1) ≤ fibN n + fibN (n + 1); omega
theorem total_next {c : Nat} {l : List (Nat × Nat)} (h : OkT c l) (h2 : 2 ≤ l.length) : ((nextT c l).map (·.1)).sum = (l.map (·.1)).sum := by
  rw [sum_perm ((pick_perm h h2).map _)]
  unfold nextT
  rw [List.map_append, List.sum_append]
  simp only [List.map_cons, List.map_nil, List.sum_cons, List.sum_nil, Nat.add_zero]
  show _ + ((pickA l).1 + (pickB l).1) = _
  omega
theorem mem_total : ∀ {l : List (Nat × Nat)} {t : (Nat × Nat)}, t ∈ l → t.1 ≤ (l.map (·.1)).sum
  | u :: l, t, h => by
    simp only [List.map_cons, List.sum_cons]
    rcases List.mem_cons.1 h with rfl | h
    · omega
    · have := mem_total h; omega
/-- who stands deep has much beside it -/
theorem deep_fib : ∀ (f c : Nat) (l : List (Nat × Nat)), OkT c l → l.length ≤ f + 1 → ∀ r ∈ l, ∀ y, y ≤ r.1 → (∀ u ∈ l, u ≠ r → y ≤ u.1) →
    fibN (deepT f c l r.2 + 1) * r.1 + fibN (deepT f c l r.2) * y ≤ (l.map (·.1)).sum
  | f, c, l, h, hf, r, hr, y, hy, hu => by
    by_cases hl : l.length ≤ 1
    · rw [deepT_end hl]
      have := mem_total hr
      simp [fibN]
      exact this
    match f, hf with
    | 0, hf => omega
    | f + 1, hf =>
      have h2 : 2 ≤ l.length := by omega
      have hn := nextT_len h h2
      have ht := total_next h h2
      have hle := fun {t : (Nat × Nat)} (ht : t ∈ pickM l) => pickM_le h ht
      have hab := pick_le h h2
      have hne := pick_ne h h2
      have hbw : (both c l).1 = (pickA l).1 + (pickB l).1 := rfl
      have key : ∀ (q x : (Nat × Nat)), (both c l).1 = q.1 + x.1 → y ≤ x.1 → (∀ v ∈ pickM l, q.1 ≤ v.1) → deepT (f + 1) c l q.2 = deepT f (c + 1) (nextT c l) c + 1 →
          fibN (deepT (f + 1) c l q.2 + 1) * q.1 + fibN (deepT (f + 1) c l q.2) * y ≤ (l.map (·.1)).sum := fun q x e0 hyx hq e1 => by
        have ih := deep_fib f (c + 1) (nextT c l) (nextT_ok h) (by omega) (both c l) (both_next c l) q.1 (by omega) (fun v hv hnv => by
          rcases List.mem_append.1 hv with hv | hv
          · exact hq v hv
          · simp at hv; exact absurd hv hnv)
        rw [e1, ← ht]
        refine Nat.le_trans ?_ ih
        show fibN (deepT f (c + 1) (nextT c l) c + 2) * q.1 + fibN (deepT f (c + 1) (nextT c l) c + 1) * y ≤ fibN (deepT f (c + 1) (nextT c l) c + 1) * (both c l).1 + fibN (deepT f (c + 1) (nextT c l) c) * q.1
        generalize deepT f (c + 1) (nextT c l) c = d
        show (fibN d + fibN (d + 1)) * q.1 + fibN (d + 1) * y ≤ _
        rw [e0, Nat.add_mul, Nat.mul_add]
        have := Nat.mul_le_mul_left (fibN (d + 1)) hyx
        omega
      rcases pick_cases h hr with rfl | rfl | hr'
      · exact key (pickA l) (pickB l) hbw (hu _ (pickB_mem h h2) hne) (fun v hv => by have := (hle hv).1; unfold lexT at this; omega) (deepT_a h2)
      · exact key (pickB l) (pickA l) (by rw [hbw]; omega) (hu _ (pickA_mem h h2) (fun e => hne e.symm)) (fun v hv => by have := (hle hv).2; unfold lexT at this; omega) (deepT_b h2)
      · rw [deepT_m h h2 hr', ← ht]
        have hra := hu (pickA l) (pickA_mem h h2) (fun e => by rw [← e] at hr'; exact ((pickM_mem h).1 hr').2.1 rfl)
        refine deep_fib f (c + 1) (nextT c l) (nextT_ok h) (by omega) r (mem_next hr') y hy (fun v hv hnv => ?_)
        rcases List.mem_append.1 hv with hv | hv
        · exact hu v ((pickM_mem h).1 hv).1 hnv
        · simp at hv; rw [hv, hbw]; omega
end Go.Proofs.Ytpjdlkbpnodcdaa
