/- Texts squeezed and expanded, by plain lists: that what was squeezed is expanded. -/
import Derived.Test.YtpjihjbgihionaaN1
namespace Go.Proofs.Ytpjihjbgihionaa
set_option linter.unusedVariables false

/-- lengths that make a code -/
def rightW (L : List Nat) : Prop := (∀ d ∈ L, d ≤ 15) ∧ (kraftW L = 2 ^ 15 ∨ ((L.filter fun d => decide (0 < d)).length = 1 ∧ kraftW L = 2 ^ 14))
theorem getD_le {L : List Nat} {m : Nat} (h : ∀ d ∈ L, d ≤ m) (k : Nat) : L.getD k 0 ≤ m := by
  rcases Nat.lt_or_ge k L.length with hk | hk
  · exact h _ (getD_mem L k hk)
  · rw [getD_over hk]; omega
theorem rightW_le {L : List Nat} (h : rightW L) : kraftW L ≤ 2 ^ 15 := by
  rcases h.2 with h | ⟨_, h⟩ <;> rw [h] <;> decide
/-- a symbol's piece -/
def pieceW (L : List Nat) (i : Nat) : Nat × Int := (codeW L i, (L.getD i 0 : Int))
theorem pieceW_may {L : List Nat} (h : ∀ d ∈ L, d ≤ 15) (i : Nat) : mayP (pieceW L i) := by
  have := getD_le h i
  refine ⟨Int.natCast_nonneg _, ?_, codeW_lt L i⟩
  show ((L.getD i 0 : Nat) : Int) ≤ 24
  omega
theorem sizeP_one {a : List (Nat × Int)} {p : Nat × Int} (h : mayP p) : sizeP (a ++ [p]) = sizeP a + p.2.toNat := by
  rw [sizeP_app]
  congr 1
  simp [sizeP, h]
/-- a symbol that was packed is told -/
theorem told_piece {L : List Nat} {a b : List (Nat × Int)} {i : Nat} (hr : rightW L) (hi : i < L.length) (h0 : 0 < L.getD i 0) (h : ∀ q ∈ a ++ pieceW L i :: b, mayP q) :
    toldW L (bytesB (bitsP (a ++ pieceW L i :: b))) (sizeP a) 15 1 = (i, 0, sizeP (a ++ [pieceW L i])) := by
  have hp : mayP (pieceW L i) := h _ (by simp)
  have hs := size_pack h
  have e : sizeP (a ++ pieceW L i :: b) = sizeP a + ((pieceW L i).2.toNat + sizeP b) := by rw [sizeP_app]; congr 1; simp [sizeP, hp]
  have e3 : (pieceW L i).2.toNat = L.getD i 0 := Int.toNat_natCast _
  have h15 := getD_le hr.1
  rw [sizeP_one hp, e3]
  refine toldW_word hi h0 h15 (rightW_le hr) ?_ ?_ 15 1 (by omega) (by omega) (by have := h15 i; omega)
  · rw [← e3]; exact take_pack h
  · rw [hs, e, e3]; omega
/-- the symbol of a token -/
def symT (t : (Nat × Int × Int)) : Nat := if t.2.1 = 0 then t.1 else 253 + t.2.1.toNat
/-- the pieces of a token -/
def tokP (L : List Nat) (t : (Nat × Int × Int)) : List (Nat × Int) := if t.2.1 = 0 then [pieceW L t.1] else [pieceW L (253 + t.2.1.toNat), ((t.2.2 - 1).toNat, 9)]
/-- what is expanded from bit p on, behind b; f: how many symbols at most -/
def expF (L s : List Nat) (most : Int) : Nat → Nat → List Nat → List Nat × Nat
  | 0, _, _ => ([], 40)
  | f + 1, p, b =>
    if (toldW L s p 15 1).2.1 ≠ 0 then ([], (toldW L s p 15 1).2.1)
    else if (toldW L s p 15 1).1 = 288 then (if endP s (toldW L s p 15 1).2.2 ≠ 0 then ([], endP s (toldW L s p 15 1).2.2) else (b, 0))
    else if (toldW L s p 15 1).1 < 256 then
      (if most < ((b.length + 1 : Nat) : Int) then ([], 90) else expF L s most f (toldW L s p 15 1).2.2 (b ++ [(toldW L s p 15 1).1]))
    else if (takeP s (toldW L s p 15 1).2.2 9).2.1 ≠ 0 then ([], (takeP s (toldW L s p 15 1).2.2 9).2.1)
    else if b.length < (takeP s (toldW L s p 15 1).2.2 9).1 + 1 then ([], 80)
    else if most < ((b.length + ((toldW L s p 15 1).1 - 253) : Nat) : Int) then ([], 90)
    else expF L s most f (takeP s (toldW L s p 15 1).2.2 9).2.2 (copyW ((takeP s (toldW L s p 15 1).2.2 9).1 + 1) ((toldW L s p 15 1).1 - 253) b)
/-- tokens that may be -/
def okT (t : (Nat × Int × Int)) : Prop := (t.2.1 = 0 ∧ t.2.2 = 0 ∧ t.1 < 256) ∨ (t.1 = 0 ∧ 3 ≤ t.2.1 ∧ t.2.1 ≤ 34 ∧ 1 ≤ t.2.2 ∧ t.2.2 ≤ 512)
/-- what tokens were packed to is what they are joined to -/
theorem exp_join {L : List Nat} {most : Int} (hr : rightW L) (hL : L.length = 289) : ∀ (l : List (Nat × Int × Int)) (a : List (Nat × Int)) (b : List Nat) (f : Nat),
    (∀ t ∈ l, okT t) → (∀ t ∈ l, 0 < L.getD (symT t) 0) → 0 < L.getD 288 0 → (∀ q ∈ a ++ (l.flatMap (tokP L) ++ [pieceW L 288]), mayP q) → l.length < f →
    expF L (bytesB (bitsP (a ++ (l.flatMap (tokP L) ++ [pieceW L 288])))) most f (sizeP a) b = joinW most l b
  | [], a, b, f, _, _, h288, hm, hf => by
    obtain ⟨f, rfl⟩ : ∃ g, f = g + 1 := ⟨f - 1, by simp at hf; omega⟩
    have e : a ++ (([] : List (Nat × Int × Int)).flatMap (tokP L) ++ [pieceW L 288]) = a ++ pieceW L 288 :: [] := by simp
    rw [e] at hm ⊢
    have ht := told_piece hr (by omega) h288 hm
    have he := end_pack hm
    unfold expF
    rw [ht]
    simp only [ne_eq, not_true_eq_false, if_false, if_true]
    rw [if_neg (by rw [he]; omega)]
    rfl
  | t :: l, a, b, f, hok, hpos, h288, hm, hf => by
    obtain ⟨f, rfl⟩ : ∃ g, f = g + 1 := ⟨f - 1, by simp at hf; omega⟩
    have hf' : l.length < f := by simp at hf; omega
    have hok' := fun u hu => hok u (List.mem_cons_of_mem t hu)
    have hpos' := fun u hu => hpos u (List.mem_cons_of_mem t hu)
    have h0 := hpos t (by simp)
    obtain ⟨c, n, k⟩ := t
    rcases hok _ (List.mem_cons_self ..) with ⟨h1, h2, h3⟩ | ⟨h1, h2, h3, h4, h5⟩
    · simp only at h1 h2 h3
      subst h1 h2
      have es : symT (c, 0, 0) = c := if_pos rfl
      have et : tokP L (c, 0, 0) = [pieceW L c] := if_pos rfl
      rw [es] at h0
      have e : a ++ (((c, (0 : Int), (0 : Int)) :: l).flatMap (tokP L) ++ [pieceW L 288]) = a ++ pieceW L c :: (l.flatMap (tokP L) ++ [pieceW L 288]) := by rw [List.flatMap_cons, et]; simp
      have e2 : a ++ pieceW L c :: (l.flatMap (tokP L) ++ [pieceW L 288]) = (a ++ [pieceW L c]) ++ (l.flatMap (tokP L) ++ [pieceW L 288]) := by simp
      rw [e] at hm ⊢
      have ht := told_piece hr (by omega) h0 hm
      unfold expF
      rw [ht]
      simp only [ne_eq, not_true_eq_false, if_false]
      rw [if_neg (by omega), if_pos h3]
      unfold joinW
      rw [if_pos rfl, if_neg (show ¬ ((0 : Int) ≠ 0) by omega)]
      split
      · rfl
      · rw [e2] at hm ⊢
        exact exp_join hr hL l (a ++ [pieceW L c]) (b ++ [c]) f hok' hpos' h288 hm hf'
    · simp only at h1 h2 h3 h4 h5
      have es : symT (c, n, k) = 253 + n.toNat := if_neg (by show ¬ n = 0; omega)
      have et : tokP L (c, n, k) = [pieceW L (253 + n.toNat), ((k - 1).toNat, 9)] := if_neg (by show ¬ n = 0; omega)
      rw [es] at h0
      have e : a ++ (((c, n, k) :: l).flatMap (tokP L) ++ [pieceW L 288]) = a ++ pieceW L (253 + n.toNat) :: (((k - 1).toNat, 9) :: (l.flatMap (tokP L) ++ [pieceW L 288])) := by rw [List.flatMap_cons, et]; simp
      have e2 : a ++ pieceW L (253 + n.toNat) :: (((k - 1).toNat, 9) :: (l.flatMap (tokP L) ++ [pieceW L 288])) = (a ++ [pieceW L (253 + n.toNat)]) ++ ((k - 1).toNat, 9) :: (l.flatMap (tokP L) ++ [pieceW L 288]) := by simp
      have e3 : (a ++ [pieceW L (253 + n.toNat)]) ++ ((k - 1).toNat, 9) :: (l.flatMap (tokP L) ++ [pieceW L 288]) = ((a ++ [pieceW L (253 + n.toNat)]) ++ [((k - 1).toNat, 9)]) ++ (l.flatMap (tokP L) ++ [pieceW L 288]) := by simp
      rw [e] at hm ⊢
      have ht := told_piece hr (by omega) h0 hm
      rw [e2] at hm ht ⊢
      have hk := take_piece hm
      simp only at hk
      unfold expF
      rw [ht]
      simp only [ne_eq, not_true_eq_false, if_false]
      rw [hk]
      simp only [not_true_eq_false, if_false]
      rw [if_neg (show ¬ (253 + n.toNat = 288) by omega), if_neg (show ¬ (253 + n.toNat < 256) by omega)]
      unfold joinW
      rw [if_neg (show ¬ (n = 0) by omega), if_neg (show ¬ (n < 3 ∨ 34 < n ∨ k < 1 ∨ 512 < k ∨ c ≠ 0) by omega), show 253 + n.toNat - 253 = n.toNat by omega]
      by_cases hb : (b.length : Int) < k
      · rw [if_pos (show b.length < (k - 1).toNat + 1 by omega), if_pos hb]
      · rw [if_neg (show ¬ (b.length < (k - 1).toNat + 1) by omega), if_neg hb, show (k - 1).toNat + 1 = k.toNat by omega]
        split
        · rfl
        · rw [e3] at hm ⊢
          exact exp_join hr hL l ((a ++ [pieceW L (253 + n.toNat)]) ++ [((k - 1).toNat, 9)]) _ f hok' hpos' h288 hm hf'
/-! ### the table of lengths -/
/-- the first k of l, and zeros up to m -/
def padN (m : Nat) (l : List Nat) (k : Nat) : List Nat := l.take k ++ zerN (m - k)
theorem padN_len {m : Nat} {l : List Nat} {k : Nat} (hl : l.length = m) (hk : k ≤ m) : (padN m l k).length = m := by
  unfold padN
  rw [List.length_append, List.length_take, zerN_len]
  omega
theorem zerN_at (m j : Nat) : (zerN m).getD j 0 = 0 := by
  unfold zerN
  rw [List.getD_eq_getElem?_getD, List.getElem?_replicate]
  split <;> rfl
theorem padN_getD {m : Nat} {l : List Nat} {k j : Nat} (hl : l.length = m) (hk : k ≤ m) : (padN m l k).getD j 0 = if j < k then l.getD j 0 else 0 := by
  unfold padN
  rw [getD_app, List.length_take, show min k l.length = k by omega]
  split
  · rename_i h; rw [getD_take _ _ _ h]
  · rw [zerN_at]
theorem padN_set {m : Nat} {l : List Nat} {k : Nat} (hl : l.length = m) (hk : k < m) : (padN m l k).set k (l.getD k 0) = padN m l (k + 1) := by
  refine getD_ext m (by rw [List.length_set, padN_len hl (by omega)]) (padN_len hl (by omega)) fun j hj => ?_
  rw [getD_set _ _ _ _ (by rw [padN_len hl (by omega)]; exact hk), padN_getD hl (by omega), padN_getD hl (by omega)]
  by_cases e : k = j
  · subst e; rw [if_pos rfl, if_pos (by omega)]
  · rw [if_neg e]
    by_cases h : j < k
    · rw [if_pos h, if_pos (by omega)]
    · rw [if_neg h, if_neg (by omega)]
theorem padN_skip {m : Nat} {l : List Nat} {k : Nat} (hl : l.length = m) (hk : k < m) (h0 : l.getD k 0 = 0) : padN m l k = padN m l (k + 1) := by
  refine getD_ext m (padN_len hl (by omega)) (padN_len hl (by omega)) fun j hj => ?_
  rw [padN_getD hl (by omega), padN_getD hl (by omega)]
  by_cases e : k = j
  · subst e; rw [if_neg (by omega), if_pos (by omega), h0]
  · by_cases h : j < k
    · rw [if_pos h, if_pos (by omega)]
    · rw [if_neg h, if_neg (by omega)]
theorem padN_all {m : Nat} {l : List Nat} (hl : l.length = m) : padN m l m = l := by
  unfold padN
  rw [List.take_of_length_le (by omega), Nat.sub_self]
  simp [zerN]
/-- what n entries are read as, from bit p on -/
def readT (s : List Nat) : Nat → Int → Nat → List Nat → List Nat × Nat × Nat
  | 0, _, p, out => (out, 0, p)
  | n + 1, before, p, out =>
    if (takeP s p 9).2.1 ≠ 0 then ([], (takeP s p 9).2.1, (takeP s p 9).2.2)
    else if (takeP s (takeP s p 9).2.2 4).2.1 ≠ 0 then ([], (takeP s (takeP s p 9).2.2 4).2.1, (takeP s (takeP s p 9).2.2 4).2.2)
    else if 289 ≤ (takeP s p 9).1 ∨ ((takeP s p 9).1 : Int) ≤ before ∨ (takeP s (takeP s p 9).2.2 4).1 = 0 then ([], 70, (takeP s (takeP s p 9).2.2 4).2.2)
    else readT s n ((takeP s p 9).1 : Int) (takeP s (takeP s p 9).2.2 4).2.2 (out.set (takeP s p 9).1 (takeP s (takeP s p 9).2.2 4).1)
/-- the entries of the symbols from i on -/
def entP (L : List Nat) : Nat → Nat → List (Nat × Int)
  | 0, _ => []
  | d + 1, i => if L.getD i 0 = 0 then entP L d (i + 1) else (i, 9) :: (L.getD i 0, 4) :: entP L d (i + 1)
/-- how many they are -/
def entN (L : List Nat) : Nat → Nat → Nat
  | 0, _ => 0
  | d + 1, i => if L.getD i 0 = 0 then entN L d (i + 1) else entN L d (i + 1) + 1
theorem entN_le (L : List Nat) : ∀ d i, entN L d i ≤ d
  | 0, _ => Nat.le_refl _
  | d + 1, i => by
    unfold entN
    have := entN_le L d (i + 1)
    split <;> omega
theorem entP_may {L : List Nat} (h : ∀ d ∈ L, d ≤ 15) : ∀ d i, i + d ≤ 289 → ∀ q ∈ entP L d i, mayP q
  | 0, _, _, q, hq => by simp [entP] at hq
  | d + 1, i, hi, q, hq => by
    unfold entP at hq
    split at hq
    · exact entP_may h d (i + 1) (by omega) q hq
    · rcases List.mem_cons.1 hq with rfl | hq
      · exact ⟨by simp, by simp, show i < 2 ^ 9 by omega⟩
      · rcases List.mem_cons.1 hq with rfl | hq
        · have := getD_le h i
          exact ⟨by simp, by simp, show L.getD i 0 < 2 ^ 4 by omega⟩
        · exact entP_may h d (i + 1) (by omega) q hq
/-- a table that was packed is read -/
theorem read_ent {L : List Nat} (hL : L.length = 289) (h15 : ∀ d ∈ L, d ≤ 15) : ∀ (d i : Nat) (a b : List (Nat × Int)) (before : Int), i + d = 289 → before < (i : Int) → (∀ q ∈ a ++ (entP L d i ++ b), mayP q) →
    readT (bytesB (bitsP (a ++ (entP L d i ++ b)))) (entN L d i) before (sizeP a) (padN 289 L i) = (L, 0, sizeP (a ++ entP L d i))
  | 0, i, a, b, before, hi, hb, hm => by
    have e : i = 289 := by omega
    subst e
    show (padN 289 L 289, 0, sizeP a) = _
    rw [padN_all hL]
    simp [entP]
  | d + 1, i, a, b, before, hi, hb, hm => by
    by_cases h0 : L.getD i 0 = 0
    · have e1 : entP L (d + 1) i = entP L d (i + 1) := if_pos h0
      have e2 : entN L (d + 1) i = entN L d (i + 1) := if_pos h0
      rw [e1] at hm ⊢
      rw [e2, padN_skip hL (by omega) h0]
      exact read_ent hL h15 d (i + 1) a b before (by omega) (by omega) hm
    · have e1 : entP L (d + 1) i = (i, 9) :: (L.getD i 0, 4) :: entP L d (i + 1) := if_neg h0
      have e2 : entN L (d + 1) i = entN L d (i + 1) + 1 := if_neg h0
      rw [e1] at hm ⊢
      rw [e2]
      have f1 : a ++ (((i, 9) :: (L.getD i 0, 4) :: entP L d (i + 1)) ++ b) = a ++ (i, 9) :: ((L.getD i 0, 4) :: (entP L d (i + 1) ++ b)) := by simp
      have f2 : a ++ (i, 9) :: ((L.getD i 0, 4) :: (entP L d (i + 1) ++ b)) = (a ++ [(i, 9)]) ++ (L.getD i 0, 4) :: (entP L d (i + 1) ++ b) := by simp
      have f3 : (a ++ [(i, 9)]) ++ (L.getD i 0, 4) :: (entP L d (i + 1) ++ b) = ((a ++ [(i, 9)]) ++ [(L.getD i 0, 4)]) ++ (entP L d (i + 1) ++ b) := by simp
      rw [f1] at hm ⊢
      have t1 := take_piece hm
      rw [f2] at hm t1 ⊢
      have t2 := take_piece hm
      simp only at t1 t2
      unfold readT
      rw [t1]
      simp only [ne_eq, not_true_eq_false, if_false]
      rw [t2]
      simp only [not_true_eq_false, if_false]
      rw [if_neg (show ¬ (289 ≤ i ∨ (i : Int) ≤ before ∨ L.getD i 0 = 0) by omega), padN_set hL (by omega)]
      rw [f3] at hm ⊢
      rw [read_ent hL h15 d (i + 1) ((a ++ [(i, 9)]) ++ [(L.getD i 0, 4)]) b (i : Int) (by omega) (by omega) hm]
      simp
end Go.Proofs.Ytpjihjbgihionaa
namespace Go.Proofs.Ytpjihjbgihionaa
set_option linter.unusedVariables false

/-- one more of symbol k -/
def incF (F : List Nat) (k : Nat) : List Nat := F.set k (F.getD k 0 + 1)
theorem incF_len (F : List Nat) (k : Nat) : (incF F k).length = F.length := by simp [incF]
theorem incF_getD {F : List Nat} {k : Nat} (h : k < F.length) (j : Nat) : (incF F k).getD j 0 = F.getD j 0 + (if k = j then 1 else 0) := by
  unfold incF
  rw [getD_set _ _ _ _ h]
  split
  · rename_i e; subst e; rfl
  · rfl
/-- how often symbols come in tokens that may be -/
def cntQ : List (Nat × Int × Int) → List Nat → List Nat
  | [], F => F
  | t :: l, F => cntQ l (incF F (symT t))
theorem cntQ_len : ∀ (l : List (Nat × Int × Int)) (F : List Nat), (cntQ l F).length = F.length
  | [], _ => rfl
  | t :: l, F => by
    show (cntQ l _).length = _
    rw [cntQ_len l, incF_len]
theorem symT_lt {t : (Nat × Int × Int)} (h : okT t) : symT t < 288 := by
  unfold symT
  rcases h with ⟨h1, h2, h3⟩ | ⟨h1, h2, h3, h4, h5⟩
  · rw [if_pos h1]; omega
  · rw [if_neg (by omega)]; omega
theorem cntQ_ge : ∀ (l : List (Nat × Int × Int)) (F : List Nat), F.length = 289 → (∀ t ∈ l, okT t) → ∀ j, F.getD j 0 ≤ (cntQ l F).getD j 0 ∧ (cntQ l F).getD j 0 ≤ F.getD j 0 + l.length
  | [], F, _, _, j => ⟨Nat.le_refl _, Nat.le_refl _⟩
  | t :: l, F, hF, hok, j => by
    have ih := cntQ_ge l (incF F (symT t)) (by rw [incF_len]; exact hF) (fun u hu => hok u (by simp [hu])) j
    rw [incF_getD (by have := symT_lt (hok t (by simp)); omega)] at ih
    show F.getD j 0 ≤ (cntQ l (incF F (symT t))).getD j 0 ∧ (cntQ l (incF F (symT t))).getD j 0 ≤ _
    rw [List.length_cons]
    split at ih <;> omega
theorem cntQ_pos : ∀ (l : List (Nat × Int × Int)) (F : List Nat), F.length = 289 → (∀ t ∈ l, okT t) → ∀ t ∈ l, 0 < (cntQ l F).getD (symT t) 0
  | [], _, _, _, t, h => by simp at h
  | u :: l, F, hF, hok, t, h => by
    have hl : (incF F (symT u)).length = 289 := by rw [incF_len]; exact hF
    have hok' := fun v hv => hok v (List.mem_cons_of_mem u hv)
    rcases List.mem_cons.1 h with rfl | h
    · have h1 := (cntQ_ge l (incF F (symT t)) hl hok' (symT t)).1
      rw [incF_getD (by have := symT_lt (hok t (by simp)); omega), if_pos rfl] at h1
      show 0 < (cntQ l (incF F (symT t))).getD (symT t) 0
      omega
    · exact cntQ_pos l (incF F (symT u)) hl hok' t h
theorem cntQ_over : ∀ (l : List (Nat × Int × Int)) (F : List Nat), F.length = 289 → (∀ t ∈ l, okT t) → (cntQ l F).getD 288 0 = F.getD 288 0
  | [], _, _, _ => rfl
  | u :: l, F, hF, hok => by
    have h := symT_lt (hok u (by simp))
    show (cntQ l (incF F (symT u))).getD 288 0 = _
    rw [cntQ_over l _ (by rw [incF_len]; exact hF) (fun v hv => hok v (by simp [hv])), incF_getD (by omega), if_neg (by omega)]
    rfl
/-- .. and the end, once -/
def freqT (l : List (Nat × Int × Int)) : List Nat := (cntQ l (zerN 289)).set 288 1
theorem freqT_len (l : List (Nat × Int × Int)) : (freqT l).length = 289 := by
  unfold freqT
  rw [List.length_set, cntQ_len, zerN_len]
theorem freqT_getD (l : List (Nat × Int × Int)) (j : Nat) : (freqT l).getD j 0 = if 288 = j then 1 else (cntQ l (zerN 289)).getD j 0 := getD_set _ _ _ _ (by rw [cntQ_len, zerN_len]; omega)
/-- the lengths for tokens -/
def lenT (l : List (Nat × Int × Int)) : List Nat := lensF 15 20 (freqT l)
theorem dep_filter {fr : List Nat} : ((depthsF fr).filter fun d => decide (0 < d)).length = (treesF fr).length := by
  unfold depthsF treesF
  rw [List.filter_map, List.length_map, List.length_map]
  congr 1
  refine List.filter_congr fun i hi => decide_eq_decide.2 (depF_pos (List.mem_range.1 hi))
theorem lenT_right {l : List (Nat × Int × Int)} (hok : ∀ t ∈ l, okT t) (hl : l.length ≤ 4096) : rightW (lenT l) ∧ (lenT l).length = 289 ∧ (∀ i, i < 289 → (0 < (lenT l).getD i 0 ↔ 0 < (freqT l).getD i 0)) := by
  have hlen := freqT_len l
  have hle : ∀ i, (freqT l).getD i 0 ≤ 2 ^ 20 := fun i => by
    rw [freqT_getD]
    split
    · decide
    · have := (cntQ_ge l (zerN 289) (zerN_len _) hok i).2
      rw [zerN_at] at this
      omega
  have h15 : ∀ d ∈ lenT l, d ≤ 15 := lensF_ends (by decide) (Nat.le_trans (treesF_len _) (by rw [hlen]; decide)) hle
  obtain ⟨fr, q1, q2, q3, q4⟩ := lensF_some 15 20 (freqT l)
  have e : lenT l = depthsF fr := q1
  have hm := treesF_mem (fr := freqT l) (i := 288) (by omega) (by rw [freqT_getD, if_pos rfl]; decide)
  have hp := List.length_pos_of_mem hm
  refine ⟨⟨h15, ?_⟩, by rw [e, depthsF_len, q2, hlen], fun i hi => ?_⟩
  · rcases Nat.lt_or_ge (treesF fr).length 2 with h1 | h1
    · right
      rw [e]
      exact ⟨by rw [dep_filter]; omega, kraft_one (by omega)⟩
    · left
      rw [e]
      exact kraft_whole h1 (by rw [← e]; exact h15)
  · rw [e, depthsF_getD (by omega), depF_pos (by omega)]
    exact q4 i
instance (L : List Nat) : Decidable (rightW L) := by unfold rightW; infer_instance
/-- the pieces of tokens -/
def piecesT (l : List (Nat × Int × Int)) : List (Nat × Int) := (entN (lenT l) 289 0, 9) :: (entP (lenT l) 289 0 ++ (l.flatMap (tokP (lenT l)) ++ [pieceW (lenT l) 288]))
theorem piecesT_may {l : List (Nat × Int × Int)} (hok : ∀ t ∈ l, okT t) (hl : l.length ≤ 4096) : ∀ q ∈ piecesT l, mayP q := by
  obtain ⟨hr, hL, hpos⟩ := lenT_right hok hl
  intro q hq
  rcases List.mem_cons.1 hq with rfl | hq
  · have := entN_le (lenT l) 289 0
    exact ⟨by simp, by simp, show entN (lenT l) 289 0 < 2 ^ 9 by omega⟩
  · rcases List.mem_append.1 hq with hq | hq
    · exact entP_may hr.1 289 0 (by omega) q hq
    · rcases List.mem_append.1 hq with hq | hq
      · obtain ⟨t, ht, hq⟩ := List.mem_flatMap.1 hq
        unfold tokP at hq
        split at hq
        · simp at hq; subst hq; exact pieceW_may hr.1 _
        · rename_i h0
          have h9 := hok t ht
          rcases List.mem_cons.1 hq with rfl | hq
          · exact pieceW_may hr.1 _
          · rw [List.mem_singleton] at hq
            subst hq
            refine ⟨by simp, by simp, ?_⟩
            show (t.2.2 - 1).toNat < 2 ^ 9
            rcases h9 with ⟨q1, _⟩ | ⟨_, _, _, q4, q5⟩
            · exact absurd q1 h0
            · omega
      · simp at hq; subst hq; exact pieceW_may hr.1 _
/-- what bytes are expanded to, and the error -/
def expandP (s : List Nat) (most : Int) : List Nat × Nat :=
  if (takeP s 0 9).2.1 ≠ 0 then ([], (takeP s 0 9).2.1)
  else if 289 < (takeP s 0 9).1 then ([], 70)
  else if (readT s (takeP s 0 9).1 (-1) (takeP s 0 9).2.2 (zerN 289)).2.1 ≠ 0 then ([], (readT s (takeP s 0 9).1 (-1) (takeP s 0 9).2.2 (zerN 289)).2.1)
  else if ¬ (rightW (readT s (takeP s 0 9).1 (-1) (takeP s 0 9).2.2 (zerN 289)).1 ∧ (readT s (takeP s 0 9).1 (-1) (takeP s 0 9).2.2 (zerN 289)).1.getD 288 0 ≠ 0) then ([], 70)
  else expF (readT s (takeP s 0 9).1 (-1) (takeP s 0 9).2.2 (zerN 289)).1 s most (8 * s.length + 1) (readT s (takeP s 0 9).1 (-1) (takeP s 0 9).2.2 (zerN 289)).2.2 []
theorem tokP_len {L : List Nat} {l : List (Nat × Int × Int)} (h : ∀ t ∈ l, 0 < L.getD (symT t) 0) (h15 : ∀ d ∈ L, d ≤ 15) : l.length ≤ sizeP (l.flatMap (tokP L)) := by
  induction l with
  | nil => exact Nat.zero_le _
  | cons t l ih =>
    have ih := ih fun u hu => h u (by simp [hu])
    have h0 := h t (by simp)
    rw [List.flatMap_cons, sizeP_app, List.length_cons]
    have : 1 ≤ sizeP (tokP L t) := by
      unfold symT at h0
      unfold tokP
      split
      · rename_i e
        rw [if_pos e] at h0
        have hm := pieceW_may h15 t.1
        have h0' : 1 ≤ (pieceW L t.1).2.toNat := h0
        simp only [sizeP, List.map_cons, List.map_nil, List.sum_cons, List.sum_nil, if_pos hm]
        omega
      · rename_i e
        rw [if_neg e] at h0
        have hm := pieceW_may h15 (253 + t.2.1.toNat)
        have h0' : 1 ≤ (pieceW L (253 + t.2.1.toNat)).2.toNat := h0
        simp only [sizeP, List.map_cons, List.sum_cons, if_pos hm]
        omega
    omega
/-- what tokens were packed to is expanded to what they are joined to -/
theorem expand_pack {l : List (Nat × Int × Int)} (hok : ∀ t ∈ l, okT t) (hl : l.length ≤ 4096) (most : Int) : expandP (bytesB (bitsP (piecesT l))) most = joinW most l [] := by
  obtain ⟨hr, hL, hpos⟩ := lenT_right hok hl
  have hm := piecesT_may hok hl
  have hp : ∀ t ∈ l, 0 < (lenT l).getD (symT t) 0 := fun t ht => by
    have h1 := symT_lt (hok t ht)
    rw [hpos _ (by omega), freqT_getD, if_neg (by omega)]
    exact cntQ_pos l (zerN 289) (zerN_len _) hok t ht
  have h288 : 0 < (lenT l).getD 288 0 := by rw [hpos 288 (by omega), freqT_getD, if_pos rfl]; decide
  have hsz := size_pack hm
  have hfuel : l.length ≤ 8 * (bytesB (bitsP (piecesT l))).length := by
    have h1 := tokP_len hp hr.1
    have h2 : sizeP (l.flatMap (tokP (lenT l))) ≤ sizeP (piecesT l) := by
      unfold piecesT
      rw [show (entN (lenT l) 289 0, (9 : Int)) :: (entP (lenT l) 289 0 ++ (l.flatMap (tokP (lenT l)) ++ [pieceW (lenT l) 288])) = ((entN (lenT l) 289 0, (9 : Int)) :: entP (lenT l) 289 0) ++ (l.flatMap (tokP (lenT l)) ++ [pieceW (lenT l) 288]) by simp, sizeP_app, sizeP_app]
      omega
    rw [hsz]
    omega
  unfold expandP
  generalize hLe : lenT l = L at *
  have f0 : piecesT l = [] ++ (entN L 289 0, 9) :: (entP L 289 0 ++ (l.flatMap (tokP L) ++ [pieceW L 288])) := by unfold piecesT; rw [hLe]; rfl
  have f1 : [] ++ (entN L 289 0, (9 : Int)) :: (entP L 289 0 ++ (l.flatMap (tokP L) ++ [pieceW L 288])) = [(entN L 289 0, 9)] ++ (entP L 289 0 ++ (l.flatMap (tokP L) ++ [pieceW L 288])) := by simp
  have f2 : [(entN L 289 0, (9 : Int))] ++ (entP L 289 0 ++ (l.flatMap (tokP L) ++ [pieceW L 288])) = ([(entN L 289 0, 9)] ++ entP L 289 0) ++ (l.flatMap (tokP L) ++ [pieceW L 288]) := by simp
  rw [f0] at hm hfuel ⊢
  have t1 := take_piece hm
  have ez : sizeP ([] : List (Nat × Int)) = 0 := rfl
  rw [ez] at t1
  rw [f1] at hm t1 hfuel ⊢
  have t2 := read_ent hL hr.1 289 0 [(entN L 289 0, 9)] (l.flatMap (tokP L) ++ [pieceW L 288]) (-1) (by omega) (by omega) hm
  rw [show padN 289 L 0 = zerN 289 from rfl] at t2
  rw [f2] at hm t1 t2 hfuel ⊢
  have t3 := exp_join (most := most) hr hL l ([(entN L 289 0, 9)] ++ entP L 289 0) [] (8 * (bytesB (bitsP (([(entN L 289 0, 9)] ++ entP L 289 0) ++ (l.flatMap (tokP L) ++ [pieceW L 288])))).length + 1) hok hp h288 hm (by omega)
  generalize bytesB (bitsP (([(entN L 289 0, 9)] ++ entP L 289 0) ++ (l.flatMap (tokP L) ++ [pieceW L 288]))) = s at *
  simp only at t1
  rw [t1]
  simp only [ne_eq, not_true_eq_false, if_false, List.nil_append]
  rw [if_neg (by have := entN_le L 289 0; omega), t2]
  simp only [not_true_eq_false, if_false]
  rw [if_neg (fun hn => hn ⟨hr, by omega⟩)]
  exact t3
/-- with less room than it needs a text is not joined -/
theorem join_over {s : List Nat} {most : Int} (hm : most < (s.length : Int)) : ∀ (f p : Nat), p < s.length → s.length ≤ p + f → joinW most (splitW s f p) (s.take p) = ([], 90)
  | 0, p, h1, h2 => by omega
  | f + 1, p, h1, h2 => by
    have hl : (s.take p).length = p := by rw [List.length_take]; omega
    unfold splitW
    rw [if_neg (by omega)]
    by_cases e2 : (matchW s p).1 = 0
    · rw [if_pos e2]
      unfold joinW
      rw [if_pos rfl, if_neg (show ¬ ((0 : Int) ≠ 0) by omega), hl]
      by_cases e3 : most < ((p + 1 : Nat) : Int)
      · rw [if_pos e3]
      · rw [if_neg e3, ← take_snoc s p h1]
        exact join_over hm f (p + 1) (by omega) (by omega)
    · obtain ⟨q1, q2, q3, q4, q5, q6, q7, _⟩ := matchW_is e2
      rw [if_neg e2]
      unfold joinW
      rw [if_neg (by omega), if_neg (by omega), hl, if_neg (by omega)]
      rw [show ((matchW s p).1 : Int).toNat = (matchW s p).1 by omega, show ((matchW s p).2 : Int).toNat = (matchW s p).2 by omega]
      by_cases e3 : most < ((p + (matchW s p).1 : Nat) : Int)
      · rw [if_pos e3]
      · rw [if_neg e3, copyW_take q3 q5 q6 q7]
        exact join_over hm f (p + (matchW s p).1) (by omega) (by omega)
end Go.Proofs.Ytpjihjbgihionaa
namespace Go.Proofs.Ytpjihjbgihionaa
set_option linter.unusedVariables false

theorem bitAt_take {s : List Nat} {k i : Nat} (h : i < 8 * k) : bitAt (s.take k) i = bitAt s i := by
  unfold bitAt
  rw [getD_take _ _ _ (by omega)]
theorem numB_take {s : List Nat} {k p w : Nat} (h : p + w ≤ 8 * k) : numB (s.take k) p w = numB s p w := accB_congr fun i hi => bitAt_take (by omega)
theorem take_len {s : List Nat} {k : Nat} (hk : k ≤ s.length) : (s.take k).length = k := by rw [List.length_take]; omega
theorem takeP_in {s : List Nat} {k p : Nat} {w : Int} (hk : k ≤ s.length) (h0 : 0 ≤ w) (h24 : w ≤ 24) (h : p + w.toNat ≤ 8 * k) : takeP (s.take k) p w = takeP s p w := by
  have hl := take_len hk
  have hn := numB_take (s := s) h
  unfold takeP
  rw [hl, hn, if_neg (show ¬ (w < 0 ∨ 24 < w) by omega), if_neg (show ¬ (8 * k - p < w.toNat) by omega), if_neg (show ¬ (w < 0 ∨ 24 < w) by omega), if_neg (show ¬ (8 * s.length - p < w.toNat) by omega)]
theorem takeP_out {s : List Nat} {k p : Nat} {w : Int} (hk : k ≤ s.length) (h0 : 0 ≤ w) (h24 : w ≤ 24) (hp : p ≤ 8 * k) (h : 8 * k < p + w.toNat) : takeP (s.take k) p w = (0, 40, p) := by
  unfold takeP
  rw [if_neg (by omega), take_len hk, if_pos (by omega)]
/-- a word is told of what was cut, if it is there; else it is too short -/
theorem told_cut {L s : List Nat} {p i k : Nat} (hi : i < L.length) (i0 : 0 < L.getD i 0) (h15 : ∀ k, L.getD k 0 ≤ 15) (hK : kraftW L ≤ 2 ^ 15) (hn : numB s p (L.getD i 0) = codeW L i) (hk : k ≤ s.length) :
    ∀ d w, 0 < w → w ≤ L.getD i 0 → L.getD i 0 < w + d → (p + L.getD i 0 ≤ 8 * k → toldW L (s.take k) p d w = (i, 0, p + L.getD i 0)) ∧ (8 * k < p + L.getD i 0 → (toldW L (s.take k) p d w).2.1 = 40)
  | 0, w, h1, h2, h3 => by omega
  | d + 1, w, h1, h2, h3 => by
    by_cases hw : 8 * k < p + w
    · refine ⟨fun h => by omega, fun _ => ?_⟩
      unfold toldW
      rw [if_pos (by rw [take_len hk]; exact hw)]
    have hm : numB (s.take k) p w = codeW L i % 2 ^ w := by
      obtain ⟨e, he⟩ : ∃ e, L.getD i 0 = w + e := ⟨L.getD i 0 - w, by omega⟩
      rw [numB_take (by omega), ← hn, he, numB_mod]
    by_cases e : w = L.getD i 0
    · refine ⟨fun _ => ?_, fun h => by omega⟩
      unfold toldW
      rw [if_neg (by rw [take_len hk]; exact hw)]
      have hc : codeW L i = numB (s.take k) p w := by rw [hm, e, Nat.mod_eq_of_lt (codeW_lt L i)]
      rw [hitW_some (i := i) hi e.symm hc (fun j hj k1 k2 => codeW_inj L hi hj i0 (by rw [k1, e]) (h15 i) hK (by rw [k2, hc]))]
      rw [e]
    · have ih := told_cut hi i0 h15 hK hn hk d (w + 1) (by omega) (by omega) (by omega)
      have hh : hitW L (numB (s.take k) p w) w = none := hitW_none (fun j hj k1 k2 => by
        by_cases ek : j = i
        · subst ek; exact e k1.symm
        · refine codeW_free L hj hi ek (by omega) (by omega) (h15 i) hK ?_
          rw [k1, ← hm, k2])
      have hmo : moreW L (numB (s.take k) p w) w = true := by
        unfold moreW
        rw [List.any_eq_true]
        refine ⟨i, List.mem_range.2 hi, ?_⟩
        rw [Bool.and_eq_true, decide_eq_true_eq, beq_iff_eq]
        exact ⟨by omega, hm.symm⟩
      have step : toldW L (s.take k) p (d + 1) w = toldW L (s.take k) p d (w + 1) := by
        conv => lhs; unfold toldW
        rw [if_neg (by rw [take_len hk]; exact hw), hh]
        exact if_pos hmo
      rw [step]
      exact ih
/-- .. of a packed piece -/
theorem told_piece_cut {L : List Nat} {a b : List (Nat × Int)} {i k : Nat} (hr : rightW L) (hi : i < L.length) (h0 : 0 < L.getD i 0) (h : ∀ q ∈ a ++ pieceW L i :: b, mayP q) (hk : k ≤ (bytesB (bitsP (a ++ pieceW L i :: b))).length) :
    (sizeP (a ++ [pieceW L i]) ≤ 8 * k → toldW L ((bytesB (bitsP (a ++ pieceW L i :: b))).take k) (sizeP a) 15 1 = (i, 0, sizeP (a ++ [pieceW L i]))) ∧
    (8 * k < sizeP (a ++ [pieceW L i]) → (toldW L ((bytesB (bitsP (a ++ pieceW L i :: b))).take k) (sizeP a) 15 1).2.1 = 40) := by
  have hp : mayP (pieceW L i) := h _ (by simp)
  have e3 : (pieceW L i).2.toNat = L.getD i 0 := Int.toNat_natCast _
  have h15 := getD_le hr.1
  rw [sizeP_one hp, e3]
  exact told_cut hi h0 h15 (rightW_le hr) (by rw [← e3]; exact take_pack h) hk 15 1 (by omega) (by omega) (by have := h15 i; omega)
/-- what was cut is too short, if the whole would be joined -/
theorem exp_cut {L : List Nat} {most : Int} (hr : rightW L) (hL : L.length = 289) {k : Nat} : ∀ (l : List (Nat × Int × Int)) (a : List (Nat × Int)) (b : List Nat) (f : Nat),
    (∀ t ∈ l, okT t) → (∀ t ∈ l, 0 < L.getD (symT t) 0) → 0 < L.getD 288 0 → (∀ q ∈ a ++ (l.flatMap (tokP L) ++ [pieceW L 288]), mayP q) → 8 * k < sizeP a + f →
    k ≤ (bytesB (bitsP (a ++ (l.flatMap (tokP L) ++ [pieceW L 288])))).length → sizeP a ≤ 8 * k → 8 * k < sizeP (a ++ (l.flatMap (tokP L) ++ [pieceW L 288])) → (joinW most l b).2 = 0 →
    expF L ((bytesB (bitsP (a ++ (l.flatMap (tokP L) ++ [pieceW L 288])))).take k) most f (sizeP a) b = ([], 40)
  | [], a, b, f, _, _, h288, hm, hf, hk, ha, hz, hj => by
    obtain ⟨f, rfl⟩ : ∃ g, f = g + 1 := ⟨f - 1, by omega⟩
    have e : a ++ (([] : List (Nat × Int × Int)).flatMap (tokP L) ++ [pieceW L 288]) = a ++ pieceW L 288 :: [] := by simp
    rw [e] at hm hk hz ⊢
    have ht := (told_piece_cut hr (by omega) h288 hm hk).2 hz
    unfold expF
    rw [if_pos (by rw [ht]; decide), ht]
  | t :: l, a, b, f, hok, hpos, h288, hm, hf, hk, ha, hz, hj => by
    obtain ⟨f, rfl⟩ : ∃ g, f = g + 1 := ⟨f - 1, by omega⟩
    have hok' := fun u hu => hok u (List.mem_cons_of_mem t hu)
    have hpos' := fun u hu => hpos u (List.mem_cons_of_mem t hu)
    have h0 := hpos t (by simp)
    obtain ⟨c, n, q⟩ := t
    rcases hok _ (List.mem_cons_self ..) with ⟨h1, h2, h3⟩ | ⟨h1, h2, h3, h4, h5⟩
    · simp only at h1 h2 h3
      subst h1 h2
      have es : symT (c, 0, 0) = c := if_pos rfl
      have et : tokP L (c, 0, 0) = [pieceW L c] := if_pos rfl
      rw [es] at h0
      have e : a ++ (((c, (0 : Int), (0 : Int)) :: l).flatMap (tokP L) ++ [pieceW L 288]) = a ++ pieceW L c :: (l.flatMap (tokP L) ++ [pieceW L 288]) := by rw [List.flatMap_cons, et]; simp
      have e2 : a ++ pieceW L c :: (l.flatMap (tokP L) ++ [pieceW L 288]) = (a ++ [pieceW L c]) ++ (l.flatMap (tokP L) ++ [pieceW L 288]) := by simp
      rw [e] at hm hk hz ⊢
      have hsn := sizeP_one (a := a) (pieceW_may hr.1 c)
      have hsn' : 1 ≤ (pieceW L c).2.toNat := h0
      obtain ⟨t1, t2⟩ := told_piece_cut hr (by omega) h0 hm hk
      unfold joinW at hj
      rw [if_pos rfl, if_neg (show ¬ ((0 : Int) ≠ 0) by omega)] at hj
      unfold expF
      by_cases hc : 8 * k < sizeP (a ++ [pieceW L c])
      · have ht := t2 hc
        rw [if_pos (by rw [ht]; decide), ht]
      · rw [t1 (by omega)]
        simp only [ne_eq, not_true_eq_false, if_false]
        rw [if_neg (show ¬ c = 288 by omega), if_pos h3]
        by_cases hmo : most < ((b.length + 1 : Nat) : Int)
        · rw [if_pos hmo] at hj; exact absurd hj (by decide)
        · rw [if_neg hmo] at hj ⊢
          rw [e2] at hm hk hz ⊢
          exact exp_cut hr hL l (a ++ [pieceW L c]) (b ++ [c]) f hok' hpos' h288 hm (by omega) hk (by omega) hz hj
    · simp only at h1 h2 h3 h4 h5
      have es : symT (c, n, q) = 253 + n.toNat := if_neg (by show ¬ n = 0; omega)
      have et : tokP L (c, n, q) = [pieceW L (253 + n.toNat), ((q - 1).toNat, 9)] := if_neg (by show ¬ n = 0; omega)
      rw [es] at h0
      have e : a ++ (((c, n, q) :: l).flatMap (tokP L) ++ [pieceW L 288]) = a ++ pieceW L (253 + n.toNat) :: (((q - 1).toNat, 9) :: (l.flatMap (tokP L) ++ [pieceW L 288])) := by rw [List.flatMap_cons, et]; simp
      have e2 : a ++ pieceW L (253 + n.toNat) :: (((q - 1).toNat, 9) :: (l.flatMap (tokP L) ++ [pieceW L 288])) = (a ++ [pieceW L (253 + n.toNat)]) ++ ((q - 1).toNat, 9) :: (l.flatMap (tokP L) ++ [pieceW L 288]) := by simp
      have e3 : (a ++ [pieceW L (253 + n.toNat)]) ++ ((q - 1).toNat, 9) :: (l.flatMap (tokP L) ++ [pieceW L 288]) = ((a ++ [pieceW L (253 + n.toNat)]) ++ [((q - 1).toNat, 9)]) ++ (l.flatMap (tokP L) ++ [pieceW L 288]) := by simp
      rw [e] at hm hk hz ⊢
      have hsn := sizeP_one (a := a) (pieceW_may hr.1 (253 + n.toNat))
      have hsn' : 1 ≤ (pieceW L (253 + n.toNat)).2.toNat := h0
      obtain ⟨t1, t2⟩ := told_piece_cut hr (by omega) h0 hm hk
      unfold joinW at hj
      rw [if_neg (show ¬ (n = 0) by omega), if_neg (show ¬ (n < 3 ∨ 34 < n ∨ q < 1 ∨ 512 < q ∨ c ≠ 0) by omega)] at hj
      unfold expF
      by_cases hc : 8 * k < sizeP (a ++ [pieceW L (253 + n.toNat)])
      · have ht := t2 hc
        rw [if_pos (by rw [ht]; decide), ht]
      · rw [t1 (by omega)]
        simp only [ne_eq, not_true_eq_false, if_false]
        rw [if_neg (show ¬ (253 + n.toNat = 288) by omega), if_neg (show ¬ (253 + n.toNat < 256) by omega)]
        rw [e2] at hm hk hz ⊢
        have hp9 : mayP ((q - 1).toNat, (9 : Int)) := hm _ (by simp)
        have es9 := sizeP_one (a := a ++ [pieceW L (253 + n.toNat)]) hp9
        have tk := take_piece hm
        simp only at tk es9
        by_cases hc2 : 8 * k < sizeP (a ++ [pieceW L (253 + n.toNat)]) + 9
        · rw [takeP_out hk (by decide) (by decide) (by omega) (by show 8 * k < _ + 9; exact hc2)]
          rw [if_pos (show ¬ ((40 : Nat) = 0) by decide)]
        · rw [takeP_in hk (by decide) (by decide) (by show _ + 9 ≤ _; omega), tk]
          simp only [not_true_eq_false, if_false]
          by_cases hb : (b.length : Int) < q
          · rw [if_pos hb] at hj; exact absurd hj (by decide)
          · rw [if_neg hb] at hj
            rw [if_neg (show ¬ (b.length < (q - 1).toNat + 1) by omega), show 253 + n.toNat - 253 = n.toNat by omega, show (q - 1).toNat + 1 = q.toNat by omega]
            by_cases hmo : most < ((b.length + n.toNat : Nat) : Int)
            · rw [if_pos hmo] at hj; exact absurd hj (by decide)
            · rw [if_neg hmo] at hj ⊢
              rw [e3] at hm hk hz ⊢
              exact exp_cut hr hL l ((a ++ [pieceW L (253 + n.toNat)]) ++ [((q - 1).toNat, 9)]) _ f hok' hpos' h288 hm (by rw [es9]; show _ < _ + 9 + _; omega) hk (by rw [es9]; show _ + 9 ≤ _; omega) hz hj
/-- a piece of a number, of what was cut -/
theorem take_piece_cut {a b : List (Nat × Int)} {p : Nat × Int} {k : Nat} (h : ∀ q ∈ a ++ p :: b, mayP q) (hk : k ≤ (bytesB (bitsP (a ++ p :: b))).length) (ha : sizeP a ≤ 8 * k) :
    (sizeP (a ++ [p]) ≤ 8 * k → takeP ((bytesB (bitsP (a ++ p :: b))).take k) (sizeP a) p.2 = (p.1, 0, sizeP (a ++ [p]))) ∧
    (8 * k < sizeP (a ++ [p]) → takeP ((bytesB (bitsP (a ++ p :: b))).take k) (sizeP a) p.2 = (0, 40, sizeP a)) := by
  have hp : mayP p := h p (by simp)
  have hs := sizeP_one (a := a) hp
  refine ⟨fun h1 => ?_, fun h1 => ?_⟩
  · rw [takeP_in hk hp.1 hp.2.1 (by omega)]
    exact take_piece h
  · exact takeP_out hk hp.1 hp.2.1 ha (by omega)
/-- a table that was packed and cut is read, or is too short -/
theorem read_cut {L : List Nat} (hL : L.length = 289) (h15 : ∀ d ∈ L, d ≤ 15) {k : Nat} : ∀ (d i : Nat) (a b : List (Nat × Int)) (before : Int), i + d = 289 → before < (i : Int) → (∀ q ∈ a ++ (entP L d i ++ b), mayP q) →
    k ≤ (bytesB (bitsP (a ++ (entP L d i ++ b)))).length → sizeP a ≤ 8 * k →
    (sizeP (a ++ entP L d i) ≤ 8 * k → readT ((bytesB (bitsP (a ++ (entP L d i ++ b)))).take k) (entN L d i) before (sizeP a) (padN 289 L i) = (L, 0, sizeP (a ++ entP L d i))) ∧
    (8 * k < sizeP (a ++ entP L d i) → (readT ((bytesB (bitsP (a ++ (entP L d i ++ b)))).take k) (entN L d i) before (sizeP a) (padN 289 L i)).2.1 = 40)
  | 0, i, a, b, before, hi, hb, hm, hk, ha => by
    have e : i = 289 := by omega
    subst e
    refine ⟨fun _ => ?_, fun h => ?_⟩
    · show (padN 289 L 289, 0, sizeP a) = _
      rw [padN_all hL]
      simp [entP]
    · rw [show a ++ entP L 0 289 = a by simp [entP]] at h
      omega
  | d + 1, i, a, b, before, hi, hb, hm, hk, ha => by
    by_cases h0 : L.getD i 0 = 0
    · have e1 : entP L (d + 1) i = entP L d (i + 1) := if_pos h0
      have e2 : entN L (d + 1) i = entN L d (i + 1) := if_pos h0
      rw [e1] at hm hk ⊢
      rw [e2, padN_skip hL (by omega) h0]
      exact read_cut hL h15 d (i + 1) a b before (by omega) (by omega) hm hk ha
    · have e1 : entP L (d + 1) i = (i, 9) :: (L.getD i 0, 4) :: entP L d (i + 1) := if_neg h0
      have e2 : entN L (d + 1) i = entN L d (i + 1) + 1 := if_neg h0
      rw [e1] at hm hk ⊢
      rw [e2]
      have f1 : a ++ (((i, 9) :: (L.getD i 0, 4) :: entP L d (i + 1)) ++ b) = a ++ (i, 9) :: ((L.getD i 0, 4) :: (entP L d (i + 1) ++ b)) := by simp
      have f2 : a ++ (i, 9) :: ((L.getD i 0, 4) :: (entP L d (i + 1) ++ b)) = (a ++ [(i, 9)]) ++ (L.getD i 0, 4) :: (entP L d (i + 1) ++ b) := by simp
      have f3 : (a ++ [(i, 9)]) ++ (L.getD i 0, 4) :: (entP L d (i + 1) ++ b) = ((a ++ [(i, 9)]) ++ [(L.getD i 0, 4)]) ++ (entP L d (i + 1) ++ b) := by simp
      have f4 : a ++ (i, 9) :: (L.getD i 0, 4) :: entP L d (i + 1) = ((a ++ [(i, 9)]) ++ [(L.getD i 0, 4)]) ++ entP L d (i + 1) := by simp
      rw [f4]
      have hsz : sizeP (a ++ [(i, (9 : Int))]) ≤ sizeP (((a ++ [(i, 9)]) ++ [(L.getD i 0, 4)])) ∧ sizeP (((a ++ [(i, (9 : Int))]) ++ [(L.getD i 0, 4)])) ≤ sizeP (((a ++ [(i, 9)]) ++ [(L.getD i 0, 4)]) ++ entP L d (i + 1)) := by
        refine ⟨?_, ?_⟩
        · rw [sizeP_app (a ++ [(i, 9)])]; omega
        · rw [sizeP_app (a ++ [(i, 9)] ++ [(L.getD i 0, 4)])]; omega
      rw [f1] at hm hk ⊢
      obtain ⟨t1, t1'⟩ := take_piece_cut hm hk ha
      simp only at t1 t1'
      rw [f2] at hm hk t1 t1' ⊢
      unfold readT
      by_cases hc1 : 8 * k < sizeP (a ++ [(i, (9 : Int))])
      · refine ⟨fun h => by omega, fun _ => ?_⟩
        rw [t1' hc1, if_pos (show ¬ ((40 : Nat) = 0) by decide)]
      rw [t1 (by omega)]
      simp only [ne_eq, not_true_eq_false, if_false]
      obtain ⟨t2, t2'⟩ := take_piece_cut hm hk (by omega)
      simp only at t2 t2'
      by_cases hc2 : 8 * k < sizeP ((a ++ [(i, (9 : Int))]) ++ [(L.getD i 0, 4)])
      · refine ⟨fun h => by omega, fun _ => ?_⟩
        rw [t2' hc2, if_pos (show ¬ ((40 : Nat) = 0) by decide)]
      rw [t2 (by omega)]
      simp only [not_true_eq_false, if_false]
      rw [if_neg (show ¬ (289 ≤ i ∨ (i : Int) ≤ before ∨ L.getD i 0 = 0) by omega), padN_set hL (by omega)]
      rw [f3] at hm hk ⊢
      exact read_cut hL h15 d (i + 1) ((a ++ [(i, 9)]) ++ [(L.getD i 0, 4)]) b (i : Int) (by omega) (by omega) hm hk (by omega)
/-- what was squeezed and cut is too short -/
theorem expand_cut {l : List (Nat × Int × Int)} (hok : ∀ t ∈ l, okT t) (hl : l.length ≤ 4096) {most : Int} (hj : (joinW most l []).2 = 0) {k : Nat} (hk : k < (bytesB (bitsP (piecesT l))).length) : expandP ((bytesB (bitsP (piecesT l))).take k) most = ([], 40) := by
  obtain ⟨hr, hL, hpos⟩ := lenT_right hok hl
  have hm := piecesT_may hok hl
  have hp : ∀ t ∈ l, 0 < (lenT l).getD (symT t) 0 := fun t ht => by
    have h1 := symT_lt (hok t ht)
    rw [hpos _ (by omega), freqT_getD, if_neg (by omega)]
    exact cntQ_pos l (zerN 289) (zerN_len _) hok t ht
  have h288 : 0 < (lenT l).getD 288 0 := by rw [hpos 288 (by omega), freqT_getD, if_pos rfl]; decide
  have hsz := size_pack hm
  have hcut : 8 * k < sizeP (piecesT l) := by omega
  have hkl : ((bytesB (bitsP (piecesT l))).take k).length = k := take_len (by omega)
  unfold expandP
  rw [hkl]
  generalize hLe : lenT l = L at *
  have f0 : piecesT l = [] ++ (entN L 289 0, 9) :: (entP L 289 0 ++ (l.flatMap (tokP L) ++ [pieceW L 288])) := by unfold piecesT; rw [hLe]; rfl
  have f1 : [] ++ (entN L 289 0, (9 : Int)) :: (entP L 289 0 ++ (l.flatMap (tokP L) ++ [pieceW L 288])) = [(entN L 289 0, 9)] ++ (entP L 289 0 ++ (l.flatMap (tokP L) ++ [pieceW L 288])) := by simp
  have f2 : [(entN L 289 0, (9 : Int))] ++ (entP L 289 0 ++ (l.flatMap (tokP L) ++ [pieceW L 288])) = ([(entN L 289 0, 9)] ++ entP L 289 0) ++ (l.flatMap (tokP L) ++ [pieceW L 288]) := by simp
  have hk' : k ≤ (bytesB (bitsP (piecesT l))).length := by omega
  clear hk hkl hsz
  rw [f0] at hm hcut hk' ⊢
  have ez : sizeP ([] : List (Nat × Int)) = 0 := rfl
  obtain ⟨t1, t1'⟩ := take_piece_cut hm hk' (by rw [ez]; omega)
  rw [ez, List.nil_append] at t1 t1'
  rw [f1] at hm t1 t1' hcut hk' ⊢
  simp only at t1 t1'
  by_cases hc1 : 8 * k < sizeP [(entN L 289 0, (9 : Int))]
  · rw [t1' hc1, if_pos (show ¬ ((40 : Nat) = 0) by decide)]
  rw [t1 (by omega)]
  simp only [ne_eq, not_true_eq_false, if_false]
  rw [if_neg (by have := entN_le L 289 0; omega)]
  obtain ⟨t2, t2'⟩ := read_cut hL hr.1 289 0 [(entN L 289 0, 9)] (l.flatMap (tokP L) ++ [pieceW L 288]) (-1) (by omega) (by omega) hm hk' (by omega)
  rw [show padN 289 L 0 = zerN 289 from rfl] at t2 t2'
  by_cases hc2 : 8 * k < sizeP ([(entN L 289 0, (9 : Int))] ++ entP L 289 0)
  · rw [t2' hc2, if_pos (show ¬ ((40 : Nat) = 0) by decide)]
  rw [t2 (by omega)]
  simp only [not_true_eq_false, if_false]
  rw [if_neg (fun hn => hn ⟨hr, by omega⟩)]
  rw [f2] at hm hcut hk' ⊢
  exact exp_cut hr hL l _ [] (8 * k + 1) hok hp h288 hm (by omega) hk' (by omega) hcut hj
end Go.Proofs.Ytpjihjbgihionaa
namespace Go.Proofs.Ytpjihjbgihionaa
set_option linter.unusedVariables false

theorem numB_more (x : List Nat) {s : List Nat} {p w : Nat} (h : p + w ≤ 8 * s.length) : numB (s ++ x) p w = numB s p w := by
  have := numB_take (s := s ++ x) (k := s.length) h
  rw [List.take_left] at this
  exact this.symm
/-- a piece of a number, with more behind -/
theorem take_piece_more (x : List Nat) {a b : List (Nat × Int)} {p : Nat × Int} (h : ∀ q ∈ a ++ p :: b, mayP q) : takeP (bytesB (bitsP (a ++ p :: b)) ++ x) (sizeP a) p.2 = (p.1, 0, sizeP (a ++ [p])) := by
  have hp : mayP p := h p (by simp)
  have hs := size_pack h
  have e : sizeP (a ++ p :: b) = sizeP a + (p.2.toNat + sizeP b) := by rw [sizeP_app]; congr 1; simp [sizeP, hp]
  have h1 := hp.1
  have h2 := hp.2.1
  unfold takeP
  rw [if_neg (show ¬ (p.2 < 0 ∨ 24 < p.2) by omega), if_neg (by rw [List.length_append]; omega), numB_more x (by omega), take_pack h, sizeP_one hp]
theorem told_piece_more (x : List Nat) {L : List Nat} {a b : List (Nat × Int)} {i : Nat} (hr : rightW L) (hi : i < L.length) (h0 : 0 < L.getD i 0) (h : ∀ q ∈ a ++ pieceW L i :: b, mayP q) :
    toldW L (bytesB (bitsP (a ++ pieceW L i :: b)) ++ x) (sizeP a) 15 1 = (i, 0, sizeP (a ++ [pieceW L i])) := by
  have hp : mayP (pieceW L i) := h _ (by simp)
  have hs := size_pack h
  have e : sizeP (a ++ pieceW L i :: b) = sizeP a + ((pieceW L i).2.toNat + sizeP b) := by rw [sizeP_app]; congr 1; simp [sizeP, hp]
  have e3 : (pieceW L i).2.toNat = L.getD i 0 := Int.toNat_natCast _
  have h15 := getD_le hr.1
  rw [sizeP_one hp, e3]
  refine toldW_word hi h0 h15 (rightW_le hr) ?_ ?_ 15 1 (by omega) (by omega) (by have := h15 i; omega)
  · rw [← e3, numB_more x (by omega)]; exact take_pack h
  · rw [List.length_append]; omega
theorem end_more {x : List Nat} (hx : 1 ≤ x.length) {l : List (Nat × Int)} (h : ∀ q ∈ l, mayP q) : endP (bytesB (bitsP l) ++ x) (sizeP l) = 42 := by
  have hs := size_pack h
  unfold endP
  rw [if_pos (by rw [List.length_append]; omega)]
/-- with more behind what was packed is too much, if it would be joined -/
theorem exp_more {x : List Nat} (hx : 1 ≤ x.length) {L : List Nat} {most : Int} (hr : rightW L) (hL : L.length = 289) : ∀ (l : List (Nat × Int × Int)) (a : List (Nat × Int)) (b : List Nat) (f : Nat),
    (∀ t ∈ l, okT t) → (∀ t ∈ l, 0 < L.getD (symT t) 0) → 0 < L.getD 288 0 → (∀ q ∈ a ++ (l.flatMap (tokP L) ++ [pieceW L 288]), mayP q) → l.length < f → (joinW most l b).2 = 0 →
    expF L (bytesB (bitsP (a ++ (l.flatMap (tokP L) ++ [pieceW L 288]))) ++ x) most f (sizeP a) b = ([], 42)
  | [], a, b, f, _, _, h288, hm, hf, hj => by
    obtain ⟨f, rfl⟩ : ∃ g, f = g + 1 := ⟨f - 1, by simp at hf; omega⟩
    have e : a ++ (([] : List (Nat × Int × Int)).flatMap (tokP L) ++ [pieceW L 288]) = a ++ pieceW L 288 :: [] := by simp
    rw [e] at hm ⊢
    have ht := told_piece_more x hr (by omega) h288 hm
    have he := end_more hx hm
    unfold expF
    rw [ht]
    simp only [ne_eq, not_true_eq_false, if_false, if_true]
    rw [if_pos (by rw [he]; decide), he]
  | t :: l, a, b, f, hok, hpos, h288, hm, hf, hj => by
    obtain ⟨f, rfl⟩ : ∃ g, f = g + 1 := ⟨f - 1, by simp at hf; omega⟩
    have hf' : l.length < f := by simp at hf; omega
    have hok' := fun u hu => hok u (List.mem_cons_of_mem t hu)
    have hpos' := fun u hu => hpos u (List.mem_cons_of_mem t hu)
    have h0 := hpos t (by simp)
    obtain ⟨c, n, k⟩ := t
    rcases hok _ (List.mem_cons_self ..) with ⟨h1, h2, h3⟩ | ⟨h1, h2, h3, h4, h5⟩
    · simp only at h1 h2 h3
      subst h1 h2
      have es : symT (c, 0, 0) = c := if_pos rfl
      have et : tokP L (c, 0, 0) = [pieceW L c] := if_pos rfl
      rw [es] at h0
      have e : a ++ (((c, (0 : Int), (0 : Int)) :: l).flatMap (tokP L) ++ [pieceW L 288]) = a ++ pieceW L c :: (l.flatMap (tokP L) ++ [pieceW L 288]) := by rw [List.flatMap_cons, et]; simp
      have e2 : a ++ pieceW L c :: (l.flatMap (tokP L) ++ [pieceW L 288]) = (a ++ [pieceW L c]) ++ (l.flatMap (tokP L) ++ [pieceW L 288]) := by simp
      rw [e] at hm ⊢
      have ht := told_piece_more x hr (by omega) h0 hm
      unfold expF
      rw [ht]
      simp only [ne_eq, not_true_eq_false, if_false]
      rw [if_neg (by omega), if_pos h3]
      unfold joinW at hj
      rw [if_pos rfl, if_neg (show ¬ ((0 : Int) ≠ 0) by omega)] at hj
      by_cases hmo : most < ((b.length + 1 : Nat) : Int)
      · rw [if_pos hmo] at hj; exact absurd hj (by decide)
      · rw [if_neg hmo] at hj ⊢
        rw [e2] at hm ⊢
        exact exp_more hx hr hL l (a ++ [pieceW L c]) (b ++ [c]) f hok' hpos' h288 hm hf' hj
    · simp only at h1 h2 h3 h4 h5
      have es : symT (c, n, k) = 253 + n.toNat := if_neg (by show ¬ n = 0; omega)
      have et : tokP L (c, n, k) = [pieceW L (253 + n.toNat), ((k - 1).toNat, 9)] := if_neg (by show ¬ n = 0; omega)
      rw [es] at h0
      have e : a ++ (((c, n, k) :: l).flatMap (tokP L) ++ [pieceW L 288]) = a ++ pieceW L (253 + n.toNat) :: (((k - 1).toNat, 9) :: (l.flatMap (tokP L) ++ [pieceW L 288])) := by rw [List.flatMap_cons, et]; simp
      have e2 : a ++ pieceW L (253 + n.toNat) :: (((k - 1).toNat, 9) :: (l.flatMap (tokP L) ++ [pieceW L 288])) = (a ++ [pieceW L (253 + n.toNat)]) ++ ((k - 1).toNat, 9) :: (l.flatMap (tokP L) ++ [pieceW L 288]) := by simp
      have e3 : (a ++ [pieceW L (253 + n.toNat)]) ++ ((k - 1).toNat, 9) :: (l.flatMap (tokP L) ++ [pieceW L 288]) = ((a ++ [pieceW L (253 + n.toNat)]) ++ [((k - 1).toNat, 9)]) ++ (l.flatMap (tokP L) ++ [pieceW L 288]) := by simp
      rw [e] at hm ⊢
      have ht := told_piece_more x hr (by omega) h0 hm
      rw [e2] at hm ht ⊢
      have hk := take_piece_more x hm
      simp only at hk
      unfold expF
      rw [ht]
      simp only [ne_eq, not_true_eq_false, if_false]
      rw [hk]
      simp only [not_true_eq_false, if_false]
      rw [if_neg (show ¬ (253 + n.toNat = 288) by omega), if_neg (show ¬ (253 + n.toNat < 256) by omega)]
      unfold joinW at hj
      rw [if_neg (show ¬ (n = 0) by omega), if_neg (show ¬ (n < 3 ∨ 34 < n ∨ k < 1 ∨ 512 < k ∨ c ≠ 0) by omega)] at hj
      rw [show 253 + n.toNat - 253 = n.toNat by omega]
      by_cases hb : (b.length : Int) < k
      · rw [if_pos hb] at hj; exact absurd hj (by decide)
      · rw [if_neg hb] at hj
        rw [if_neg (show ¬ (b.length < (k - 1).toNat + 1) by omega), show (k - 1).toNat + 1 = k.toNat by omega]
        by_cases hmo : most < ((b.length + n.toNat : Nat) : Int)
        · rw [if_pos hmo] at hj; exact absurd hj (by decide)
        · rw [if_neg hmo] at hj ⊢
          rw [e3] at hm ⊢
          exact exp_more hx hr hL l ((a ++ [pieceW L (253 + n.toNat)]) ++ [((k - 1).toNat, 9)]) _ f hok' hpos' h288 hm hf' hj
/-- .. and its table is read -/
theorem read_more (x : List Nat) {L : List Nat} (hL : L.length = 289) (h15 : ∀ d ∈ L, d ≤ 15) : ∀ (d i : Nat) (a b : List (Nat × Int)) (before : Int), i + d = 289 → before < (i : Int) → (∀ q ∈ a ++ (entP L d i ++ b), mayP q) →
    readT (bytesB (bitsP (a ++ (entP L d i ++ b))) ++ x) (entN L d i) before (sizeP a) (padN 289 L i) = (L, 0, sizeP (a ++ entP L d i))
  | 0, i, a, b, before, hi, hb, hm => by
    have e : i = 289 := by omega
    subst e
    show (padN 289 L 289, 0, sizeP a) = _
    rw [padN_all hL]
    simp [entP]
  | d + 1, i, a, b, before, hi, hb, hm => by
    by_cases h0 : L.getD i 0 = 0
    · have e1 : entP L (d + 1) i = entP L d (i + 1) := if_pos h0
      have e2 : entN L (d + 1) i = entN L d (i + 1) := if_pos h0
      rw [e1] at hm ⊢
      rw [e2, padN_skip hL (by omega) h0]
      exact read_more x hL h15 d (i + 1) a b before (by omega) (by omega) hm
    · have e1 : entP L (d + 1) i = (i, 9) :: (L.getD i 0, 4) :: entP L d (i + 1) := if_neg h0
      have e2 : entN L (d + 1) i = entN L d (i + 1) + 1 := if_neg h0
      rw [e1] at hm ⊢
      rw [e2]
      have f1 : a ++ (((i, 9) :: (L.getD i 0, 4) :: entP L d (i + 1)) ++ b) = a ++ (i, 9) :: ((L.getD i 0, 4) :: (entP L d (i + 1) ++ b)) := by simp
      have f2 : a ++ (i, 9) :: ((L.getD i 0, 4) :: (entP L d (i + 1) ++ b)) = (a ++ [(i, 9)]) ++ (L.getD i 0, 4) :: (entP L d (i + 1) ++ b) := by simp
      have f3 : (a ++ [(i, 9)]) ++ (L.getD i 0, 4) :: (entP L d (i + 1) ++ b) = ((a ++ [(i, 9)]) ++ [(L.getD i 0, 4)]) ++ (entP L d (i + 1) ++ b) := by simp
      rw [f1] at hm ⊢
      have t1 := take_piece_more x hm
      rw [f2] at hm t1 ⊢
      have t2 := take_piece_more x hm
      simp only at t1 t2
      unfold readT
      rw [t1]
      simp only [ne_eq, not_true_eq_false, if_false]
      rw [t2]
      simp only [not_true_eq_false, if_false]
      rw [if_neg (show ¬ (289 ≤ i ∨ (i : Int) ≤ before ∨ L.getD i 0 = 0) by omega), padN_set hL (by omega)]
      rw [f3] at hm ⊢
      rw [read_more x hL h15 d (i + 1) ((a ++ [(i, 9)]) ++ [(L.getD i 0, 4)]) b (i : Int) (by omega) (by omega) hm]
      simp
/-- what was squeezed, with more behind, is too much -/
theorem expand_more {x : List Nat} (hx : 1 ≤ x.length) {l : List (Nat × Int × Int)} (hok : ∀ t ∈ l, okT t) (hl : l.length ≤ 4096) {most : Int} (hj : (joinW most l []).2 = 0) : expandP (bytesB (bitsP (piecesT l)) ++ x) most = ([], 42) := by
  obtain ⟨hr, hL, hpos⟩ := lenT_right hok hl
  have hm := piecesT_may hok hl
  have hp : ∀ t ∈ l, 0 < (lenT l).getD (symT t) 0 := fun t ht => by
    have h1 := symT_lt (hok t ht)
    rw [hpos _ (by omega), freqT_getD, if_neg (by omega)]
    exact cntQ_pos l (zerN 289) (zerN_len _) hok t ht
  have h288 : 0 < (lenT l).getD 288 0 := by rw [hpos 288 (by omega), freqT_getD, if_pos rfl]; decide
  have hsz := size_pack hm
  have hfuel : l.length ≤ 8 * (bytesB (bitsP (piecesT l))).length := by
    have h1 := tokP_len hp hr.1
    have h2 : sizeP (l.flatMap (tokP (lenT l))) ≤ sizeP (piecesT l) := by
      unfold piecesT
      rw [show (entN (lenT l) 289 0, (9 : Int)) :: (entP (lenT l) 289 0 ++ (l.flatMap (tokP (lenT l)) ++ [pieceW (lenT l) 288])) = ((entN (lenT l) 289 0, (9 : Int)) :: entP (lenT l) 289 0) ++ (l.flatMap (tokP (lenT l)) ++ [pieceW (lenT l) 288]) by simp, sizeP_app, sizeP_app]
      omega
    rw [hsz]
    omega
  unfold expandP
  generalize hLe : lenT l = L at *
  have f0 : piecesT l = [] ++ (entN L 289 0, 9) :: (entP L 289 0 ++ (l.flatMap (tokP L) ++ [pieceW L 288])) := by unfold piecesT; rw [hLe]; rfl
  have f1 : [] ++ (entN L 289 0, (9 : Int)) :: (entP L 289 0 ++ (l.flatMap (tokP L) ++ [pieceW L 288])) = [(entN L 289 0, 9)] ++ (entP L 289 0 ++ (l.flatMap (tokP L) ++ [pieceW L 288])) := by simp
  have f2 : [(entN L 289 0, (9 : Int))] ++ (entP L 289 0 ++ (l.flatMap (tokP L) ++ [pieceW L 288])) = ([(entN L 289 0, 9)] ++ entP L 289 0) ++ (l.flatMap (tokP L) ++ [pieceW L 288]) := by simp
  rw [f0] at hm hfuel ⊢
  have t1 := take_piece_more x hm
  have ez : sizeP ([] : List (Nat × Int)) = 0 := rfl
  rw [ez] at t1
  rw [f1] at hm t1 hfuel ⊢
  have t2 := read_more x hL hr.1 289 0 [(entN L 289 0, 9)] (l.flatMap (tokP L) ++ [pieceW L 288]) (-1) (by omega) (by omega) hm
  rw [show padN 289 L 0 = zerN 289 from rfl] at t2
  rw [f2] at hm t1 t2 hfuel ⊢
  have t3 := exp_more (most := most) hx hr hL l ([(entN L 289 0, 9)] ++ entP L 289 0) [] (8 * (bytesB (bitsP (([(entN L 289 0, 9)] ++ entP L 289 0) ++ (l.flatMap (tokP L) ++ [pieceW L 288]))) ++ x).length + 1) hok hp h288 hm (by rw [List.length_append]; omega) hj
  generalize bytesB (bitsP (([(entN L 289 0, 9)] ++ entP L 289 0) ++ (l.flatMap (tokP L) ++ [pieceW L 288]))) ++ x = s at *
  simp only at t1
  rw [t1]
  simp only [ne_eq, not_true_eq_false, if_false, List.nil_append]
  rw [if_neg (by have := entN_le L 289 0; omega), t2]
  simp only [not_true_eq_false, if_false]
  rw [if_neg (fun hn => hn ⟨hr, by omega⟩)]
  exact t3
end Go.Proofs.Ytpjihjbgihionaa
namespace Go.Proofs.Ytpjihjbgihionaa
set_option linter.unusedVariables false

/-! ### a run has few tokens -/
theorem run_at (c n j : Nat) (h : j < n) : (List.replicate n c).getD j 0 = c := by simp [h]
theorem run_match {c n p : Nat} (h1 : 1 ≤ p) (h3 : p + 3 ≤ n) : (matchW (List.replicate n c) p).1 = min 34 (n - p) := by
  have hl : (List.replicate n c).length = n := List.length_replicate
  have hge := matchW_ge (s := List.replicate n c) (p := p) (j := 1) (m := min 34 (n - p)) (by omega) (Nat.le_refl _) (by omega) h1 (by omega) (by omega) (by omega) (fun i hi => by rw [run_at c n _ (by omega), run_at c n _ (by omega)])
  obtain ⟨_, q2, _, _, _, q6, _⟩ := matchW_is (s := List.replicate n c) (p := p) (by omega)
  omega
theorem run_toks (c n : Nat) : ∀ f p, 1 ≤ p → (splitW (List.replicate n c) f p).length ≤ (n - p) / 34 + 2
  | 0, p, _ => Nat.zero_le _
  | f + 1, p, hp => by
    have hl : (List.replicate n c).length = n := List.length_replicate
    rcases Nat.lt_or_ge (n - p) 3 with h | h
    · have := splitW_len (List.replicate n c) (f + 1) p
      omega
    · have hm := run_match (c := c) hp (show p + 3 ≤ n by omega)
      unfold splitW
      rw [if_neg (by omega), if_neg (by omega), List.length_cons, hm]
      rcases Nat.lt_or_ge (n - p) 34 with h2 | h2
      · have := splitW_len (List.replicate n c) f (p + min 34 (n - p))
        omega
      · have ih := run_toks c n f (p + min 34 (n - p)) (by omega)
        rw [show n - (p + min 34 (n - p)) = n - p - 34 by omega] at ih
        omega
theorem run_few (c n f : Nat) : (splitW (List.replicate n c) f 0).length ≤ n / 34 + 3 := by
  match f with
  | 0 => exact Nat.zero_le _
  | f + 1 =>
    unfold splitW
    have h0 : (matchW (List.replicate n c) 0).1 = 0 := by
      unfold matchW
      split
      · rfl
      · rw [show min 512 0 = 0 from rfl]
        rfl
    split
    · exact Nat.zero_le _
    · first | rw [if_pos h0, List.length_cons] | rw [List.length_cons]
      have := run_toks c n f (0 + 1) (by omega)
      have : (n - (0 + 1)) / 34 ≤ n / 34 := Nat.div_le_div_right (by omega)
      omega
/-! ### few tokens are few bits -/
/-- how many are not 0 -/
def nzN (l : List Nat) : Nat := (l.filter fun d => decide (0 < d)).length
theorem nz_set : ∀ (l : List Nat) (k x : Nat), nzN (l.set k x) ≤ nzN l + 1
  | [], k, x => by simp [nzN]
  | a :: l, 0, x => by
    show nzN (x :: l) ≤ nzN (a :: l) + 1
    unfold nzN
    rw [List.filter_cons, List.filter_cons]
    split <;> split <;> (try simp only [List.length_cons]) <;> omega
  | a :: l, k + 1, x => by
    have ih := nz_set l k x
    show nzN (a :: l.set k x) ≤ nzN (a :: l) + 1
    unfold nzN at ih ⊢
    rw [List.filter_cons, List.filter_cons]
    split <;> (try simp only [List.length_cons]) <;> omega
theorem nz_zer (m : Nat) : nzN (zerN m) = 0 := by
  unfold nzN zerN
  rw [List.filter_replicate]
  simp
theorem nz_cnt : ∀ (l : List (Nat × Int × Int)) (F : List Nat), nzN (cntQ l F) ≤ nzN F + l.length
  | [], F => Nat.le_refl _
  | t :: l, F => by
    have h1 := nz_cnt l (incF F (symT t))
    have h2 := nz_set F (symT t) (F.getD (symT t) 0 + 1)
    show nzN (cntQ l (incF F (symT t))) ≤ _
    rw [List.length_cons]
    unfold incF at h1 ⊢
    omega
theorem nz_freq (l : List (Nat × Int × Int)) : nzN (freqT l) ≤ l.length + 1 := by
  have h1 := nz_cnt l (zerN 289)
  rw [nz_zer] at h1
  have h2 := nz_set (cntQ l (zerN 289)) 288 1
  unfold freqT
  omega
/-- how many from i on have a word, by what else says so -/
theorem ent_drop (L F : List Nat) (hF : ∀ i, i < 289 → (0 < L.getD i 0 ↔ 0 < F.getD i 0)) (hl : F.length = 289) : ∀ d i, i + d = 289 → entN L d i = nzN (F.drop i)
  | 0, i, h => by
    have : F.drop i = [] := List.drop_eq_nil_of_le (by omega)
    rw [this]
    rfl
  | d + 1, i, h => by
    have ih := ent_drop L F hF hl d (i + 1) (by omega)
    have hi : i < F.length := by omega
    have hd : F.drop i = F.getD i 0 :: F.drop (i + 1) := by
      rw [List.drop_eq_getElem_cons hi, List.getD_eq_getElem?_getD, List.getElem?_eq_getElem hi]
      rfl
    unfold entN
    rw [hd, ih]
    unfold nzN
    have hf := hF i (by omega)
    rw [List.filter_cons]
    by_cases h0 : L.getD i 0 = 0
    · have h1 : ¬ 0 < F.getD i 0 := fun h => by have := hf.2 h; omega
      rw [if_pos h0, if_neg (by rw [decide_eq_false h1]; decide)]
    · rw [if_neg h0, if_pos (decide_eq_true (hf.1 (Nat.pos_of_ne_zero h0)))]
      rfl
theorem sizeP_cons {p : Nat × Int} (h : mayP p) (l : List (Nat × Int)) : sizeP (p :: l) = p.2.toNat + sizeP l := by simp [sizeP, h]
theorem ent_size {L : List Nat} (h15 : ∀ d ∈ L, d ≤ 15) : ∀ d i, i + d ≤ 289 → sizeP (entP L d i) = 13 * entN L d i
  | 0, _, _ => rfl
  | d + 1, i, hi => by
    have ih := ent_size h15 d (i + 1) (by omega)
    unfold entP entN
    split
    · exact ih
    · have := getD_le h15 i
      rw [sizeP_cons ⟨by simp, by simp, show i < 2 ^ 9 by omega⟩, sizeP_cons ⟨by simp, by simp, show L.getD i 0 < 2 ^ 4 by omega⟩, ih]
      show 9 + (4 + 13 * entN L d (i + 1)) = _
      omega
theorem piece_size {L : List Nat} (h15 : ∀ d ∈ L, d ≤ 15) (i : Nat) : sizeP [pieceW L i] ≤ 15 := by
  have h := getD_le h15 i
  rw [sizeP_cons (pieceW_may h15 i)]
  show ((L.getD i 0 : Nat) : Int).toNat + 0 ≤ 15
  omega
theorem toks_size {L : List Nat} (h15 : ∀ d ∈ L, d ≤ 15) : ∀ l : List (Nat × Int × Int), (∀ t ∈ l, okT t) → sizeP (l.flatMap (tokP L)) ≤ 24 * l.length
  | [], _ => Nat.le_refl _
  | t :: l, hok => by
    have ih := toks_size h15 l (fun u hu => hok u (by simp [hu]))
    rw [List.flatMap_cons, sizeP_app, List.length_cons]
    have : sizeP (tokP L t) ≤ 24 := by
      have h9 := hok t (by simp)
      unfold tokP
      split
      · have := piece_size h15 t.1
        omega
      · rename_i h0
        have h1 := piece_size h15 (253 + t.2.1.toNat)
        rw [show [pieceW L (253 + t.2.1.toNat), ((t.2.2 - 1).toNat, (9 : Int))] = [pieceW L (253 + t.2.1.toNat)] ++ [((t.2.2 - 1).toNat, (9 : Int))] from rfl, sizeP_app]
        have hm : mayP ((t.2.2 - 1).toNat, (9 : Int)) := by
          refine ⟨by simp, by simp, ?_⟩
          show (t.2.2 - 1).toNat < 2 ^ 9
          rcases h9 with ⟨q1, _⟩ | ⟨_, _, _, q4, q5⟩
          · exact absurd q1 h0
          · omega
        have h2 : sizeP [((t.2.2 - 1).toNat, (9 : Int))] = 9 := by rw [sizeP_cons hm]; rfl
        omega
    omega
/-- T tokens take at most 37 T + 37 bits -/
theorem pieces_size {l : List (Nat × Int × Int)} (hok : ∀ t ∈ l, okT t) (hl : l.length ≤ 4096) : sizeP (piecesT l) ≤ 37 * l.length + 37 := by
  obtain ⟨hr, hL, hpos⟩ := lenT_right hok hl
  have he := ent_drop (lenT l) (freqT l) hpos (freqT_len l) 289 0 rfl
  rw [List.drop_zero] at he
  have hn := nz_freq l
  have hs := ent_size hr.1 289 0 (by omega)
  have ht := toks_size hr.1 l hok
  have h288 := piece_size hr.1 288
  have h1 : mayP (entN (lenT l) 289 0, (9 : Int)) := by
    have := entN_le (lenT l) 289 0
    exact ⟨by simp, by simp, show entN (lenT l) 289 0 < 2 ^ 9 by omega⟩
  unfold piecesT
  rw [sizeP_cons h1, sizeP_app, sizeP_app, hs]
  show 9 + _ ≤ _
  omega
theorem pieces_bytes {l : List (Nat × Int × Int)} (hok : ∀ t ∈ l, okT t) (hl : l.length ≤ 4096) : (bytesB (bitsP (piecesT l))).length ≤ (37 * l.length + 44) / 8 := by
  have h1 := pieces_size hok hl
  have hm := piecesT_may hok hl
  rw [size_pack hm]
  exact Nat.div_le_div_right (by omega)
/-- a run is squeezed to fewer bytes -/
theorem run_short {c n : Nat} (hc : c < 256) (h1 : 100 ≤ n) (h2 : n ≤ 4096) : (bytesB (bitsP (piecesT (splitW (List.replicate n c) n 0)))).length < n := by
  have hok : ∀ t ∈ splitW (List.replicate n c) n 0, okT t := fun t ht => splitW_tok (Bys.of fun x hx => by rw [(List.mem_replicate.1 hx).2]; exact hc) n 0 t ht
  have hf := run_few c n n
  have hb := pieces_bytes hok (by omega)
  omega
/-! ### how often symbols come -/
/-- a token that may not be counts nothing -/
def cntA : List (Nat × Int × Int) → List Nat → List Nat
  | [], F => F
  | t :: l, F => cntA l (if t.2.1 = 0 then incF F t.1 else if 3 ≤ t.2.1 ∧ t.2.1 ≤ 34 then incF F (253 + t.2.1.toNat) else F)
def freqA (l : List (Nat × Int × Int)) : List Nat := (cntA l (zerN 289)).set 288 1
theorem cntA_len : ∀ (l : List (Nat × Int × Int)) (F : List Nat), (cntA l F).length = F.length
  | [], _ => rfl
  | t :: l, F => by
    unfold cntA
    rw [cntA_len l]
    split
    · exact incF_len _ _
    · split
      · exact incF_len _ _
      · rfl
theorem cntA_ok : ∀ (l : List (Nat × Int × Int)) (F : List Nat), (∀ t ∈ l, okT t) → cntA l F = cntQ l F
  | [], _, _ => rfl
  | t :: l, F, hok => by
    have h := hok t (by simp)
    unfold cntA
    rw [cntA_ok l _ (fun u hu => hok u (by simp [hu]))]
    show _ = cntQ l (incF F (symT t))
    unfold symT
    rcases h with ⟨h1, _⟩ | ⟨_, h1, h2, _⟩
    · rw [if_pos h1, if_pos h1]
    · have h0 : ¬ t.2.1 = 0 := by omega
      rw [if_neg h0, if_pos (show 3 ≤ t.2.1 ∧ t.2.1 ≤ 34 from ⟨h1, h2⟩), if_neg h0]
theorem freqA_ok {l : List (Nat × Int × Int)} (hok : ∀ t ∈ l, okT t) : freqA l = freqT l := by
  unfold freqA freqT
  rw [cntA_ok l _ hok]
theorem freqA_len (l : List (Nat × Int × Int)) : (freqA l).length = 289 := by
  unfold freqA
  rw [List.length_set, cntA_len, zerN_len]
theorem sum_set : ∀ (l : List Nat) (k x : Nat), k < l.length → (l.set k x).sum + l.getD k 0 = l.sum + x
  | [], _, _, h => by simp at h
  | a :: l, 0, x, _ => by
    show (x :: l).sum + a = (a :: l).sum + x
    simp only [List.sum_cons]
    omega
  | a :: l, k + 1, x, h => by
    have ih := sum_set l k x (by simpa using h)
    show (a :: l.set k x).sum + (a :: l).getD (k + 1) 0 = _
    have e : (a :: l).getD (k + 1) 0 = l.getD k 0 := rfl
    rw [e]
    simp only [List.sum_cons]
    omega
theorem sum_zer (m : Nat) : (zerN m).sum = 0 := by unfold zerN; simp
theorem cnt_sum : ∀ (l : List (Nat × Int × Int)) (F : List Nat), F.length = 289 → (∀ t ∈ l, okT t) → (cntQ l F).sum = F.sum + l.length
  | [], F, _, _ => rfl
  | t :: l, F, hF, hok => by
    have hl := symT_lt (hok t (by simp))
    have ih := cnt_sum l (incF F (symT t)) (by rw [incF_len]; exact hF) (fun u hu => hok u (by simp [hu]))
    have hs := sum_set F (symT t) (F.getD (symT t) 0 + 1) (by omega)
    show (cntQ l (incF F (symT t))).sum = _
    rw [ih, List.length_cons]
    unfold incF
    omega
/-- symbols of a text's tokens are as many as tokens, and the end -/
theorem freq_sum {l : List (Nat × Int × Int)} (hok : ∀ t ∈ l, okT t) : (freqT l).sum = l.length + 1 := by
  have h1 := cnt_sum l (zerN 289) (zerN_len _) hok
  have h2 := cntQ_over l (zerN 289) (zerN_len _) hok
  have h3 := sum_set (cntQ l (zerN 289)) 288 1 (by rw [cntQ_len, zerN_len]; omega)
  rw [zerN_at] at h2
  rw [sum_zer] at h1
  unfold freqT
  omega
end Go.Proofs.Ytpjihjbgihionaa
