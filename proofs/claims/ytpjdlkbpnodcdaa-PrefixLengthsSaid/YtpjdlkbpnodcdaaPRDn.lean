/- The reference's depths, by lists: the depths so far, and how deep each tree will stand. -/
import Derived.Test.YtpjdlkbpnodcdaaPRTk
namespace Go.Proofs.Ytpjdlkbpnodcdaa
open Go.RowKit
set_option linter.unusedVariables false

/-- one more for each of the symbols -/
def bumpL (out : List Nat) (sy : List Nat) : List Nat := sy.foldl (fun L s => L.set s (L.getD s 0 + 1)) out
theorem bumpL_len (sy : List Nat) : ∀ out, (bumpL out sy).length = out.length := by
  induction sy with
  | nil => intro out; rfl
  | cons s sy ih => intro out; show (bumpL (out.set s (out.getD s 0 + 1)) sy).length = _; rw [ih, List.length_set]
theorem bumpL_snoc (out sy : List Nat) (s : Nat) : bumpL out (sy ++ [s]) = (bumpL out sy).set s ((bumpL out sy).getD s 0 + 1) := by
  unfold bumpL
  rw [List.foldl_append]
  rfl
theorem bumpL_getD (j : Nat) : ∀ (sy out : List Nat), sy.Nodup → (∀ s ∈ sy, s < out.length) → (bumpL out sy).getD j 0 = out.getD j 0 + if j ∈ sy then 1 else 0
  | [], out, _, _ => rfl
  | s :: sy, out, hn, hl => by
    have h1 := List.nodup_cons.1 hn
    have hs := hl s (by simp)
    show (bumpL (out.set s (out.getD s 0 + 1)) sy).getD j 0 = _
    rw [bumpL_getD j sy _ h1.2 (fun x hx => by rw [List.length_set]; exact hl x (by simp [hx])), getD_set _ _ _ _ hs]
    by_cases e : s = j
    · subst e
      rw [if_pos rfl, if_neg h1.1, if_pos (by simp)]
    · rw [if_neg e]
      by_cases hj : j ∈ sy
      · rw [if_pos hj, if_pos (by simp [hj])]
      · rw [if_neg hj, if_neg (by simp [hj]; exact fun h => e h.symm)]
/-- trees in order, whose symbols' depths will be D -/
structure RS (D : Nat → Nat) (U : List Nat) (n f c : Nat) (T : List RT) (out : List Nat) : Prop where
  ok : OkT c (T.map RT.key)
  fu : T.length ≤ f + 1
  deep : ∀ t ∈ T, ∀ s ∈ t.syms, out.getD s 0 + deepT f c (T.map RT.key) t.tag = D s
  perm : (T.flatMap RT.syms).Perm U
  nd : U.Nodup
  lt : ∀ s ∈ U, s < n
  len : out.length = n
  no : ∀ s, s ∉ U → out.getD s 0 = 0
theorem map_eraseIdx' (T : List RT) (i : Nat) : (T.eraseIdx i).map RT.key = (T.map RT.key).eraseIdx i := by
  induction T generalizing i with
  | nil => rfl
  | cons t T ih =>
    match i with
    | 0 => rfl
    | i + 1 => show t.key :: (T.eraseIdx i).map RT.key = t.key :: (T.map RT.key).eraseIdx i; rw [ih]
theorem erase_perm {T : List RT} : ∀ {i : Nat} {t : RT}, T[i]? = some t → T.Perm (t :: T.eraseIdx i) := by
  induction T with
  | nil => intro i t h; simp at h
  | cons u T ih =>
    intro i t h
    match i, h with
    | 0, h => cases h; exact List.Perm.refl _
    | i + 1, h => exact ((ih (i := i) (t := t) h).cons u).trans (List.Perm.swap t u _)
theorem key_at {T : List RT} {i : Nat} {t : RT} (h : T[i]? = some t) : (T.map RT.key).getD i (0, 0) = t.key := by
  rw [List.getD_eq_getElem?_getD, List.getElem?_map, h]
  rfl
/-- the two that go -/
theorem RS.pick {D : Nat → Nat} {U : List Nat} {n f c : Nat} {T : List RT} {out : List Nat} (h : RS D U n f c T out) (h2 : 2 ≤ T.length) :
    ∃ a b, T[lgt (T.map RT.key) T.length]? = some a ∧ (T.eraseIdx (lgt (T.map RT.key) T.length))[lgt ((T.eraseIdx (lgt (T.map RT.key) T.length)).map RT.key) (T.eraseIdx (lgt (T.map RT.key) T.length)).length]? = some b ∧
      pickA (T.map RT.key) = a.key ∧ (T.map RT.key).erase a.key = (T.eraseIdx (lgt (T.map RT.key) T.length)).map RT.key ∧ pickB (T.map RT.key) = b.key ∧
      pickM (T.map RT.key) = ((T.eraseIdx (lgt (T.map RT.key) T.length)).eraseIdx (lgt ((T.eraseIdx (lgt (T.map RT.key) T.length)).map RT.key) (T.eraseIdx (lgt (T.map RT.key) T.length)).length)).map RT.key := by
  have hl : (T.map RT.key).length = T.length := List.length_map _
  have hi := lgt_lt (l := T.map RT.key) (by omega)
  have ha := lgt_all (l := T.map RT.key) (by omega)
  rw [hl] at hi ha
  obtain ⟨a, hat⟩ : ∃ a, T[lgt (T.map RT.key) T.length]? = some a := ⟨_, List.getElem?_eq_getElem hi⟩
  generalize hgi : lgt (T.map RT.key) T.length = i at *
  have hA : pickA (T.map RT.key) = a.key := by unfold pickA; rw [← ha, key_at hat]
  have hE : (T.map RT.key).erase a.key = (T.eraseIdx i).map RT.key := by
    rw [map_eraseIdx', ← key_at hat]
    exact erase_idx h.ok.nodup (by omega)
  have hl1 : (T.eraseIdx i).length = T.length - 1 := by rw [List.length_eraseIdx, if_pos hi]
  have hl2 : ((T.eraseIdx i).map RT.key).length = (T.eraseIdx i).length := List.length_map _
  have hj := lgt_lt (l := (T.eraseIdx i).map RT.key) (by omega)
  have hb := lgt_all (l := (T.eraseIdx i).map RT.key) (by omega)
  rw [hl2] at hj hb
  obtain ⟨b, hbt⟩ : ∃ b, (T.eraseIdx i)[lgt ((T.eraseIdx i).map RT.key) (T.eraseIdx i).length]? = some b := ⟨_, List.getElem?_eq_getElem hj⟩
  have hB : pickB (T.map RT.key) = b.key := by
    unfold pickB
    rw [show light (T.map RT.key) = a.key from hA, hE, ← hb, key_at hbt]
  refine ⟨a, b, hat, hbt, hA, hE, hB, ?_⟩
  unfold pickM
  rw [hA, hB, hE, map_eraseIdx' (T.eraseIdx i), ← key_at hbt]
  exact erase_idx (by rw [← hE]; exact (h.ok.erase _).nodup) (by omega)
theorem RS.step {D : Nat → Nat} {U : List Nat} {n f c : Nat} {T T2 : List RT} {out : List Nat} {a b : RT} {i j g cap : Nat} (h : RS D U n (f + 1) c T out) (h2 : 2 ≤ T.length) (ha : T[i]? = some a) (hb : (T.eraseIdx i)[j]? = some b) (hT2 : (T.eraseIdx i).eraseIdx j = T2)
    (hA : pickA (T.map RT.key) = a.key) (hB : pickB (T.map RT.key) = b.key) (hM : pickM (T.map RT.key) = T2.map RT.key) :
    RS D U n f (c + 1) (T2 ++ [⟨a.wt + b.wt, c, a.syms ++ b.syms, g, cap⟩]) (bumpL out (a.syms ++ b.syms)) ∧ (a.syms ++ b.syms).Nodup ∧ (∀ s ∈ a.syms ++ b.syms, s < n) := by
  obtain ⟨ok, fu, deep, perm, nd, lt, len, no⟩ := h
  have p1 : T.Perm (a :: b :: T2) := by
    have q1 := erase_perm ha
    have q2 := erase_perm hb
    rw [hT2] at q2
    exact q1.trans (q2.cons a)
  have hlen2 := p1.length_eq
  have hkey : (T2 ++ [(⟨a.wt + b.wt, c, a.syms ++ b.syms, g, cap⟩ : RT)]).map RT.key = nextT c (T.map RT.key) := by
    unfold nextT both
    rw [List.map_append, hM, hA, hB]
    rfl
  have hp2 : ((a :: b :: T2).flatMap RT.syms).Perm U := (p1.symm.flatMap_right _).trans perm
  have hfl : (a :: b :: T2).flatMap RT.syms = (a.syms ++ b.syms) ++ T2.flatMap RT.syms := by simp
  rw [hfl] at hp2
  have hnd : ((a.syms ++ b.syms) ++ T2.flatMap RT.syms).Nodup := hp2.nodup_iff.2 nd
  have hn1 := List.nodup_append.1 hnd
  have hlt1 : ∀ s ∈ a.syms ++ b.syms, s < n := fun s hs => lt s (hp2.subset (List.mem_append_left _ hs))
  have hlk : 2 ≤ (T.map RT.key).length := by rw [List.length_map]; exact h2
  have bump := fun s => bumpL_getD s (a.syms ++ b.syms) out hn1.1 (fun s hs => by rw [len]; exact hlt1 s hs)
  refine ⟨⟨by rw [hkey]; exact nextT_ok ok, ?_, ?_, ?_, nd, lt, by rw [bumpL_len]; exact len, ?_⟩, hn1.1, hlt1⟩
  · rw [List.length_append, List.length_singleton]
    simp only [List.length_cons] at hlen2
    omega
  · intro t ht s hs
    rw [hkey, bump s]
    rcases List.mem_append.1 ht with ht | ht
    · have htT : t ∈ T := p1.symm.subset (by simp [ht])
      have hno : s ∉ a.syms ++ b.syms := fun hs' => (hn1.2.2 s hs' s (List.mem_flatMap.2 ⟨t, ht, hs⟩)) rfl
      rw [if_neg hno, Nat.add_zero, ← deep t htT s hs]
      have htk : t.key ∈ pickM (T.map RT.key) := by rw [hM]; exact List.mem_map_of_mem ht
      rw [show t.tag = t.key.2 from rfl, deepT_m ok hlk htk]
    · rw [List.mem_singleton.1 ht] at hs ⊢
      show out.getD s 0 + _ + deepT f (c + 1) (nextT c (T.map RT.key)) c = D s
      have hs' : s ∈ a.syms ++ b.syms := hs
      rw [if_pos hs']
      rcases List.mem_append.1 hs' with hsa | hsb
      · have := deep a (p1.symm.subset (by simp)) s hsa
        rw [show a.tag = (pickA (T.map RT.key)).2 by rw [hA]; rfl, deepT_a hlk] at this
        omega
      · have := deep b (p1.symm.subset (by simp)) s hsb
        rw [show b.tag = (pickB (T.map RT.key)).2 by rw [hB]; rfl, deepT_b hlk] at this
        omega
  · have : (T2 ++ [(⟨a.wt + b.wt, c, a.syms ++ b.syms, g, cap⟩ : RT)]).flatMap RT.syms = T2.flatMap RT.syms ++ (a.syms ++ b.syms) := by simp
    rw [this]
    exact List.perm_append_comm.trans hp2
  · intro s hs
    rw [bump s, no s hs, if_neg (fun h' => hs (hp2.subset (List.mem_append_left _ h')))]
/-- one tree is left, or none -/
theorem RS.done {fr : List Nat} {f c : Nat} {T : List RT} {out : List Nat} (h : RS (fun s => deepT fr.length fr.length (treesF fr) s) (symsF fr fr.length) fr.length f c T out) (h1 : T.length ≤ 1) (h2 : 2 ≤ (treesF fr).length) : out = depthsF fr := by
  refine getD_ext fr.length h.len (depthsF_len fr) fun s hs => ?_
  rw [depthsF_getD hs]
  unfold depF
  by_cases e : 0 < fr.getD s 0
  · rw [if_neg (by omega), if_neg (by omega)]
    have hm : s ∈ symsF fr fr.length := symsF_pos.2 ⟨hs, e⟩
    obtain ⟨t, ht, hst⟩ := List.mem_flatMap.1 (h.perm.symm.subset hm)
    have := h.deep t ht s hst
    rw [deepT_end (by rw [List.length_map]; exact h1)] at this
    exact this
  · rw [if_pos (by omega)]
    exact h.no s (fun hm => e (symsF_pos.1 hm).2)
end Go.Proofs.Ytpjdlkbpnodcdaa
