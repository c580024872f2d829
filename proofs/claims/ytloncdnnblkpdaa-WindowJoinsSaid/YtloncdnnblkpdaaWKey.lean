/- Places of three bytes: the last one ahead with the same; the best match by such places alone; the map that holds them. -/
import Derived.Test.YtloncdnnblkpdaaWNum
import Derived.Maps.OwnSet
namespace Go.Proofs.Ytloncdnnblkpdaa
open Go.RowKit
set_option linter.unusedVariables false

/-- three bytes from a place on -/
def keyW (L : List Nat) (i : Nat) : List Nat := (L.drop i).take 3
theorem keyW_len {L : List Nat} {i : Nat} (h : i + 3 ≤ L.length) : (keyW L i).length = 3 := by simp [keyW]; omega
theorem keyW_getD {L : List Nat} {i j : Nat} (h : j < 3) : (keyW L i).getD j 0 = L.getD (i + j) 0 := by
  unfold keyW
  rw [getD_take _ _ _ h, getD_drop]
theorem keyW_iff {L : List Nat} {i j : Nat} (hi : i + 3 ≤ L.length) (hj : j + 3 ≤ L.length) : keyW L i = keyW L j ↔ ∀ k, k < 3 → L.getD (i + k) 0 = L.getD (j + k) 0 := by
  constructor
  · intro h k hk
    rw [← keyW_getD hk, ← keyW_getD hk, h]
  · intro h
    refine getD_ext 3 (keyW_len hi) (keyW_len hj) fun k hk => ?_
    rw [keyW_getD hk, keyW_getD hk]
    exact h k hk
/-- the last place ahead of n with the bytes at i, or -1 -/
def lastW (L : List Nat) (i : Nat) : Nat → Int
  | 0 => -1
  | n + 1 => if keyW L n = keyW L i then (n : Int) else lastW L i n
theorem lastW_is (L : List Nat) (i : Nat) : ∀ n, (lastW L i n = -1 ∧ ∀ j, j < n → keyW L j ≠ keyW L i) ∨ (∃ m : Nat, m < n ∧ lastW L i n = (m : Int) ∧ keyW L m = keyW L i ∧ ∀ j, m < j → j < n → keyW L j ≠ keyW L i)
  | 0 => .inl ⟨rfl, fun j h => by omega⟩
  | n + 1 => by
    unfold lastW
    by_cases h : keyW L n = keyW L i
    · rw [if_pos h]
      exact .inr ⟨n, by omega, rfl, h, fun j h1 h2 => by omega⟩
    · rw [if_neg h]
      rcases lastW_is L i n with ⟨h1, h2⟩ | ⟨m, h1, h2, h3, h4⟩
      · refine .inl ⟨h1, fun j hj => ?_⟩
        rcases Nat.lt_or_ge j n with hh | hh
        · exact h2 j hh
        · obtain rfl : j = n := by omega
          exact h
      · refine .inr ⟨m, by omega, h2, h3, fun j hj hj2 => ?_⟩
        rcases Nat.lt_or_ge j n with hh | hh
        · exact h4 j hj hh
        · obtain rfl : j = n := by omega
          exact h
theorem lastW_lt (L : List Nat) (i n : Nat) : -1 ≤ lastW L i n ∧ lastW L i n < (n : Int) := by
  rcases lastW_is L i n with ⟨h, _⟩ | ⟨m, h1, h2, _⟩ <;> omega
theorem lastW_congr {L : List Nat} {i j : Nat} (h : keyW L i = keyW L j) : ∀ n, lastW L i n = lastW L j n
  | 0 => rfl
  | n + 1 => by unfold lastW; rw [h, lastW_congr h n]
theorem run_three {L : List Nat} {j p : Nat} (hp : p + 3 ≤ L.length) (hj : j ≤ p) : 3 ≤ runW L 34 j p ↔ keyW L j = keyW L p := by
  rw [keyW_iff (by omega) hp]
  constructor
  · intro h k hk
    exact runW_same L 34 j p k (by omega)
  · intro h
    exact runW_ge L 34 j p 3 (by omega) hp h
theorem run_stop {L : List Nat} {a b n : Nat} (h1 : n ≤ 34) (h2 : b + n ≤ L.length) (h3 : ∀ i, i < n → L.getD (a + i) 0 = L.getD (b + i) 0) (h4 : n = 34 ∨ L.length ≤ b + n ∨ L.getD (a + n) 0 ≠ L.getD (b + n) 0) : runW L 34 a b = n := by
  have q1 := runW_ge L 34 a b n h1 h2 h3
  have q2 := runW_le L 34 a b
  have q3 := runW_in L 34 a b (by omega)
  have q4 := runW_same L 34 a b
  rcases Nat.lt_or_ge n (runW L 34 a b) with h | h
  · exfalso
    rcases h4 with h4 | h4 | h4
    · omega
    · omega
    · exact h4 (q4 n h)
  · omega
/-- the best of the k nearest, of those alone that have three bytes -/
def best3 (s : List Nat) (p : Nat) : Nat → Nat × Nat
  | 0 => (0, 0)
  | k + 1 => if 3 ≤ runW s 34 (p - (k + 1)) p ∧ (best3 s p k).1 < runW s 34 (p - (k + 1)) p then (runW s 34 (p - (k + 1)) p, k + 1) else best3 s p k
theorem best3_best (s : List Nat) (p : Nat) : ∀ k, ((bestW s p k).1 < 3 ∧ best3 s p k = (0, 0)) ∨ (3 ≤ (bestW s p k).1 ∧ best3 s p k = bestW s p k)
  | 0 => .inl ⟨by unfold bestW; decide, rfl⟩
  | k + 1 => by
    unfold bestW best3
    generalize runW s 34 (p - (k + 1)) p = r
    rcases best3_best s p k with ⟨h1, h2⟩ | ⟨h1, h2⟩
    · rw [h2]
      by_cases h3 : 3 ≤ r
      · rw [if_pos (show (bestW s p k).1 < r by omega), if_pos ⟨h3, show 0 < r by omega⟩]
        exact .inr ⟨h3, rfl⟩
      · rw [if_neg (show ¬ (3 ≤ r ∧ ((0, 0) : Nat × Nat).1 < r) from fun h => h3 h.1)]
        by_cases h4 : (bestW s p k).1 < r
        · rw [if_pos h4]
          exact .inl ⟨by show r < 3; omega, rfl⟩
        · rw [if_neg h4]
          exact .inl ⟨h1, rfl⟩
    · rw [h2]
      by_cases h3 : (bestW s p k).1 < r
      · rw [if_pos h3, if_pos ⟨by omega, h3⟩]
        exact .inr ⟨by show 3 ≤ r; omega, rfl⟩
      · rw [if_neg h3, if_neg (show ¬ (3 ≤ r ∧ (bestW s p k).1 < r) from fun h => h3 h.2)]
        exact .inr ⟨h1, rfl⟩
theorem match_best3 {s : List Nat} {p : Nat} (hp : p < s.length) : matchW s p = best3 s p (min 512 p) := by
  unfold matchW
  rw [if_neg (by omega)]
  rcases best3_best s p (min 512 p) with ⟨h1, h2⟩ | ⟨h1, h2⟩
  · rw [if_pos h1, h2]
  · rw [if_neg (by omega), h2]
/-- a place too near the end matches nothing -/
theorem match_end {s : List Nat} {p : Nat} (hp : s.length < p + 3) : matchW s p = (0, 0) := by
  unfold matchW
  split
  · rfl
  · rename_i h
    have hb := bestW_is s p (min 512 p)
    rw [if_pos]
    rcases hb with hb | ⟨_, _, hb⟩
    · omega
    · have := runW_in s 34 (p - (bestW s p (min 512 p)).2) p (by omega)
      omega
/-- places without the three bytes are skipped -/
theorem best3_skip {s : List Nat} {p a : Nat} (hp : p + 3 ≤ s.length) : ∀ b, a ≤ b → b ≤ p → (∀ k, a < k → k ≤ b → keyW s (p - k) ≠ keyW s p) → best3 s p b = best3 s p a
  | 0, h, _, _ => by obtain rfl : a = 0 := by omega
                     rfl
  | b + 1, h, hb, hk => by
    rcases Nat.lt_or_ge b a with h1 | h1
    · obtain rfl : a = b + 1 := by omega
      rfl
    · rw [best3, if_neg]
      · exact best3_skip hp b h1 (by omega) (fun k q1 q2 => hk k q1 (by omega))
      · rintro ⟨h3, _⟩
        exact hk (b + 1) (by omega) (Nat.le_refl _) ((run_three hp (by omega)).1 h3)
/-- how far the search is: f, the next place; m, the best so far -/
def SeekW (s : List Nat) (p : Nat) (f : Int) (m : Nat × Nat) : Prop := ∃ q : Nat, (q : Int) = (p : Int) - 1 - f ∧ q ≤ p ∧ m = best3 s p (min 512 q) ∧ (f = -1 ∨ ∃ n : Nat, f = (n : Int) ∧ n < p ∧ keyW s n = keyW s p)
theorem SeekW.from {s : List Nat} {p a : Nat} (hp : p + 3 ≤ s.length) (ha : a ≤ p) {m : Nat × Nat} (hm : m = best3 s p (p - a)) (h512 : p - a ≤ 512) : SeekW s p (lastW s p a) m := by
  have hb := lastW_lt s p a
  refine ⟨((p : Int) - 1 - lastW s p a).toNat, by omega, by omega, ?_, ?_⟩
  · rw [hm]
    symm
    refine best3_skip hp _ (by omega) (by omega) fun k h1 h2 => ?_
    rcases lastW_is s p a with ⟨h, hn⟩ | ⟨m', h3, h4, h5, h6⟩
    · exact hn (p - k) (by omega)
    · exact h6 (p - k) (by omega) (by omega)
  · rcases lastW_is s p a with ⟨h, hn⟩ | ⟨m', h3, h4, h5, h6⟩
    · exact .inl h
    · exact .inr ⟨m', h4, by omega, h5⟩
theorem SeekW.first {s : List Nat} {p : Nat} (hp : p + 3 ≤ s.length) : SeekW s p (lastW s p p) (0, 0) :=
  SeekW.from hp (Nat.le_refl _) (by rw [Nat.sub_self]; rfl) (by omega)
theorem SeekW.next {s : List Nat} {p n : Nat} {m : Nat × Nat} (hp : p + 3 ≤ s.length) (h : SeekW s p (n : Int) m) (hn : n < p) (h512 : p - n ≤ 512) :
    SeekW s p (lastW s n n) (if m.1 < runW s 34 n p then (runW s 34 n p, p - n) else m) := by
  obtain ⟨q, h1, h2, h3, h4⟩ := h
  have hk : keyW s n = keyW s p := by
    rcases h4 with h4 | ⟨n', h4, _, h5⟩
    · omega
    · obtain rfl : n = n' := by omega
      exact h5
  clear h4
  rw [lastW_congr hk]
  refine SeekW.from hp (by omega) ?_ h512
  obtain ⟨k, hkk⟩ : ∃ k, p - n = k + 1 := ⟨p - n - 1, by omega⟩
  have hq : min 512 q = k := by omega
  rw [hkk, best3, ← hkk, show p - (p - n) = n by omega, h3, hq]
  have h3' := (run_three hp (show n ≤ p by omega)).2 hk
  by_cases h : (best3 s p k).1 < runW s 34 n p
  · rw [if_pos h, if_pos ⟨h3', h⟩]
  · rw [if_neg h, if_neg (fun hh => h hh.2)]
theorem SeekW.key {s : List Nat} {p n : Nat} {m : Nat × Nat} (h : SeekW s p (n : Int) m) : n < p ∧ keyW s n = keyW s p := by
  obtain ⟨q, h1, h2, h3, h4⟩ := h
  rcases h4 with h4 | ⟨n', h4, h5, h6⟩
  · omega
  · obtain rfl : n = n' := by omega
    exact ⟨h5, h6⟩
theorem SeekW.done {s : List Nat} {p : Nat} {f : Int} {m : Nat × Nat} (hp : p < s.length) (h : SeekW s p f m) (hf : f = -1 ∨ 512 < (p : Int) - f) : m = matchW s p := by
  obtain ⟨q, h1, h2, h3, h4⟩ := h
  clear h4
  rw [match_best3 hp, h3, show min 512 q = min 512 p by omega]
theorem SeekW.cases {s : List Nat} {p : Nat} {f : Int} {m : Nat × Nat} (h : SeekW s p f m) : f = -1 ∨ ∃ n : Nat, f = (n : Int) ∧ n < p := by
  obtain ⟨q, h1, h2, h3, h4⟩ := h
  rcases h4 with h4 | ⟨n, h4, h5, _⟩
  · exact .inl h4
  · exact .inr ⟨n, h4, h5⟩
/-! ### a text's end alone -/
theorem runW_drop (s : List Nat) (d : Nat) : ∀ n a b, runW (s.drop d) n a b = runW s n (a + d) (b + d)
  | 0, _, _ => rfl
  | n + 1, a, b => by
    unfold runW
    rw [getD_drop, getD_drop, runW_drop s d n, List.length_drop, show d + a = a + d by omega, show d + b = b + d by omega, show a + 1 + d = a + d + 1 by omega, show b + 1 + d = b + d + 1 by omega]
    by_cases h : b + d < s.length
    · by_cases h2 : s.getD (a + d) 0 = s.getD (b + d) 0
      · rw [if_pos ⟨by omega, h2⟩, if_pos ⟨h, h2⟩]
      · rw [if_neg (fun x => h2 x.2), if_neg (fun x => h2 x.2)]
    · rw [if_neg (fun x => h (by omega)), if_neg (fun x => h x.1)]
theorem bestW_drop (s : List Nat) (d p : Nat) : ∀ k, k ≤ p → bestW (s.drop d) p k = bestW s (p + d) k
  | 0, _ => rfl
  | k + 1, h => by
    unfold bestW
    rw [bestW_drop s d p k (by omega), runW_drop, show p - (k + 1) + d = p + d - (k + 1) by omega]
theorem matchW_drop (s : List Nat) {d p : Nat} (h : d = 0 ∨ p = 512) : matchW (s.drop d) p = matchW s (p + d) := by
  have e : min 512 p = min 512 (p + d) := by omega
  unfold matchW
  rw [bestW_drop s d p _ (by omega), List.length_drop, e]
  by_cases h1 : s.length ≤ p + d
  · rw [if_pos (by omega), if_pos h1]
  · rw [if_neg (by omega), if_neg h1]
/-! ### the map -/
/-- a text of these bytes as a map's key -/
def kLit (l : List Nat) : Lit := .string (l.map UInt8.ofNat)
theorem kLit_key (l : List Nat) : WideAt.IsKeyLit (kLit l) := trivial
theorem kLit_inj {a b : List Nat} (ha : Bys a) (hb : Bys b) (h : kLit a = kLit b) : a = b := by
  unfold kLit at h
  injection h with h
  have h' := congrArg (List.map UInt8.toNat) h
  rw [List.map_map, List.map_map] at h'
  have e : ∀ l : List Nat, Bys l → l.map (UInt8.toNat ∘ UInt8.ofNat) = l := fun l hl => by
    conv => rhs; rw [← List.map_id l]
    refine List.map_congr_left fun x hx => ?_
    have := hl.mem hx
    simp [Nat.mod_eq_of_lt this]
  rwa [e a ha, e b hb] at h'
theorem kLit_tx {l : List Nat} (h : Bys l) : Lit.string (tx l).data.toList = kLit l := by
  unfold kLit
  congr 1
  have h1 := sl_tx h
  unfold sl at h1
  have h2 := congrArg (List.map UInt8.ofNat) h1
  rw [List.map_map] at h2
  rw [← h2]
  symm
  conv => rhs; rw [← List.map_id (tx l).data.toList]
  exact List.map_congr_left fun x hx => by simp
theorem keyW_bys {L : List Nat} (h : Bys L) (i : Nat) : Bys (keyW L i) := (h.drop i).take 3
/-- the map behind n places -/
def mapW (L : List Nat) : Nat → DataW Unit
  | 0 => .map []
  | n + 1 => (mapW L n).put (kLit (keyW L n)) (.lit (.int .i64 (n : Int)))
theorem mapW_isMap (L : List Nat) : ∀ n, Maps.IsMap (mapW L n)
  | 0 => Maps.isMap_empty
  | n + 1 => (mapW_isMap L n).put _ _
theorem mapW_has {L : List Nat} (hL : Bys L) (i : Nat) : ∀ n, (lastW L i n = -1 ∧ Maps.has (mapW L n) (kLit (keyW L i)) = false) ∨ (0 ≤ lastW L i n ∧ Maps.has (mapW L n) (kLit (keyW L i)) = true ∧ ∀ z, (mapW L n).atKey (kLit (keyW L i)) z = .lit (.int .i64 (lastW L i n)))
  | 0 => .inl ⟨rfl, rfl⟩
  | n + 1 => by
    unfold mapW lastW
    by_cases h : keyW L n = keyW L i
    · rw [if_pos h, h]
      exact .inr ⟨by omega, Maps.has_put_same (mapW_isMap L n) (kLit_key _) _, fun z => Maps.atKey_put_same (mapW_isMap L n) (kLit_key _) _ z⟩
    · have hne : kLit (keyW L i) ≠ kLit (keyW L n) := fun e => h (kLit_inj (keyW_bys hL n) (keyW_bys hL i) e.symm)
      rw [if_neg h, Maps.has_put_other hne]
      rcases mapW_has hL i n with ⟨h1, h2⟩ | ⟨h1, h2, h3⟩
      · exact .inl ⟨h1, h2⟩
      · exact .inr ⟨h1, h2, fun z => by rw [Maps.atKey_put_other hne]; exact h3 z⟩
/-- of each place the one ahead -/
def aheadW (L : List Nat) (n : Nat) : List Int := (List.range n).map fun i => lastW L i i
theorem aheadW_len (L : List Nat) (n : Nat) : (aheadW L n).length = n := by simp [aheadW]
theorem aheadW_get (L : List Nat) {n i : Nat} (h : i < n) : (aheadW L n).getD i 0 = lastW L i i := by simp [aheadW, h]
theorem aheadW_snoc (L : List Nat) (n : Nat) : aheadW L (n + 1) = aheadW L n ++ [lastW L n n] := by simp [aheadW, List.range_succ]
end Go.Proofs.Ytloncdnnblkpdaa
