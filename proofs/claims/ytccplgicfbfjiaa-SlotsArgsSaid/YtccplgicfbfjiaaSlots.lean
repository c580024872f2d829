/- Two slots, by plain lists (stage 16). -/
import Derived.Test.YtccplgicfbfjiaaZ0
namespace Go.Proofs.Ytccplgicfbfjiaa
set_option linter.unusedVariables false

/-- what a slot has: its number, its text -/
def slotF (s : List Nat) : Option (Nat × List Nat) := if (firstK s).2.2 = 0 ∧ 8 ≤ (firstK s).1.length then some (fixN (firstK s).1 8, (firstK s).1.drop 8) else none
/-- a slot's text with its number -/
def slotL (n : Nat) (s : List Nat) : List Nat := bigL n 8 ++ s
theorem slotL_len (n : Nat) (s : List Nat) : (slotL n s).length = 8 + s.length := by unfold slotL; rw [List.length_append, big_len]
theorem slotL_bys (n : Nat) {s : List Nat} (h : Bys s) : Bys (slotL n s) := (big_bys _ _).app h
/-- what is framed in a slot is told, whatever stands behind it -/
theorem slot_frame {n : Nat} (hn : n < 2 ^ 64) {s : List Nat} (hs : Bys s) (hl : s.length ≤ 1016) (r : List Nat) : slotF (frameK (slotL n s) ++ r) = some (n, s) := by
  have h := first_frame (slotL_bys n hs) (by rw [slotL_len]; omega) r
  unfold slotF
  rw [h]
  simp only [true_and]
  rw [if_pos (by rw [slotL_len]; omega)]
  unfold slotL
  rw [fix_put, Nat.mod_eq_of_lt hn, List.drop_left' (big_len n 8)]
theorem slot_pad {n : Nat} (hn : n < 2 ^ 64) {s : List Nat} (hs : Bys s) (hl : s.length ≤ 1016) (r : List Nat) : slotF (padK (slotL n s) ++ r) = some (n, s) := by
  unfold padK
  rw [List.append_assoc]
  exact slot_frame hn hs hl _
/-- a slot of bytes 0 has none -/
theorem slot_blank (r : List Nat) : slotF (zerN 32 ++ r) = none := by
  unfold slotF
  rw [if_neg fun h => first_blank r h.1]
/-- of both the greater number, of the same the first one's -/
def loadL (a b : List Nat) : Option (Nat × List Nat) :=
  match slotF a, slotF b with
  | none, none => none
  | some x, none => some x
  | none, some y => some y
  | some x, some y => if x.1 < y.1 then some y else some x
/-- the number that is saved next -/
def nextSl (a b : List Nat) : Nat := match loadL a b with | some x => x.1 + 1 | none => 1
theorem load_eq {a b a' b' : List Nat} (h1 : slotF a' = slotF a) (h2 : slotF b' = slotF b) : loadL a' b' = loadL a b := by unfold loadL; rw [h1, h2]
/-- an even number stands in the first one, an odd one in the other -/
structure SlotsOk (a b : List Nat) : Prop where
  even : ∀ x, slotF a = some x → x.1 % 2 = 0
  odd : ∀ x, slotF b = some x → x.1 % 2 = 1
theorem slots_ok {a b : List Nat} (ha : slotF a = none) (hb : slotF b = none) : SlotsOk a b := ⟨fun x h => by rw [ha] at h; (cases h), fun x h => by rw [hb] at h; (cases h)⟩
theorem next_low {a b : List Nat} (x : Nat × List Nat) (h : slotF a = some x) : x.1 < nextSl a b := by
  unfold nextSl loadL
  rw [h]
  cases hb : slotF b with
  | none => exact Nat.lt_succ_self _
  | some y =>
    simp only
    split
    · rename_i z hz
      by_cases hc : x.1 < y.1
      · rw [if_pos hc] at hz; cases hz; omega
      · rw [if_neg hc] at hz; cases hz; omega
    · rename_i hz
      by_cases hc : x.1 < y.1
      · rw [if_pos hc] at hz; cases hz
      · rw [if_neg hc] at hz; cases hz
theorem next_high {a b : List Nat} (y : Nat × List Nat) (h : slotF b = some y) : y.1 < nextSl a b := by
  unfold nextSl loadL
  rw [h]
  cases hb : slotF a with
  | none => exact Nat.lt_succ_self _
  | some x =>
    simp only
    split
    · rename_i z hz
      by_cases hc : x.1 < y.1
      · rw [if_pos hc] at hz; cases hz; omega
      · rw [if_neg hc] at hz; cases hz; omega
    · rename_i hz
      by_cases hc : x.1 < y.1
      · rw [if_pos hc] at hz; cases hz
      · rw [if_neg hc] at hz; cases hz
/-- what is loaded stands in the slot that the next save leaves alone -/
theorem load_high {a b : List Nat} (h : SlotsOk a b) (ho : nextSl a b % 2 = 0) : loadL a b = slotF b := by
  unfold nextSl at ho
  unfold loadL at ho ⊢
  cases ha : slotF a with
  | none =>
    cases hb : slotF b with
    | none => rfl
    | some y => rfl
  | some x =>
    have h1 := h.even x ha
    cases hb : slotF b with
    | none =>
      rw [ha, hb] at ho
      simp only at ho
      omega
    | some y =>
      have h2 := h.odd y hb
      rw [ha, hb] at ho
      simp only at ho ⊢
      by_cases hc : x.1 < y.1
      · rw [if_pos hc]
      · rw [if_neg hc] at ho
        simp only at ho
        omega
theorem load_low {a b : List Nat} (h : SlotsOk a b) (ho : nextSl a b % 2 = 1) (hn : slotF a ≠ none ∨ slotF b = none) : loadL a b = slotF a := by
  unfold nextSl at ho
  unfold loadL at ho ⊢
  cases ha : slotF a with
  | none =>
    cases hb : slotF b with
    | none => rfl
    | some y =>
      rcases hn with hn | hn
      · exact absurd ha hn
      · rw [hb] at hn; cases hn
  | some x =>
    have h1 := h.even x ha
    cases hb : slotF b with
    | none => rfl
    | some y =>
      have h2 := h.odd y hb
      rw [ha, hb] at ho
      simp only at ho ⊢
      by_cases hc : x.1 < y.1
      · rw [if_pos hc] at ho
        simp only at ho
        omega
      · rw [if_neg hc]
theorem load_low2 {a b : List Nat} (h : SlotsOk a b) (ho : nextSl a b % 2 = 1) : loadL a b = slotF a := by
  by_cases hn : slotF a ≠ none ∨ slotF b = none
  · exact load_low h ho hn
  · have ha : slotF a = none := Classical.byContradiction fun hc => hn (.inl hc)
    have hb : slotF b ≠ none := fun hc => hn (.inr hc)
    exfalso
    unfold nextSl loadL at ho
    rw [ha] at ho
    cases hb' : slotF b with
    | none => exact hb hb'
    | some y =>
      rw [hb'] at ho
      simp only at ho
      have := h.odd y hb'
      omega
/-- a save into the first slot: it is loaded then; of a slot that is found as none, or as it was, what was loaded ahead is loaded -/
theorem save_low {a b a' : List Nat} (h : SlotsOk a b) (ho : nextSl a b % 2 = 0) {s : List Nat} (hs : slotF a' = some (nextSl a b, s)) : loadL a' b = some (nextSl a b, s) ∧ SlotsOk a' b := by
  refine ⟨?_, fun x hx => by rw [hs] at hx; cases hx; exact ho, h.odd⟩
  unfold loadL
  rw [hs]
  cases hb : slotF b with
  | none => rfl
  | some y =>
    have := next_high (a := a) y hb
    exact if_neg (by simp only; omega)
theorem save_high {a b b' : List Nat} (h : SlotsOk a b) (ho : nextSl a b % 2 = 1) {s : List Nat} (hs : slotF b' = some (nextSl a b, s)) : loadL a b' = some (nextSl a b, s) ∧ SlotsOk a b' := by
  refine ⟨?_, h.even, fun x hx => by rw [hs] at hx; cases hx; exact ho⟩
  unfold loadL
  rw [hs]
  cases ha : slotF a with
  | none => rfl
  | some x =>
    have := next_low (b := b) x ha
    exact if_pos (by simpa using this)
theorem torn_low {a b a' : List Nat} (h : SlotsOk a b) (ho : nextSl a b % 2 = 0) (hs : slotF a' = none) : loadL a' b = loadL a b ∧ SlotsOk a' b := by
  refine ⟨?_, fun x hx => by rw [hs] at hx; (cases hx), h.odd⟩
  rw [load_high h ho]
  unfold loadL
  rw [hs]
  cases slotF b <;> rfl
theorem torn_high {a b b' : List Nat} (h : SlotsOk a b) (ho : nextSl a b % 2 = 1) (hs : slotF b' = none) : loadL a b' = loadL a b ∧ SlotsOk a b' := by
  refine ⟨?_, h.even, fun x hx => by rw [hs] at hx; (cases hx)⟩
  rw [load_low2 h ho]
  unfold loadL
  rw [hs]
  cases slotF a <;> rfl
end Go.Proofs.Ytccplgicfbfjiaa
