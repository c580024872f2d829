/- Walks of the library's Contains, Index, by a function; of the checks of numbers. -/
import Derived.Test.YtpjdlkbpnodcdaaPDep
namespace Go.Proofs.Ytpjdlkbpnodcdaa
open Go.RowKit
set_option linter.unusedVariables false

theorem rowsI_len (l : List Int) : (rowsI l).length = l.length := by simp [rowsI]
theorem rowsI_at {l : List Int} {j : Nat} (h : j < l.length) : (rowsI l)[j]? = some [.int .i64 (l.getD j 0)] := by simp [rowsI, h]
theorem rowsI_nn (l : List Nat) : rowsI (nn l) = rowsN l := by unfold rowsI rowsN nn; rw [List.map_map]; rfl
theorem SlI.cell {w : World} {p : Option Addr} {n cap : Nat} {l : List Int} (h : Sl w 1 (.slice p n cap) (rowsI l)) {j : Nat} (hj : j < l.length) : ∃ a : Addr, p = some a ∧ w.cell? (a.add j) = some (.int .i64 (l.getD j 0)) := by
  obtain ⟨a, e, hc⟩ := h.row (rowsI_at hj)
  exact ⟨a, e, by have := hc 0 _ rfl; rw [Nat.mul_one] at this; exact this⟩
theorem least_ex {p : Nat → Prop} {n : Nat} (h : ∃ j, j < n ∧ p j) : ∃ j, j < n ∧ p j ∧ ∀ i, i < j → ¬ p i := by
  obtain ⟨j, hj, hp⟩ := h
  induction j using Nat.strongRecOn with
  | _ j ih =>
    by_cases e : ∃ i, i < j ∧ p i
    · obtain ⟨i, hi, hpi⟩ := e
      exact ih i hi (by omega) hpi
    · exact ⟨j, hj, hp, fun i hi hpi => e ⟨i, hi, hpi⟩⟩
/-- longer than may be -/
def Lng (lim x : Int) : Prop := lim < x
theorem p_long (LB : Nat) (x lim : Int) (b : Bool) (w : World) (hB : Blk w LB 3 [.int .i64 lim]) (hb : (b = true ∧ Lng lim x) ∨ (b = false ∧ ¬ Lng lim x)) :
    Calls Try.prog 26 #[.int .i64 x, .pointer (some ⟨LB, 0, none⟩)] w fun e w' => e = .returned (.bool b) ∧ w = w' := by
  have c1 := hB.cell 0
  simp only [List.getElem?_cons_zero] at c1
  have hd : decide (lim < x) = b := by
    rcases hb with ⟨rfl, h⟩ | ⟨rfl, h⟩
    · exact decide_eq_true h
    · exact decide_eq_false h
  clear hB hb
  go_enter Try.func26, Try.ntmps26
  go_wp2
  go_ret
  exact ⟨rfl, rfl⟩
/-- no length of a word, nor 0 -/
def NoLen (x : Int) : Prop := x < 0 ∨ 15 < x
theorem p_noLen (x : Int) (b : Bool) (w : World) (hb : (b = true ∧ NoLen x) ∨ (b = false ∧ ¬ NoLen x)) :
    Calls Try.prog 51 #[.int .i64 x] w fun e w' => e = .returned (.bool b) ∧ w = w' := by
  unfold NoLen at hb
  by_cases h0 : x < 0
  · obtain rfl : b = true := by rcases hb with ⟨h, _⟩ | ⟨_, h⟩; exact h; exact absurd (.inl h0) h
    have d1 : decide (x < 0) = true := by simp; omega
    clear hb
    go_enter Try.func51, Try.ntmps51
    go_wp2
    go_ret
    exact ⟨rfl, rfl⟩
  · by_cases h1 : 15 < x
    · obtain rfl : b = true := by rcases hb with ⟨h, _⟩ | ⟨_, h⟩; exact h; exact absurd (.inr h1) h
      have d1 : decide (x < 0) = false := by simp; omega
      have d2 : decide (15 < x) = true := by simp; omega
      clear hb
      go_enter Try.func51, Try.ntmps51
      go_wp2
      go_ret
      exact ⟨rfl, rfl⟩
    · obtain rfl : b = false := by rcases hb with ⟨_, h⟩ | ⟨h, _⟩; exact absurd h (by omega); exact h
      have d1 : decide (x < 0) = false := by simp; omega
      have d2 : decide (15 < x) = false := by simp; omega
      clear hb
      go_enter Try.func51, Try.ntmps51
      go_wp2
      go_ret
      exact ⟨rfl, rfl⟩
set_option maxRecDepth 100000 in
set_option maxHeartbeats 1000000 in
theorem pl_Idx (l : List Int) (p : Option Addr) (cap : Nat) (w : World) (LB : Nat) (lim : Int) (hB : Blk w LB 3 [.int .i64 lim]) (hl : l.length ≤ 1000000) (hS : Sl w 1 (.slice p l.length cap) (rowsI l)) (r : Int) (hr : (0 ≤ r ∧ ∃ j, r = (j : Nat) ∧ j < l.length ∧ Lng lim (l.getD j 0) ∧ ∀ i, i < j → ¬ Lng lim (l.getD i 0)) ∨ (r = -1 ∧ ∀ i, i < l.length → ¬ Lng lim (l.getD i 0))) :
    Calls Try.prog 48 #[.slice p l.length cap, .func (.func 26) #[] #[.pointer (some ⟨LB, 0, none⟩)]] w fun e w' => e = .returned (.int .i64 r) ∧ w = w' := by
  have HR := Lib.hid hr
  have HS := Lib.hid hS
  clear hr hS
  have HBL := Lib.hid hB
  clear hB
  go_enter Try.func48, Try.ntmps48
  go_wp2
  go_loop [5, 8] (fun _ i => ∃ j : Nat, j ≤ l.length ∧ i = .int .i64 (j : Int) ∧ ∀ i, i < j → ¬ Lng lim (l.getD i 0)) (fun _ i => l.length - (intOf i).toNat)
  case atStart => exact ⟨0, by omega, rfl, fun i h => by omega⟩
  case round =>
    obtain ⟨j, hj, rfl, gn⟩ := hrel
    by_cases hlt : j < l.length
    · have d1 : (j : Int) < (l.length : Int) := by omega
      obtain ⟨a, rfl, hc⟩ := SlI.cell HS.out hlt
      obtain ⟨x, hx⟩ : ∃ x, l.getD j 0 = x := ⟨_, rfl⟩
      have HX := Lib.hid hx
      rw [hx] at hc
      have GN := Lib.hid gn
      clear hx gn
      by_cases hp : Lng lim x
      · have hC := p_long LB x lim true w HBL.out (.inl ⟨rfl, hp⟩)
        have HC := Lib.hid hC
        have hrr : r = (j : Int) := by
          rcases HR.out with ⟨_, i, rfl, h1, h2, h3⟩ | ⟨_, h⟩
          · rcases Nat.lt_trichotomy i j with h' | h' | h'
            · exact absurd h2 (GN.out i h')
            · rw [h']
            · exact absurd (by rw [HX.out]; exact hp) (h3 j h')
          · exact absurd (by rw [HX.out]; exact hp) (h j hlt)
        have HRR := Lib.hid hrr
        clear hC hrr hp
        go_wp2_with fail
        (with_reducible refine HC.out.mono ?_)
        rintro e w9 ⟨rfl, rfl⟩
        go_wp2
        go_ret
        exact ⟨by rw [HRR.out]; rfl, rfl⟩
      · have hC := p_long LB x lim false w HBL.out (.inr ⟨rfl, hp⟩)
        have HC := Lib.hid hC
        have HP := Lib.hid hp
        clear hC hp
        go_wp2_with fail
        (with_reducible refine HC.out.mono ?_)
        rintro e w9 ⟨rfl, rfl⟩
        go_wp2
        go_round
        case rel => exact ⟨j + 1, by omega, by go_num, fun i hi => by
          rcases Nat.lt_or_ge i j with h' | h'
          · exact GN.out i h'
          · obtain rfl : i = j := by omega
            rw [HX.out]; exact HP.out⟩
        case measure => (simp [intOf]; try omega)
    · obtain rfl : j = l.length := by omega
      have hrr : r = -1 := by
        rcases HR.out with ⟨_, i, rfl, h1, h2, h3⟩ | ⟨h, _⟩
        · exact absurd h2 (gn i h1)
        · exact h
      subst hrr
      clear gn
      go_wp2
      go_ret
      exact ⟨rfl, rfl⟩
set_option maxRecDepth 100000 in
theorem pl_Has (l : List Int) (p : Option Addr) (cap : Nat) (w : World) (LB : Nat) (lim : Int) (hB : Blk w LB 3 [.int .i64 lim]) (hl : l.length ≤ 1000000) (hS : Sl w 1 (.slice p l.length cap) (rowsI l)) (b : Bool) (hb : (b = true ∧ ∃ x ∈ l, Lng lim x) ∨ (b = false ∧ ∀ x ∈ l, ¬ Lng lim x)) :
    Calls Try.prog 29 #[.slice p l.length cap, .func (.func 26) #[] #[.pointer (some ⟨LB, 0, none⟩)]] w fun e w' => e = .returned (.bool b) ∧ w = w' := by
  have hg : ∀ j, j < l.length → l.getD j 0 ∈ l := fun j hj => by
    rw [List.getD_eq_getElem?_getD, List.getElem?_eq_getElem hj]
    exact List.getElem_mem _
  rcases hb with ⟨rfl, x, hx, hp⟩ | ⟨rfl, hn⟩
  · obtain ⟨i, hi, rfl⟩ := List.getElem_of_mem hx
    have hex : ∃ j, j < l.length ∧ Lng lim (l.getD j 0) := ⟨i, hi, by rw [List.getD_eq_getElem?_getD, List.getElem?_eq_getElem hi]; exact hp⟩
    obtain ⟨j, hj, hpj, hmin⟩ := least_ex (p := fun j => Lng lim (l.getD j 0)) hex
    have hC := pl_Idx l p cap w LB lim hB hl hS (j : Int) (.inl ⟨by omega, j, rfl, hj, hpj, hmin⟩)
    have HC := Lib.hid hC
    have d1 : decide ((0 : Int) ≤ (j : Int)) = true := by simp
    clear hC hS hx hp hpj hmin hex
    go_enter Try.func29, Try.ntmps29
    go_wp2_with fail
    (with_reducible refine HC.out.mono ?_)
    rintro e w9 ⟨rfl, rfl⟩
    go_wp2
    go_ret
    exact ⟨rfl, rfl⟩
  · have hC := pl_Idx l p cap w LB lim hB hl hS (-1) (.inr ⟨rfl, fun i hi => hn _ (hg i hi)⟩)
    have HC := Lib.hid hC
    clear hC hS hn
    go_enter Try.func29, Try.ntmps29
    go_wp2_with fail
    (with_reducible refine HC.out.mono ?_)
    rintro e w9 ⟨rfl, rfl⟩
    go_wp2
    go_ret
    exact ⟨rfl, rfl⟩
set_option maxRecDepth 100000 in
set_option maxHeartbeats 1000000 in
theorem pn_Idx (l : List Int) (p : Option Addr) (cap : Nat) (w : World) (hl : l.length ≤ 1000000) (hS : Sl w 1 (.slice p l.length cap) (rowsI l)) (r : Int) (hr : (0 ≤ r ∧ ∃ j, r = (j : Nat) ∧ j < l.length ∧ NoLen (l.getD j 0) ∧ ∀ i, i < j → ¬ NoLen (l.getD i 0)) ∨ (r = -1 ∧ ∀ i, i < l.length → ¬ NoLen (l.getD i 0))) :
    Calls Try.prog 48 #[.slice p l.length cap, .func (.func 51) #[] #[]] w fun e w' => e = .returned (.int .i64 r) ∧ w = w' := by
  have HR := Lib.hid hr
  have HS := Lib.hid hS
  clear hr hS
  go_enter Try.func48, Try.ntmps48
  go_wp2
  go_loop [5, 8] (fun _ i => ∃ j : Nat, j ≤ l.length ∧ i = .int .i64 (j : Int) ∧ ∀ i, i < j → ¬ NoLen (l.getD i 0)) (fun _ i => l.length - (intOf i).toNat)
  case atStart => exact ⟨0, by omega, rfl, fun i h => by omega⟩
  case round =>
    obtain ⟨j, hj, rfl, gn⟩ := hrel
    by_cases hlt : j < l.length
    · have d1 : (j : Int) < (l.length : Int) := by omega
      obtain ⟨a, rfl, hc⟩ := SlI.cell HS.out hlt
      obtain ⟨x, hx⟩ : ∃ x, l.getD j 0 = x := ⟨_, rfl⟩
      have HX := Lib.hid hx
      rw [hx] at hc
      have GN := Lib.hid gn
      clear hx gn
      by_cases hp : NoLen x
      · have hC := p_noLen x true w (by exact .inl ⟨rfl, hp⟩)
        have HC := Lib.hid hC
        have hrr : r = (j : Int) := by
          rcases HR.out with ⟨_, i, rfl, h1, h2, h3⟩ | ⟨_, h⟩
          · rcases Nat.lt_trichotomy i j with h' | h' | h'
            · exact absurd h2 (GN.out i h')
            · rw [h']
            · exact absurd (by rw [HX.out]; exact hp) (h3 j h')
          · exact absurd (by rw [HX.out]; exact hp) (h j hlt)
        have HRR := Lib.hid hrr
        clear hC hrr hp
        go_wp2_with fail
        (with_reducible refine HC.out.mono ?_)
        rintro e w9 ⟨rfl, rfl⟩
        go_wp2
        go_ret
        exact ⟨by rw [HRR.out]; rfl, rfl⟩
      · have hC := p_noLen x false w (by exact .inr ⟨rfl, hp⟩)
        have HC := Lib.hid hC
        have HP := Lib.hid hp
        clear hC hp
        go_wp2_with fail
        (with_reducible refine HC.out.mono ?_)
        rintro e w9 ⟨rfl, rfl⟩
        go_wp2
        go_round
        case rel => exact ⟨j + 1, by omega, by go_num, fun i hi => by
          rcases Nat.lt_or_ge i j with h' | h'
          · exact GN.out i h'
          · obtain rfl : i = j := by omega
            rw [HX.out]; exact HP.out⟩
        case measure => (simp [intOf]; try omega)
    · obtain rfl : j = l.length := by omega
      have hrr : r = -1 := by
        rcases HR.out with ⟨_, i, rfl, h1, h2, h3⟩ | ⟨h, _⟩
        · exact absurd h2 (gn i h1)
        · exact h
      subst hrr
      clear gn
      go_wp2
      go_ret
      exact ⟨rfl, rfl⟩
set_option maxRecDepth 100000 in
theorem pn_Has (l : List Int) (p : Option Addr) (cap : Nat) (w : World) (hl : l.length ≤ 1000000) (hS : Sl w 1 (.slice p l.length cap) (rowsI l)) (b : Bool) (hb : (b = true ∧ ∃ x ∈ l, NoLen x) ∨ (b = false ∧ ∀ x ∈ l, ¬ NoLen x)) :
    Calls Try.prog 29 #[.slice p l.length cap, .func (.func 51) #[] #[]] w fun e w' => e = .returned (.bool b) ∧ w = w' := by
  have hg : ∀ j, j < l.length → l.getD j 0 ∈ l := fun j hj => by
    rw [List.getD_eq_getElem?_getD, List.getElem?_eq_getElem hj]
    exact List.getElem_mem _
  rcases hb with ⟨rfl, x, hx, hp⟩ | ⟨rfl, hn⟩
  · obtain ⟨i, hi, rfl⟩ := List.getElem_of_mem hx
    have hex : ∃ j, j < l.length ∧ NoLen (l.getD j 0) := ⟨i, hi, by rw [List.getD_eq_getElem?_getD, List.getElem?_eq_getElem hi]; exact hp⟩
    obtain ⟨j, hj, hpj, hmin⟩ := least_ex (p := fun j => NoLen (l.getD j 0)) hex
    have hC := pn_Idx l p cap w hl hS (j : Int) (.inl ⟨by omega, j, rfl, hj, hpj, hmin⟩)
    have HC := Lib.hid hC
    have d1 : decide ((0 : Int) ≤ (j : Int)) = true := by simp
    clear hC hS hx hp hpj hmin hex
    go_enter Try.func29, Try.ntmps29
    go_wp2_with fail
    (with_reducible refine HC.out.mono ?_)
    rintro e w9 ⟨rfl, rfl⟩
    go_wp2
    go_ret
    exact ⟨rfl, rfl⟩
  · have hC := pn_Idx l p cap w hl hS (-1) (.inr ⟨rfl, fun i hi => hn _ (hg i hi)⟩)
    have HC := Lib.hid hC
    clear hC hS hn
    go_enter Try.func29, Try.ntmps29
    go_wp2_with fail
    (with_reducible refine HC.out.mono ?_)
    rintro e w9 ⟨rfl, rfl⟩
    go_wp2
    go_ret
    exact ⟨rfl, rfl⟩
end Go.Proofs.Ytpjdlkbpnodcdaa
