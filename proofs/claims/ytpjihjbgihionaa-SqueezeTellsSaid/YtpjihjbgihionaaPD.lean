/- Walks of the library's Contains, Index, by a function; of the checks of numbers. -/
import Derived.Test.YtpjihjbgihionaaPC
import Derived.Deep.LoopGhost
namespace Go.Proofs.Ytpjihjbgihionaa
open Go.RowKit
set_option linter.unusedVariables false

theorem rowsI_len (l : List Int) : (rowsI l).length = l.length := by simp [rowsI]
theorem rowsI_at {l : List Int} {j : Nat} (h : j < l.length) : (rowsI l)[j]? = some [.int .i64 (l.getD j 0)] := by simp [rowsI, h]
theorem rowsI_nn (l : List Nat) : rowsI (nn l) = rowsN l := by unfold rowsI rowsN nn; rw [List.map_map]; rfl
theorem SlI.cell {w : World} {p : Option Addr} {n cap : Nat} {l : List Int} (h : Sl w 1 (.slice p n cap) (rowsI l)) {j : Nat} (hj : j < l.length) : ∃ a : Addr, p = some a ∧ w.cell? (a.add j) = some (.int .i64 (l.getD j 0)) := by
  obtain ⟨a, e, hc⟩ := h.row (rowsI_at hj)
  exact ⟨a, e, by have := hc 0 _ rfl; rw [Nat.mul_one] at this; exact this⟩
theorem least_ex {p : Nat → Prop} {n : Nat} (h : ∃ j, j < n ∧ p j) : ∃ j, j < n ∧ p j ∧ ∀ i, i < j → ¬ p i := by
  obtain ⟨j, hj, hp⟩ := h
  induction j using Nat.strongRecOn with
  | _ j ih =>
    by_cases e : ∃ i, i < j ∧ p i
    · obtain ⟨i, hi, hpi⟩ := e
      exact ih i hi (by omega) hpi
    · exact ⟨j, hj, hp, fun i hi hpi => e ⟨i, hi, hpi⟩⟩
/-- longer than may be -/
def Lng (lim x : Int) : Prop := lim < x
theorem p_long (LB : Nat) (x lim : Int) (b : Bool) (w : World) (hB : Blk w LB 3 [.int .i64 lim]) (hb : (b = true ∧ Lng lim x) ∨ (b = false ∧ ¬ Lng lim x)) :
    Calls Try.prog 59 #[.int .i64 x, .pointer (some ⟨LB, 0, none⟩)] w fun e w' => e = .returned (.bool b) ∧ w = w' := by
  have c1 := hB.cell 0
  simp only [List.getElem?_cons_zero] at c1
  have hd : decide (lim < x) = b := by
    rcases hb with ⟨rfl, h⟩ | ⟨rfl, h⟩
    · exact decide_eq_true h
    · exact decide_eq_false h
  clear hB hb
  go_enter Try.func59, Try.ntmps59
  go_wp2
  go_ret
  exact ⟨rfl, rfl⟩
/-- no length of a word, nor 0 -/
def NoLen (x : Int) : Prop := x < 0 ∨ 15 < x
theorem p_noLen (x : Int) (b : Bool) (w : World) (hb : (b = true ∧ NoLen x) ∨ (b = false ∧ ¬ NoLen x)) :
    Calls Try.prog 84 #[.int .i64 x] w fun e w' => e = .returned (.bool b) ∧ w = w' := by
  unfold NoLen at hb
  by_cases h0 : x < 0
  · obtain rfl : b = true := by rcases hb with ⟨h, _⟩ | ⟨_, h⟩; exact h; exact absurd (.inl h0) h
    have d1 : decide (x < 0) = true := by simp; omega
    clear hb
    go_enter Try.func84, Try.ntmps84
    go_wp2
    go_ret
    exact ⟨rfl, rfl⟩
  · by_cases h1 : 15 < x
    · obtain rfl : b = true := by rcases hb with ⟨h, _⟩ | ⟨_, h⟩; exact h; exact absurd (.inr h1) h
      have d1 : decide (x < 0) = false := by simp; omega
      have d2 : decide (15 < x) = true := by simp; omega
      clear hb
      go_enter Try.func84, Try.ntmps84
      go_wp2
      go_ret
      exact ⟨rfl, rfl⟩
    · obtain rfl : b = false := by rcases hb with ⟨_, h⟩ | ⟨h, _⟩; exact absurd h (by omega); exact h
      have d1 : decide (x < 0) = false := by simp; omega
      have d2 : decide (15 < x) = false := by simp; omega
      clear hb
      go_enter Try.func84, Try.ntmps84
      go_wp2
      go_ret
      exact ⟨rfl, rfl⟩
set_option maxRecDepth 100000 in
set_option maxHeartbeats 1000000 in
theorem pl_Idx (l : List Int) (p : Option Addr) (cap : Nat) (w : World) (LB : Nat) (lim : Int) (hB : Blk w LB 3 [.int .i64 lim]) (hl : l.length ≤ 1000000) (hS : Sl w 1 (.slice p l.length cap) (rowsI l)) (r : Int) (hr : (0 ≤ r ∧ ∃ j, r = (j : Nat) ∧ j < l.length ∧ Lng lim (l.getD j 0) ∧ ∀ i, i < j → ¬ Lng lim (l.getD i 0)) ∨ (r = -1 ∧ ∀ i, i < l.length → ¬ Lng lim (l.getD i 0))) :
    Calls Try.prog 83 #[.slice p l.length cap, .func (.func 59) #[] #[.pointer (some ⟨LB, 0, none⟩)]] w fun e w' => e = .returned (.int .i64 r) ∧ w = w' := by
  have HR := Lib.hid hr
  have HS := Lib.hid hS
  clear hr hS
  have HBL := Lib.hid hB
  clear hB
  go_enter Try.func83, Try.ntmps83
  go_wp2
  go_loop [5, 8] (fun _ i => ∃ j : Nat, j ≤ l.length ∧ i = .int .i64 (j : Int) ∧ ∀ i, i < j → ¬ Lng lim (l.getD i 0)) (fun _ i => l.length - (intOf i).toNat)
  case atStart => exact ⟨0, by omega, rfl, fun i h => by omega⟩
  case round =>
    obtain ⟨j, hj, rfl, gn⟩ := hrel
    by_cases hlt : j < l.length
    · have d1 : (j : Int) < (l.length : Int) := by omega
      obtain ⟨a, rfl, hc⟩ := SlI.cell HS.out hlt
      obtain ⟨x, hx⟩ : ∃ x, l.getD j 0 = x := ⟨_, rfl⟩
      have HX := Lib.hid hx
      rw [hx] at hc
      have GN := Lib.hid gn
      clear hx gn
      by_cases hp : Lng lim x
      · have hC := p_long LB x lim true w HBL.out (.inl ⟨rfl, hp⟩)
        have HC := Lib.hid hC
        have hrr : r = (j : Int) := by
          rcases HR.out with ⟨_, i, rfl, h1, h2, h3⟩ | ⟨_, h⟩
          · rcases Nat.lt_trichotomy i j with h' | h' | h'
            · exact absurd h2 (GN.out i h')
            · rw [h']
            · exact absurd (by rw [HX.out]; exact hp) (h3 j h')
          · exact absurd (by rw [HX.out]; exact hp) (h j hlt)
        have HRR := Lib.hid hrr
        clear hC hrr hp
        go_wp2_with fail
        (with_reducible refine HC.out.mono ?_)
        rintro e w9 ⟨rfl, rfl⟩
        go_wp2
        go_ret
        exact ⟨by rw [HRR.out]; rfl, rfl⟩
      · have hC := p_long LB x lim false w HBL.out (.inr ⟨rfl, hp⟩)
        have HC := Lib.hid hC
        have HP := Lib.hid hp
        clear hC hp
        go_wp2_with fail
        (with_reducible refine HC.out.mono ?_)
        rintro e w9 ⟨rfl, rfl⟩
        go_wp2
        go_round
        case rel => exact ⟨j + 1, by omega, by go_num, fun i hi => by
          rcases Nat.lt_or_ge i j with h' | h'
          · exact GN.out i h'
          · obtain rfl : i = j := by omega
            rw [HX.out]; exact HP.out⟩
        case measure => (simp [intOf]; try omega)
    · obtain rfl : j = l.length := by omega
      have hrr : r = -1 := by
        rcases HR.out with ⟨_, i, rfl, h1, h2, h3⟩ | ⟨h, _⟩
        · exact absurd h2 (gn i h1)
        · exact h
      subst hrr
      clear gn
      go_wp2
      go_ret
      exact ⟨rfl, rfl⟩
set_option maxRecDepth 100000 in
theorem pl_Has (l : List Int) (p : Option Addr) (cap : Nat) (w : World) (LB : Nat) (lim : Int) (hB : Blk w LB 3 [.int .i64 lim]) (hl : l.length ≤ 1000000) (hS : Sl w 1 (.slice p l.length cap) (rowsI l)) (b : Bool) (hb : (b = true ∧ ∃ x ∈ l, Lng lim x) ∨ (b = false ∧ ∀ x ∈ l, ¬ Lng lim x)) :
    Calls Try.prog 62 #[.slice p l.length cap, .func (.func 59) #[] #[.pointer (some ⟨LB, 0, none⟩)]] w fun e w' => e = .returned (.bool b) ∧ w = w' := by
  have hg : ∀ j, j < l.length → l.getD j 0 ∈ l := fun j hj => by
    rw [List.getD_eq_getElem?_getD, List.getElem?_eq_getElem hj]
    exact List.getElem_mem _
  rcases hb with ⟨rfl, x, hx, hp⟩ | ⟨rfl, hn⟩
  · obtain ⟨i, hi, rfl⟩ := List.getElem_of_mem hx
    have hex : ∃ j, j < l.length ∧ Lng lim (l.getD j 0) := ⟨i, hi, by rw [List.getD_eq_getElem?_getD, List.getElem?_eq_getElem hi]; exact hp⟩
    obtain ⟨j, hj, hpj, hmin⟩ := least_ex (p := fun j => Lng lim (l.getD j 0)) hex
    have hC := pl_Idx l p cap w LB lim hB hl hS (j : Int) (.inl ⟨by omega, j, rfl, hj, hpj, hmin⟩)
    have HC := Lib.hid hC
    have d1 : decide ((0 : Int) ≤ (j : Int)) = true := by simp
    clear hC hS hx hp hpj hmin hex
    go_enter Try.func62, Try.ntmps62
    go_wp2_with fail
    (with_reducible refine HC.out.mono ?_)
    rintro e w9 ⟨rfl, rfl⟩
    go_wp2
    go_ret
    exact ⟨rfl, rfl⟩
  · have hC := pl_Idx l p cap w LB lim hB hl hS (-1) (.inr ⟨rfl, fun i hi => hn _ (hg i hi)⟩)
    have HC := Lib.hid hC
    clear hC hS hn
    go_enter Try.func62, Try.ntmps62
    go_wp2_with fail
    (with_reducible refine HC.out.mono ?_)
    rintro e w9 ⟨rfl, rfl⟩
    go_wp2
    go_ret
    exact ⟨rfl, rfl⟩
set_option maxRecDepth 100000 in
set_option maxHeartbeats 1000000 in
theorem pn_Idx (l : List Int) (p : Option Addr) (cap : Nat) (w : World) (hl : l.length ≤ 1000000) (hS : Sl w 1 (.slice p l.length cap) (rowsI l)) (r : Int) (hr : (0 ≤ r ∧ ∃ j, r = (j : Nat) ∧ j < l.length ∧ NoLen (l.getD j 0) ∧ ∀ i, i < j → ¬ NoLen (l.getD i 0)) ∨ (r = -1 ∧ ∀ i, i < l.length → ¬ NoLen (l.getD i 0))) :
    Calls Try.prog 83 #[.slice p l.length cap, .func (.func 84) #[] #[]] w fun e w' => e = .returned (.int .i64 r) ∧ w = w' := by
  have HR := Lib.hid hr
  have HS := Lib.hid hS
  clear hr hS
  go_enter Try.func83, Try.ntmps83
  go_wp2
  go_loop [5, 8] (fun _ i => ∃ j : Nat, j ≤ l.length ∧ i = .int .i64 (j : Int) ∧ ∀ i, i < j → ¬ NoLen (l.getD i 0)) (fun _ i => l.length - (intOf i).toNat)
  case atStart => exact ⟨0, by omega, rfl, fun i h => by omega⟩
  case round =>
    obtain ⟨j, hj, rfl, gn⟩ := hrel
    by_cases hlt : j < l.length
    · have d1 : (j : Int) < (l.length : Int) := by omega
      obtain ⟨a, rfl, hc⟩ := SlI.cell HS.out hlt
      obtain ⟨x, hx⟩ : ∃ x, l.getD j 0 = x := ⟨_, rfl⟩
      have HX := Lib.hid hx
      rw [hx] at hc
      have GN := Lib.hid gn
      clear hx gn
      by_cases hp : NoLen x
      · have hC := p_noLen x true w (by exact .inl ⟨rfl, hp⟩)
        have HC := Lib.hid hC
        have hrr : r = (j : Int) := by
          rcases HR.out with ⟨_, i, rfl, h1, h2, h3⟩ | ⟨_, h⟩
          · rcases Nat.lt_trichotomy i j with h' | h' | h'
            · exact absurd h2 (GN.out i h')
            · rw [h']
            · exact absurd (by rw [HX.out]; exact hp) (h3 j h')
          · exact absurd (by rw [HX.out]; exact hp) (h j hlt)
        have HRR := Lib.hid hrr
        clear hC hrr hp
        go_wp2_with fail
        (with_reducible refine HC.out.mono ?_)
        rintro e w9 ⟨rfl, rfl⟩
        go_wp2
        go_ret
        exact ⟨by rw [HRR.out]; rfl, rfl⟩
      · have hC := p_noLen x false w (by exact .inr ⟨rfl, hp⟩)
        have HC := Lib.hid hC
        have HP := Lib.hid hp
        clear hC hp
        go_wp2_with fail
        (with_reducible refine HC.out.mono ?_)
        rintro e w9 ⟨rfl, rfl⟩
        go_wp2
        go_round
        case rel => exact ⟨j + 1, by omega, by go_num, fun i hi => by
          rcases Nat.lt_or_ge i j with h' | h'
          · exact GN.out i h'
          · obtain rfl : i = j := by omega
            rw [HX.out]; exact HP.out⟩
        case measure => (simp [intOf]; try omega)
    · obtain rfl : j = l.length := by omega
      have hrr : r = -1 := by
        rcases HR.out with ⟨_, i, rfl, h1, h2, h3⟩ | ⟨h, _⟩
        · exact absurd h2 (gn i h1)
        · exact h
      subst hrr
      clear gn
      go_wp2
      go_ret
      exact ⟨rfl, rfl⟩
set_option maxRecDepth 100000 in
theorem pn_Has (l : List Int) (p : Option Addr) (cap : Nat) (w : World) (hl : l.length ≤ 1000000) (hS : Sl w 1 (.slice p l.length cap) (rowsI l)) (b : Bool) (hb : (b = true ∧ ∃ x ∈ l, NoLen x) ∨ (b = false ∧ ∀ x ∈ l, ¬ NoLen x)) :
    Calls Try.prog 62 #[.slice p l.length cap, .func (.func 84) #[] #[]] w fun e w' => e = .returned (.bool b) ∧ w = w' := by
  have hg : ∀ j, j < l.length → l.getD j 0 ∈ l := fun j hj => by
    rw [List.getD_eq_getElem?_getD, List.getElem?_eq_getElem hj]
    exact List.getElem_mem _
  rcases hb with ⟨rfl, x, hx, hp⟩ | ⟨rfl, hn⟩
  · obtain ⟨i, hi, rfl⟩ := List.getElem_of_mem hx
    have hex : ∃ j, j < l.length ∧ NoLen (l.getD j 0) := ⟨i, hi, by rw [List.getD_eq_getElem?_getD, List.getElem?_eq_getElem hi]; exact hp⟩
    obtain ⟨j, hj, hpj, hmin⟩ := least_ex (p := fun j => NoLen (l.getD j 0)) hex
    have hC := pn_Idx l p cap w hl hS (j : Int) (.inl ⟨by omega, j, rfl, hj, hpj, hmin⟩)
    have HC := Lib.hid hC
    have d1 : decide ((0 : Int) ≤ (j : Int)) = true := by simp
    clear hC hS hx hp hpj hmin hex
    go_enter Try.func62, Try.ntmps62
    go_wp2_with fail
    (with_reducible refine HC.out.mono ?_)
    rintro e w9 ⟨rfl, rfl⟩
    go_wp2
    go_ret
    exact ⟨rfl, rfl⟩
  · have hC := pn_Idx l p cap w hl hS (-1) (.inr ⟨rfl, fun i hi => hn _ (hg i hi)⟩)
    have HC := Lib.hid hC
    clear hC hS hn
    go_enter Try.func62, Try.ntmps62
    go_wp2_with fail
    (with_reducible refine HC.out.mono ?_)
    rintro e w9 ⟨rfl, rfl⟩
    go_wp2
    go_ret
    exact ⟨rfl, rfl⟩
end Go.Proofs.Ytpjihjbgihionaa
namespace Go.Proofs.Ytpjihjbgihionaa
open Go.RowKit
set_option linter.unusedVariables false

/-- how many come -/
def usedI (l : List Int) : Nat := (l.filter fun x => decide (0 < x)).length
theorem usedI_snoc (l : List Int) (x : Int) : usedI (l ++ [x]) = usedI l + if 0 < x then 1 else 0 := by
  unfold usedI
  rw [List.filter_append, List.length_append]
  by_cases h : 0 < x
  · rw [if_pos h, List.filter_cons_of_pos (by exact decide_eq_true h)]; rfl
  · rw [if_neg h, List.filter_cons_of_neg (by simp [h])]; rfl
theorem usedI_le (l : List Int) : usedI l ≤ l.length := List.length_filter_le _ _
theorem take_snocN (L : List Int) (j : Nat) (h : j < L.length) : L.take (j + 1) = L.take j ++ [L.getD j 0] := by
  rw [List.take_add_one, List.getElem?_eq_getElem h, List.getD_eq_getElem?_getD, List.getElem?_eq_getElem h]
  rfl
theorem getD_memI (L : List Int) (j : Nat) (h : j < L.length) : L.getD j 0 ∈ L := by
  rw [List.getD_eq_getElem?_getD, List.getElem?_eq_getElem h]
  exact List.getElem_mem _
/-- what may come so often -/
def Comes (x : Int) : Prop := 0 ≤ x ∧ x ≤ 1048576
def MayC (l : List Int) (lim : Nat) : Prop := l.length ≤ 300 ∧ (∀ x ∈ l, Comes x) ∧ usedI l ≤ 2 ^ lim
set_option maxRecDepth 100000 in
set_option maxHeartbeats 1000000 in
theorem p_mayCome (l : List Int) (lim : Nat) (p : Option Addr) (cap : Nat) (w : World) (hl : l.length ≤ 1000000) (h1 : 1 ≤ lim) (h2 : lim ≤ 15) (hS : Sl w 1 (.slice p l.length cap) (rowsI l)) (b : Bool) (hb : (b = true ∧ MayC l lim) ∨ (b = false ∧ ¬ MayC l lim)) :
    Calls Try.prog 58 #[.slice p l.length cap, .int .i64 (lim : Int)] w fun e w' => e = .returned (.bool b) ∧ w = w' := by
  have HBB := Lib.hid hb
  have HS := Lib.hid hS
  clear hb hS
  by_cases hlen : l.length ≤ 300
  · have d0 : decide (300 < l.length) = false := decide_eq_false (by omega)
    have d0' : decide ((300 : Int) < (l.length : Int)) = false := decide_eq_false (by omega)
    go_enter Try.func58, Try.ntmps58
    go_wp2
    clear d0 d0'
    go_loop [5, 13] (fun u i => ∃ j : Nat, j ≤ l.length ∧ i = .int .i64 (j : Int) ∧ u = .int .i64 (usedI (l.take j) : Int) ∧ ∀ x ∈ l.take j, Comes x) (fun _ i => l.length - (intOf i).toNat)
    case atStart => exact ⟨0, by omega, rfl, rfl, fun x h => by simp at h⟩
    case round =>
      obtain ⟨j, hj, rfl, rfl, gn⟩ := hrel
      by_cases hlt : j < l.length
      · have d1 : (j : Int) < (l.length : Int) := by omega
        obtain ⟨a, rfl, hc⟩ := SlI.cell HS.out hlt
        have hsn := take_snocN l j hlt
        have hus := usedI_snoc (l.take j) (l.getD j 0)
        rw [← hsn] at hus
        have hmem := getD_memI l j hlt
        have hle := usedI_le (l.take j)
        have hle2 : (l.take j).length ≤ j := by simp; omega
        obtain ⟨x, hx⟩ : ∃ x, l.getD j 0 = x := ⟨_, rfl⟩
        rw [hx] at hc hsn hus hmem
        have HSN := Lib.hid hsn
        have HMEM := Lib.hid hmem
        have GN := Lib.hid gn
        clear hx gn hsn hmem
        by_cases hx : Comes x
        · have hx0 : 0 ≤ x := hx.1
          have hx1 : x ≤ 1048576 := hx.2
          have e1 : decide (x < 0) = false := decide_eq_false (by omega)
          have e2 : decide (1048576 < x) = false := decide_eq_false (by omega)
          have hgn : ∀ y ∈ l.take (j + 1), Comes y := fun y hy => by
            rw [HSN.out] at hy
            rcases List.mem_append.1 hy with hy | hy
            · exact GN.out y hy
            · rw [List.mem_singleton.1 hy]; exact hx
          have HGN := Lib.hid hgn
          by_cases hp : 0 < x
          · have e3 : decide (0 < x) = true := decide_eq_true hp
            rw [if_pos hp] at hus
            have HUS := Lib.hid hus
            clear hgn hus hx
            go_wp2
            go_round
            case rel => exact ⟨j + 1, by omega, by go_num, by rw [HUS.out]; go_num, HGN.out⟩
            case measure => (simp [intOf]; try omega)
          · have e3 : decide (0 < x) = false := decide_eq_false hp
            rw [if_neg hp, Nat.add_zero] at hus
            have HUS := Lib.hid hus
            clear hgn hus hx
            go_wp2
            go_round
            case rel => exact ⟨j + 1, by omega, by go_num, by rw [HUS.out]; rfl, HGN.out⟩
            case measure => (simp [intOf]; try omega)
        · obtain rfl : b = false := by
            rcases HBB.out with ⟨_, h⟩ | ⟨h, _⟩
            · exact absurd (h.2.1 x HMEM.out) hx
            · exact h
          unfold Comes at hx
          by_cases e0 : x < 0
          · have e1 : decide (x < 0) = true := decide_eq_true e0
            clear hx hus
            go_wp2
            go_ret
            exact ⟨rfl, rfl⟩
          · have e1 : decide (x < 0) = false := decide_eq_false e0
            have e2 : decide (1048576 < x) = true := decide_eq_true (by omega)
            clear hx hus
            go_wp2
            go_ret
            exact ⟨rfl, rfl⟩
      · obtain rfl : j = l.length := by omega
        rw [List.take_length] at gn ⊢
        have hpw : 2 ^ lim ≤ 2 ^ 15 := Nat.pow_le_pow_right (by decide) h2
        obtain ⟨pw, hpw0⟩ : ∃ pw : Nat, 2 ^ lim = pw := ⟨_, rfl⟩
        have hcast : ((2 : Int) ^ lim) = (pw : Int) := by rw [← hpw0]; simp
        rw [hpw0] at hpw
        have hw : IntKind.i64.wrap ((2 : Int) ^ lim) = (2 : Int) ^ lim := by rw [hcast]; exact IntWalk.i64_in _ (by omega)
        have i2 : (lim : Int).toNat = lim := by omega
        have i3 : (0 : Int) ≤ (lim : Int) := by omega
        have hd : decide ((usedI l : Int) ≤ (2 : Int) ^ lim) = b := by
          rcases HBB.out with ⟨rfl, h⟩ | ⟨rfl, h⟩
          · have := h.2.2
            rw [hpw0] at this
            rw [hcast]
            exact decide_eq_true (by omega)
          · rw [hcast]
            refine decide_eq_false fun h' => h ⟨hlen, gn, by rw [hpw0]; omega⟩
        clear gn hpw hcast hpw0
        go_wp2
        go_ret
        exact ⟨rfl, rfl⟩
  · obtain rfl : b = false := by
      rcases HBB.out with ⟨_, h⟩ | ⟨h, _⟩
      · exact absurd h.1 hlen
      · exact h
    have d0 : decide (300 < l.length) = true := decide_eq_true (by omega)
    have d0' : decide ((300 : Int) < (l.length : Int)) = true := decide_eq_true (by omega)
    go_enter Try.func58, Try.ntmps58
    go_wp2
    go_ret
    exact ⟨rfl, rfl⟩
set_option maxRecDepth 100000 in
set_option maxHeartbeats 1000000 in
theorem p_Clone (l : List Nat) (v : Value) (w : World) (hl : l.length ≤ 1000000) (hS : Sl w 1 v (rowsN l)) (hnil : v = .slice none 0 0 ∨ ∃ ad n c, v = .slice (some ad) n c) :
    Calls Try.prog 60 #[v] w fun e w' => ∃ v', e = .returned v' ∧ OwnR w' w.heap.size 3 1 v' (rowsN l) ∧ Below w.heap.size w w' := by
  obtain ⟨i0, hi0, hz0, hz1, hz2⟩ := info_parts2 info_int
  obtain ⟨p, cap, rfl⟩ := hS.isSlice
  rw [rowsN_len] at *
  rcases hnil with hv | ⟨ad, n, c, hv⟩
  · simp only [Value.slice.injEq] at hv
    obtain ⟨rfl, h0, rfl⟩ := hv
    have hl0 : l = [] := List.eq_nil_of_length_eq_zero h0
    subst hl0
    have hfin := OwnR.nil w w.heap.size 3 1
    have HF := Lib.hid hfin
    clear hfin hS h0
    simp only [List.length_nil]
    have he : ∀ w : World, (binOp .eql 35 (.slice none 0 0) (.slice none 0 0)).run Try.prog w = .ok (.bool true) w := fun _ => rfl
    go_enter Try.func60, Try.ntmps60
    go_wp2
    go_ret
    exact ⟨_, rfl, HF.out, Below.refl _ _⟩
  · simp only [Value.slice.injEq] at hv
    obtain ⟨rfl, rfl, rfl⟩ := hv
    have k0 := OwnR.empty w w.heap.size 3 1 (Nat.le_refl _)
    have kb := (Below.refl w.heap.size w).alloc (Nat.le_refl _) (.cells #[] 3)
    have hnew := hS.alloc (.cells #[] 3)
    have hone : ∀ r ∈ rowsN l, ∀ u ∈ r, u.oneCell' = true := fun r hr u hu => by
      simp only [rowsN, List.mem_map] at hr
      obtain ⟨n, _, rfl⟩ := hr
      rw [List.mem_singleton.1 hu]
      rfl
    have hlen : ([] : List (List Value)).length + (rowsN l).length ≤ maxLen := by rw [rowsN_len, List.length_nil]; unfold maxLen; omega
    have hby : (([] : List (List Value)).length + (rowsN l).length) * 8 ≤ 140737488355328 := by rw [rowsN_len, List.length_nil]; omega
    have K0 := Lib.hid k0
    have KB := Lib.hid kb
    have HN := Lib.hid hnew
    have HO := Lib.hid hone
    have HL := Lib.hid hlen
    have HBY := Lib.hid hby
    have HSZ : Hid (w.heap.size ≤ (w.alloc (.cells #[] 3)).heap.size) := Lib.hid (kb.size)
    clear k0 kb hnew hone hlen hby hS
    have he : ∀ w : World, (binOp .eql 35 (.slice (some ad) l.length cap) (.slice none 0 0)).run Try.prog w = .ok (.bool false) w := fun _ => rfl
    go_enter Try.func60, Try.ntmps60
    go_wp2_with (refine wpList_append_rows rfl _ _ 35 rfl w.heap.size 3 i0 (.int .i64 0) 1 8 Try.underlying35 hi0 hz0 hz1 hz2 rfl (by decide) _ [] rfl K0.out _ (rowsN l) rfl HN.out HO.out HL.out HBY.out HSZ.out (.inr ⟨_, _, _, rfl⟩) ?_; intro v' w5 ho5 hg5 hv5)
    have gb5 := KB.out.grown hg5 HSZ.out (fun k e => (K0.out.lt k e).1)
    go_ret
    exact ⟨_, rfl, ho5, gb5⟩
/-- a row of numbers of the call's own lies in a block, with more behind it -/
theorem OwnR.blkN {w : World} {base : Nat} {e : TypeId} {v : Value} {l : List Nat} (h : OwnR w base e 1 v (rowsN l)) (h0 : 0 < l.length) :
    ∃ g cap rest, v = .slice (some ⟨g, 0, none⟩) l.length cap ∧ base ≤ g ∧ g < w.heap.size ∧ Blk w g e (ints .i64 (nn l) ++ rest) ∧ ∀ (w' : World) (l' : List Nat), l'.length = l.length → Blk w' g e (ints .i64 (nn l') ++ rest) → OwnR w' base e 1 v (rowsN l') := by
  have fl : ∀ l : List Nat, (rowsN l).flatten = ints .i64 (nn l) := fun l => by
    induction l with
    | nil => rfl
    | cons n l ih =>
      have e : rowsN (n :: l) = [.int .i64 (n : Int)] :: rowsN l := rfl
      rw [e, List.flatten_cons, ih]
      rfl
  have ln : ∀ l : List Nat, (ints .i64 (nn l)).length = l.length := fun l => by rw [ints_length, nn_length]
  obtain ⟨k0, k1, k2⟩ := h
  rw [rowsN_len, fl] at k1 k2
  rcases k2 with ⟨hv, hn⟩ | ⟨g, cap, cur, hv, hg, hh, hn, hm, hcs, htk⟩
  · omega
  · have e0 : cur.toList = ints .i64 (nn l) ++ cur.toList.drop (l.length * 1) := by rw [← htk, List.take_append_drop]
    refine ⟨g, cap, cur.toList.drop (l.length * 1), hv, hg, ?_, ?_, fun w' l' hl hb => ?_⟩
    · rcases Nat.lt_or_ge g w.heap.size with hb | hb
      · exact hb
      · rw [Array.getElem?_eq_none hb] at hh; cases hh
    · unfold Blk
      rw [← e0]
      exact hh
    · refine ⟨fun r hr => ?_, ?_, .inr ⟨g, cap, (ints .i64 (nn l') ++ cur.toList.drop (l.length * 1)).toArray, ?_, hg, hb, ?_, hm, ?_, ?_⟩⟩
      · simp only [rowsN, List.mem_map] at hr
        obtain ⟨n, _, rfl⟩ := hr
        rfl
      · rw [rowsN_len, fl, ln, Nat.mul_one]
      · rw [rowsN_len, hl]; exact hv
      · rw [rowsN_len, hl]; exact hn
      · have hc : cur.toList.length = (ints .i64 (nn l) ++ cur.toList.drop (l.length * 1)).length := by rw [← e0]
        rw [← hcs]
        simp only [List.size_toArray, List.length_append, ln] at hc ⊢
        rw [hl, ← hc]
        simp
      · rw [rowsN_len, fl, Nat.mul_one, List.take_left' (by rw [ln])]
theorem ints_setR (l : List Nat) (rest : List Value) {j : Nat} (h : j < l.length) (x : Nat) : (ints .i64 (nn l) ++ rest).set j (.int .i64 (x : Int)) = ints .i64 (nn (l.set j x)) ++ rest := by
  rw [List.set_append_left _ _ (by rw [ints_length, nn_length]; exact h), ints_set, nn_set]
theorem Blk.natR {w : World} {g : Nat} {t : TypeId} {l : List Nat} {rest : List Value} (h : Blk w g t (ints .i64 (nn l) ++ rest)) {j : Nat} (hj : j < l.length) : w.cell? ⟨g, j, none⟩ = some (.int .i64 ((l.getD j 0 : Nat) : Int)) := by
  rw [h.cell, List.getElem?_append_left (by rw [ints_length, nn_length]; exact hj), ints_get _ _ _ (by rw [nn_length]; exact hj), nn_getD]
/-- the first j as half of them and 1 -/
def halfF (fr : List Nat) (j : Nat) : List Nat := halveF (fr.take j) ++ fr.drop j
theorem halfF_len (fr : List Nat) (j : Nat) : (halfF fr j).length = fr.length := by
  unfold halfF
  rw [List.length_append, halveF_len, List.length_take, List.length_drop]
  omega
theorem halfF_getD (fr : List Nat) (j i : Nat) (hj : j ≤ fr.length) : (halfF fr j).getD i 0 = if i < j then (fr.getD i 0 + 1) / 2 else fr.getD i 0 := by
  unfold halfF
  have hl : (halveF (fr.take j)).length = j := by rw [halveF_len, List.length_take]; omega
  rw [getD_app, hl]
  split
  · rename_i h; rw [halveF_getD, getD_take _ _ _ h]
  · rename_i h; rw [getD_drop]; congr 1; omega
theorem halfF_step (fr : List Nat) (j : Nat) (hj : j < fr.length) : (halfF fr j).set j ((fr.getD j 0 + 1) / 2) = halfF fr (j + 1) := by
  refine getD_ext fr.length (by rw [List.length_set, halfF_len]) (halfF_len _ _) fun i hi => ?_
  rw [getD_set _ _ _ _ (by rw [halfF_len]; exact hj), halfF_getD _ _ _ (by omega), halfF_getD _ _ _ (by omega)]
  by_cases e : j = i
  · subst e
    rw [if_pos rfl, if_pos (by omega)]
  · rw [if_neg e]
    by_cases h : i < j
    · rw [if_pos h, if_pos (by omega)]
    · rw [if_neg h, if_neg (by omega)]
theorem halfF_zero (fr : List Nat) : halfF fr 0 = fr := rfl
theorem halfF_all (fr : List Nat) : halfF fr fr.length = halveF fr := by
  unfold halfF
  rw [List.take_length, List.drop_length, List.append_nil]
set_option maxRecDepth 100000 in
set_option maxHeartbeats 1000000 in
theorem p_halve (base : Nat) (fr : List Nat) (v : Value) (w : World) (hl : fr.length ≤ 300) (hf : ∀ i, fr.getD i 0 ≤ 1048576) (ho : OwnR w base 3 1 v (rowsN fr)) :
    Calls Try.prog 63 #[v] w fun e w' => e = .returned (.tuple #[]) ∧ OwnR w' base 3 1 v (rowsN (halveF fr)) ∧ w.grownBy w' v.ownBlock := by
  by_cases h0 : 0 < fr.length
  · obtain ⟨g, cap, rest, rfl, hg, hgl, hB, hback⟩ := ho.blkN h0
    have hT : Turned w w g 3 (ints .i64 (nn (halfF fr 0)) ++ rest) := Turned.refl hB
    have HT := Lib.hid hT
    have HB := Lib.hid hback
    have HF := Lib.hid hf
    obtain ⟨n, hn⟩ : ∃ n, fr.length = n := ⟨_, rfl⟩
    have HN := Lib.hid hn
    rw [hn] at hl ⊢
    clear hT hback hB ho hf hn
    go_enter Try.func63, Try.ntmps63
    go_wp2
    go_loopw [6] (fun i wr => ∃ j : Nat, j ≤ n ∧ i = .int .i64 (j : Int) ∧ Turned w wr g 3 (ints .i64 (nn (halfF fr j)) ++ rest)) (fun i _ => n - (intOf i).toNat)
    case atStart => exact ⟨0, by omega, rfl, HT.out⟩
    case round =>
      obtain ⟨j, hj, rfl, gt⟩ := hrel
      clear HT
      by_cases hlt : j < n
      · have d1 : (j : Int) < (n : Int) := by omega
        have hjl : j < (halfF fr j).length := by rw [halfF_len]; have := HN.out; omega
        have c1 := gt.2.natR hjl
        rw [halfF_getD _ _ _ (by have := HN.out; omega), if_neg (by omega)] at c1
        have f1 := gt.2.free j
        have hst := halfF_step fr j (by have := HN.out; omega)
        have hfj := HF.out j
        obtain ⟨x, hx⟩ : ∃ x, fr.getD j 0 = x := ⟨_, rfl⟩
        rw [hx] at c1 hst hfj
        obtain ⟨y, hy⟩ : ∃ y, (x + 1) / 2 = y := ⟨_, rfl⟩
        have T := gt.put j (.int .i64 (y : Int))
        rw [ints_setR _ _ hjl, ← hy, hst] at T
        have e1 : ((x : Int) + 1) / 2 = (((x + 1) / 2 : Nat) : Int) := by omega
        have i1 : (0 : Int) ≤ (x : Int) + 1 := by omega
        have i2 : (x : Int) + 1 ≤ 1048577 := by omega
        rw [hy] at e1 T
        have T := Lib.hid T
        clear hst hx hy gt
        go_wp2
        go_roundw
        case rel => exact ⟨j + 1, by omega, by go_num, T.out⟩
        case measure => (simp [intOf]; try omega)
      · obtain rfl : j = n := by omega
        have hj2 := HN.out
        subst hj2
        rw [halfF_all] at gt
        have hfin := HB.out wr (halveF fr) (halveF_len fr) gt.2
        have HFIN := Lib.hid hfin
        have HG := Lib.hid gt.1
        clear gt hfin
        go_wp2
        go_end0
        exact ⟨rfl, HFIN.out, HG.out⟩
  · have hl0 : fr = [] := List.eq_nil_of_length_eq_zero (by omega)
    subst hl0
    obtain ⟨p, cap, rfl⟩ := ho.sl.isSlice
    have HO := Lib.hid ho
    clear ho hf h0
    have el : (rowsN []).length = 0 := rfl
    rw [el] at HO ⊢
    go_enter Try.func63, Try.ntmps63
    go_wp2
    go_loop [6] (fun i => i = .int .i64 0) (fun _ => 0)
    case atStart => rfl
    case round =>
      subst hrel
      go_wp2
      go_end0
      exact ⟨rfl, HO.out, ⟨rfl, rfl, rfl, Nat.le_refl _, fun _ _ _ => rfl⟩⟩
end Go.Proofs.Ytpjihjbgihionaa
namespace Go.Proofs.Ytpjihjbgihionaa
open Go.RowKit
set_option linter.unusedVariables false

theorem usedI_nn (fr : List Nat) : usedI (nn fr) = (treesF fr).length := by
  have e : fr = (List.range fr.length).map fun i => fr.getD i 0 := getD_ext fr.length rfl (by simp) fun j hj => by rw [map_range_getD _ _ _ hj]
  unfold usedI treesF nn
  rw [List.length_map]
  conv => lhs; rw [e]
  rw [List.map_map, List.filter_map, List.length_map]
  congr 1
  refine List.filter_congr fun i _ => ?_
  simp
theorem comes_nn {fr : List Nat} (h : ∀ x ∈ nn fr, Comes x) (i : Nat) : fr.getD i 0 ≤ 1048576 := by
  rcases Nat.lt_or_ge i fr.length with hi | hi
  · have h1 := h ((fr.getD i 0 : Nat) : Int) (List.mem_map.2 ⟨_, getD_mem _ _ hi, rfl⟩)
    have := h1.2
    omega
  · rw [List.getD_eq_getElem?_getD, List.getElem?_eq_none (by omega)]
    exact Nat.zero_le _
theorem Blk.slN {w : World} {g : Nat} {t : TypeId} {l : List Nat} (h : Blk w g t (ints .i64 (nn l))) (cap : Nat) : Sl w 1 (.slice (some ⟨g, 0, none⟩) l.length cap) (rowsN l) := by
  refine ⟨fun r hr => ?_, some ⟨g, 0, none⟩, cap, by rw [rowsN_len], fun i r hr => ⟨_, rfl, h.lt, fun j x hx => ?_⟩⟩
  · simp only [rowsN, List.mem_map] at hr
    obtain ⟨n, _, rfl⟩ := hr
    rfl
  · have hi : i < l.length := by have := (List.getElem?_eq_some_iff.1 hr).1; rwa [rowsN_len] at this
    rw [rowsN_at hi] at hr
    cases hr
    match j, hx with
    | 0, hx =>
      cases hx
      rw [Addr.add_mid, Nat.mul_one, Nat.zero_add, Nat.add_zero]
      exact h.nat hi
/-- a row of numbers and an error -/
def IntsRet2 (l : List Nat) (w : World) (e : Ending) (w' : World) : Prop := ∃ g, e = .returned (.tuple #[.slice (some ⟨g, 0, none⟩) l.length l.length, .int .i64 0]) ∧ Blk w' g 3 (ints .i64 (nn l)) ∧ w.heap.size ≤ g ∧ Below w.heap.size w w'
set_option maxRecDepth 100000 in
set_option maxHeartbeats 1000000 in
theorem p_Lengths_no (l : List Int) (x : Int) (p : Option Addr) (cap : Nat) (w : World) (hl : l.length ≤ 1000000) (hS : Sl w 1 (.slice p l.length cap) (rowsI l)) (hno : ¬ (1 ≤ x ∧ x ≤ 15 ∧ MayC l x.toNat)) :
    Calls Try.prog 32 #[.slice p l.length cap, .int .i64 x] w fun e w' => e = .returned (.tuple #[.slice none 0 0, .int .i64 1]) ∧ Below w.heap.size w w' := by
  have hb1 := (Below.refl w.heap.size w).alloc (Nat.le_refl _) (.cells #[.int .i64 x] 3)
  have HB := Lib.hid hb1
  by_cases h1 : x < 1
  · have d1 : decide (x < 1) = true := decide_eq_true h1
    clear hno hS hb1
    go_enter Try.func32, Try.ntmps32
    go_wp2
    go_ret2
    exact ⟨rfl, HB.out⟩
  · have d1 : decide (x < 1) = false := decide_eq_false h1
    by_cases h2 : 15 < x
    · have d2 : decide (15 < x) = true := decide_eq_true h2
      clear hno hS hb1
      go_enter Try.func32, Try.ntmps32
      go_wp2
      go_ret2
      exact ⟨rfl, HB.out⟩
    · have d2 : decide (15 < x) = false := decide_eq_false h2
      obtain ⟨lim, rfl⟩ : ∃ lim : Nat, x = (lim : Int) := ⟨x.toNat, by omega⟩
      have hM := p_mayCome l lim p cap _ hl (by omega) (by omega) (hS.below hb1) false (.inr ⟨rfl, fun h => hno ⟨by omega, by omega, h⟩⟩)
      have HM := Lib.hid hM
      clear hno hS hb1 hM
      go_enter Try.func32, Try.ntmps32
      go_wp2_with fail
      (with_reducible refine HM.out.mono ?_)
      rintro e w9 ⟨rfl, rfl⟩
      go_wp2
      go_ret2
      exact ⟨rfl, HB.out⟩
/-- how far it is -/
def LensAt (w : World) (lim n base LB : Nat) (R : List Nat) (gk : Nat) (u : Value) (wr : World) : Prop := ∃ fr, lensF lim gk fr = R ∧ fr.length = n ∧ (treesF fr).length ≤ 2 ^ lim ∧ (∀ i, fr.getD i 0 ≤ 2 ^ gk) ∧ gk ≤ 20 ∧ OwnR wr base 3 1 u (rowsN fr) ∧ Blk wr LB 3 [.int .i64 (lim : Int)] ∧ Below w.heap.size w wr
set_option maxRecDepth 100000 in
set_option maxHeartbeats 2000000 in
theorem p_Lengths_yes (fr : List Nat) (lim : Nat) (v : Value) (w : World) (h1 : 1 ≤ lim) (h2 : lim ≤ 15) (hM : MayC (nn fr) lim) (hS : Sl w 1 v (rowsN fr)) (hnil : v = .slice none 0 0 ∨ ∃ ad n c, v = .slice (some ad) n c) :
    Calls Try.prog 32 #[v, .int .i64 (lim : Int)] w (IntsRet2 (lensF lim 20 fr) w) := by
  have hfl : fr.length ≤ 300 := by have := hM.1; rwa [nn_length] at this
  obtain ⟨w1, hw1⟩ : ∃ w1, w.alloc (.cells #[.int .i64 (lim : Int)] 3) = w1 := ⟨_, rfl⟩
  have hb1 : Below w.heap.size w w1 := by rw [← hw1]; exact (Below.refl _ _).alloc (Nat.le_refl _) _
  have hLB : Blk w1 w.heap.size 3 [.int .i64 (lim : Int)] := by rw [← hw1]; exact Blk.new' w _ _ rfl
  have hz1 : w1.heap.size = w.heap.size + 1 := by rw [← hw1]; simp
  have hC := p_Clone fr v w1 (by omega) (hS.below hb1) hnil
  have hMC := p_mayCome (nn fr) lim
  obtain ⟨p, cap, rfl⟩ := hS.isSlice
  rw [rowsN_len] at *
  have hM1 := hMC p cap w1 (by rw [nn_length]; omega) h1 h2 (by rw [nn_length, rowsI_nn]; exact hS.below hb1) true (.inl ⟨rfl, hM⟩)
  rw [nn_length] at hM1
  have d1 : decide ((lim : Int) < 1) = false := decide_eq_false (by omega)
  have d2 : decide ((15 : Int) < (lim : Int)) = false := decide_eq_false (by omega)
  have hmf := mkf
  have hat : ∀ w2 v', OwnR w2 w1.heap.size 3 1 v' (rowsN fr) → Below w1.heap.size w1 w2 → LensAt w lim fr.length w1.heap.size w.heap.size (lensF lim 20 fr) 20 v' w2 := fun w2 v' ho hb => ⟨fr, rfl, rfl, by rw [← usedI_nn]; exact hM.2.2, fun i => comes_nn hM.2.1 i, Nat.le_refl _, ho, hLB.below hb hLB.lt, hb1.trans (hb.mono hb1.size)⟩
  have HAT := Lib.hid hat
  have HC := Lib.hid hC
  have HM1 := Lib.hid hM1
  have HZ1 := Lib.hid hz1
  have HRL := Lib.hid (lensF_len lim 20 fr)
  have c1 := hLB.cell 0
  simp only [List.getElem?_cons_zero] at c1
  have HW1 := Lib.hid hw1
  generalize lensF lim 20 fr = R at *
  obtain ⟨n, hn⟩ : ∃ n, fr.length = n := ⟨_, rfl⟩
  have HNN := Lib.hid hn
  rw [hn] at hfl HAT HC HM1 HRL ⊢
  have hlim : lim ≤ 15 := h2
  clear hS hM hC hM1 hMC hat hLB hb1 hz1 hnil hn h2
  go_enter Try.func32, Try.ntmps32
  go_wp2_with fail
  (with_reducible refine HM1.out.mono ?_)
  rintro e w9 ⟨rfl, rfl⟩
  go_wp2_with fail
  (with_reducible refine HC.out.mono ?_)
  rintro e w2 ⟨v', rfl, ho2, hb2⟩
  have hat2 := HAT.out w2 v' ho2 hb2
  obtain ⟨p', cap', hv'⟩ := ho2.sl.isSlice
  rw [rowsN_len, HNN.out] at hv'
  subst hv'
  have HAT2 := Lib.hid hat2
  clear ho2 hb2 hat2 HAT HC HM1 c1 hw1 HW1
  generalize w1.heap.size = B at *
  go_wp2_with fail
  go_loopg [7] 20 (fun gk _ wr => LensAt w lim n B w.heap.size R gk (.slice p' n cap') wr)
  case atStart => exact HAT2.out
  case round =>
    obtain ⟨fr', hR, hln, ht, hf, hgk, ho, hLB, hb⟩ := hrel
    clear HAT2
    have hp20 : 2 ^ gk ≤ 2 ^ 20 := Nat.pow_le_pow_right (by decide) hgk
    have hS3 := ho.sl
    rw [← hln] at hS3
    have hD := p_depths fr' p' cap' wr (by omega) (fun i => by have := hf i; have e : (2 : Nat) ^ 20 = 1048576 := rfl; omega) hS3
    have hH := fun w3 (hb3 : Below wr.heap.size wr w3) => p_halve B fr' (.slice p' n cap') w3 (by omega) (fun i => by have := hf i; have e : (2 : Nat) ^ 20 = 1048576 := rfl; omega) (ho.keep hb3)
    have hkeep := fun w3 (hb3 : Below wr.heap.size wr w3) => (show Blk w3 w.heap.size _ _ from hLB.below hb3 hLB.lt)
    have hlt := ho.lt
    have hdl := depthsF_len fr'
    have HDL := Lib.hid hdl
    have HD := Lib.hid hD
    have HH := Lib.hid hH
    have HK := Lib.hid hkeep
    have HR := Lib.hid hR
    have HB := Lib.hid hb
    have HT := Lib.hid ht
    have HF := Lib.hid hf
    have HLT := Lib.hid hlt
    have HLN := Lib.hid hln
    rw [hln] at HD hdl
    clear hS3 hD hH hkeep hR hb ht hf hlt ho hLB hp20
    go_wp2_with fail
    (with_reducible refine HD.out.mono ?_)
    rintro e w3 ⟨g, rfl, hG, hg, hb3⟩
    rw [hdl]
    have hlb3 := HK.out w3 hb3
    have hsl := hG.slN n
    rw [hdl] at hsl
    have hgk2 : gk ≤ 20 := hgk
    by_cases hfit : fitsF fr' lim = true
    · have hall : ∀ d ∈ depthsF fr', d ≤ lim := of_decide_eq_true hfit
      have hH2 := pl_Has (nn (depthsF fr')) (some ⟨g, 0, none⟩) n w3 w.heap.size (lim : Int) hlb3 (by rw [nn_length]; omega) (by rw [nn_length, rowsI_nn, hdl]; exact hsl) false (.inr ⟨rfl, fun x hx => by
        obtain ⟨d, hd, rfl⟩ := List.mem_map.1 hx
        have := hall d hd
        unfold Lng
        omega⟩)
      rw [nn_length, hdl] at hH2
      have hRR := lensF_first (k := gk) hfit
      rw [HR.out] at hRR
      rw [← hRR] at hG
      have HH2 := Lib.hid hH2
      have HG := Lib.hid hG
      have hbf := HB.out.trans (hb3.mono HB.out.size)
      have HBF := Lib.hid hbf
      have hgf : w.heap.size ≤ g := Nat.le_trans HB.out.size hg
      clear hH2 hG hsl hlb3 hRR hall hbf hb3 HD HH HK HT HF HLT
      go_wp2_with fail
      (with_reducible refine HH2.out.mono ?_)
      rintro e w9 ⟨rfl, rfl⟩
      go_wp2
      go_ret2
      exact ⟨g, by rw [HRL.out]; rfl, HG.out, hgf, HBF.out⟩
    · have hk0 : gk ≠ 0 := fun e => hfit (by
        subst e
        exact fits_ones h1 HT.out (fun i => HF.out i))
      obtain ⟨gp, rfl⟩ : ∃ gp, gk = gp + 1 := ⟨gk - 1, by omega⟩
      have hex : ∃ x ∈ nn (depthsF fr'), Lng (lim : Int) x := by
        have hno : ¬ ∀ d ∈ depthsF fr', d ≤ lim := fun h => hfit (decide_eq_true h)
        obtain ⟨d, hd⟩ := Classical.not_forall.1 hno
        obtain ⟨hd1, hd2⟩ := Classical.not_imp.1 hd
        exact ⟨(d : Int), List.mem_map.2 ⟨d, hd1, rfl⟩, by unfold Lng; omega⟩
      have hH2 := pl_Has (nn (depthsF fr')) (some ⟨g, 0, none⟩) n w3 w.heap.size (lim : Int) hlb3 (by rw [nn_length]; omega) (by rw [nn_length, rowsI_nn, hdl]; exact hsl) true (.inl ⟨rfl, hex⟩)
      rw [nn_length, hdl] at hH2
      have HH2 := Lib.hid hH2
      have hhv := HH.out w3 hb3
      have HHV := Lib.hid hhv
      have HLB3 := Lib.hid hlb3
      have HB3 := Lib.hid hb3
      have hbf := HB.out.trans (hb3.mono HB.out.size)
      have HBF := Lib.hid hbf
      clear hH2 hG hsl hlb3 hex hbf hb3 hhv HD HH HK hk0
      go_wp2_with fail
      (with_reducible refine HH2.out.mono ?_)
      rintro e w9 ⟨rfl, rfl⟩
      go_wp2_with fail
      (with_reducible refine HHV.out.mono ?_)
      rintro e w4 ⟨rfl, ho4, hg4⟩
      have hRn : lensF lim gp (halveF fr') = R := by
        rw [← HR.out]
        exact (if_neg hfit).symm
      have hlb4 := HLB3.out.grownO hg4 (fun i hi => by have := (HLT.out i hi).1; have := HZ1.out; omega)
      have hb4 := HBF.out.grown hg4 HBF.out.size (fun i hi => by have := (HLT.out i hi).1; have := HZ1.out; omega)
      have ht4 : (treesF (halveF fr')).length ≤ 2 ^ lim := by rw [treesF_halve_len]; exact HT.out
      have hf4 : ∀ i, (halveF fr').getD i 0 ≤ 2 ^ gp := fun i => by
        have := HF.out i
        rw [halveF_getD]
        rw [Nat.pow_succ] at this
        omega
      have hfin : LensAt w lim n B w.heap.size R gp (.slice p' n cap') w4 := ⟨halveF fr', hRn, by rw [halveF_len]; exact HLN.out, ht4, hf4, by omega, ho4, hlb4, hb4⟩
      have HFIN := Lib.hid hfin
      clear hRn hlb4 hb4 ht4 hf4 hfin ho4 hg4 hfit
      go_wp2
      go_roundg gp
      case measure => omega
      case rel => exact HFIN.out
end Go.Proofs.Ytpjihjbgihionaa
