/- The reference's trees: rows of a weight and symbols; walks of lightest and take. -/
import Derived.Test.YtpjdlkbpnodcdaaPRCo
namespace Go.Proofs.Ytpjdlkbpnodcdaa
open Go.RowKit
set_option linter.unusedVariables false

/-- a tree: its weight, its number, its symbols, and where they lie -/
structure RT where
  wt : Nat
  tag : Nat
  syms : List Nat
  g : Nat
  cap : Nat
def RT.key (t : RT) : Nat × Nat := (t.wt, t.tag)
def RT.v (t : RT) : Value := .slice (some ⟨t.g, 0, none⟩) t.syms.length t.cap
def RT.row (t : RT) : List Value := [.int .i64 (t.wt : Int), t.v]
def rowsT (T : List RT) : List (List Value) := T.map RT.row
theorem rowsT_len (T : List RT) : (rowsT T).length = T.length := by simp [rowsT]
theorem rowsT_at {T : List RT} {j : Nat} {t : RT} (h : T[j]? = some t) : (rowsT T)[j]? = some t.row := by simp [rowsT, h]
/-- the lightest one's place, among the first j -/
def lgt (l : List (Nat × Nat)) : Nat → Nat
  | 0 => 0
  | j + 1 => if (l.getD j (0, 0)).1 < (l.getD (lgt l j) (0, 0)).1 then j else lgt l j
theorem lgt_le (l : List (Nat × Nat)) : ∀ j, lgt l (j + 1) ≤ j
  | 0 => by unfold lgt; split <;> simp [lgt]
  | j + 1 => by
    have := lgt_le l j
    unfold lgt
    split <;> omega
theorem light_snoc {l : List (Nat × Nat)} (u : Nat × Nat) (h : l ≠ []) : light (l ++ [u]) = if u.1 < (light l).1 then u else light l := by
  match l, h with
  | t :: l, _ =>
    show (l ++ [u]).foldl _ t = _
    rw [List.foldl_append]
    rfl
theorem take_ne {l : List (Nat × Nat)} {j : Nat} (h : j < l.length) : l.take (j + 1) ≠ [] := fun e0 => by
  have h9 : (l.take (j + 1)).length = 0 := by rw [e0]; rfl
  rw [List.length_take] at h9
  omega
theorem lgt_light {l : List (Nat × Nat)} : ∀ j, j < l.length → l.getD (lgt l (j + 1)) (0, 0) = light (l.take (j + 1))
  | 0, h => by
    match l, h with
    | t :: l, h =>
      have : lgt (t :: l) 1 = 0 := Nat.le_zero.1 (lgt_le (t :: l) 0)
      rw [this]
      rfl
  | j + 1, h => by
    have ih := lgt_light (l := l) j (by omega)
    have e : l.take (j + 1 + 1) = l.take (j + 1) ++ [l.getD (j + 1) (0, 0)] := by
      rw [List.take_add_one, List.getElem?_eq_getElem h, List.getD_eq_getElem?_getD, List.getElem?_eq_getElem h]
      rfl
    rw [e, light_snoc _ (take_ne (by omega)), ← ih]
    conv => lhs; unfold lgt
    split
    · rfl
    · rfl
theorem lgt_all {l : List (Nat × Nat)} (h : 0 < l.length) : l.getD (lgt l l.length) (0, 0) = light l := by
  obtain ⟨n, hn⟩ : ∃ n, l.length = n + 1 := ⟨l.length - 1, by omega⟩
  have := lgt_light (l := l) n (by omega)
  rw [← hn, List.take_length] at this
  exact this
theorem lgt_lt {l : List (Nat × Nat)} (h : 0 < l.length) : lgt l l.length < l.length := by
  obtain ⟨n, hn⟩ : ∃ n, l.length = n + 1 := ⟨l.length - 1, by omega⟩
  rw [hn]
  have := lgt_le l n
  omega
theorem erase_idx {l : List (Nat × Nat)} : ∀ {i : Nat}, l.Nodup → i < l.length → l.erase (l.getD i (0, 0)) = l.eraseIdx i := by
  induction l with
  | nil => intro i _ h; simp at h
  | cons t l ih =>
    intro i hn h
    have h1 := List.nodup_cons.1 hn
    match i with
    | 0 => simp
    | i + 1 =>
      have hi : i < l.length := by simpa using h
      have hm : l.getD i (0, 0) ∈ l := by
        rw [List.getD_eq_getElem?_getD, List.getElem?_eq_getElem hi]
        exact List.getElem_mem hi
      have hne : t ≠ l.getD i (0, 0) := fun e => h1.1 (by rw [e]; exact hm)
      show (t :: l).erase (l.getD i (0, 0)) = t :: l.eraseIdx i
      rw [List.erase_cons_tail (by simpa using hne), ih h1.2 hi]
set_option maxRecDepth 100000 in
set_option maxHeartbeats 1000000 in
theorem r_lightest (T : List RT) (p : Option Addr) (cap : Nat) (w : World) (hl : T.length ≤ 1000000) (hS : Sl w 2 (.slice p T.length cap) (rowsT T)) (h0 : 0 < T.length) :
    Calls Try.prog 50 #[.slice p T.length cap] w fun e w' => e = .returned (.int .i64 ((lgt (T.map RT.key) T.length : Nat) : Int)) ∧ ∃ n, w' = w.drewN n := by
  have hcell : ∀ j, j < T.length → ∃ a : Addr, p = some a ∧ w.cell? (a.add (j * 2)) = some (.int .i64 ((((T.map RT.key).getD j (0, 0)).1 : Nat) : Int)) := fun j hj => by
    obtain ⟨a, e, hc⟩ := hS.row (rowsT_at (List.getElem?_eq_getElem hj))
    refine ⟨a, e, ?_⟩
    have := hc 0 _ rfl
    rw [show (a.add (j * 2)).add 0 = a.add (j * 2) from rfl] at this
    rw [this]
    simp [RT.key, hj]
  have hst : ∀ j, lgt (T.map RT.key) (j + 1) = if ((T.map RT.key).getD j (0, 0)).1 < ((T.map RT.key).getD (lgt (T.map RT.key) j) (0, 0)).1 then j else lgt (T.map RT.key) j := fun j => rfl
  have hle := fun j => lgt_le (T.map RT.key) j
  have h1 : lgt (T.map RT.key) 1 = 0 := Nat.le_zero.1 (hle 0)
  generalize lgt (T.map RT.key) = G at *
  have HC := Lib.hid hcell
  have HST := Lib.hid hst
  have HLE := Lib.hid hle
  have H1 := Lib.hid h1
  clear hS hcell hst hle h1
  go_enter Try.func50, Try.ntmps50
  go_wp2
  go_loopw [3, 4] (fun at' i wr => ∃ j n : Nat, 1 ≤ j ∧ j ≤ T.length ∧ i = .int .i64 (j : Int) ∧ at' = .int .i64 ((G j : Nat) : Int) ∧ wr = w.drewN n) (fun _ i _ => T.length - (intOf i).toNat)
  case atStart => exact ⟨1, 0, by omega, by omega, rfl, by rw [H1.out]; rfl, rfl⟩
  case round =>
    obtain ⟨j, n, hj1, hj, rfl, rfl, rfl⟩ := hrel
    by_cases hlt : j < T.length
    · have d1 : (j : Int) < (T.length : Int) := by omega
      obtain ⟨a, rfl, c1⟩ := HC.out j hlt
      have hgj : G j < T.length := by
        obtain ⟨k, rfl⟩ : ∃ k, j = k + 1 := ⟨j - 1, by omega⟩
        have := HLE.out k
        omega
      obtain ⟨a', ha', c2⟩ := HC.out (G j) hgj
      cases ha'
      have hst := HST.out j
      obtain ⟨k, hk⟩ : ∃ k, G j = k := ⟨_, rfl⟩
      rw [hk] at c2 hst hgj ⊢
      obtain ⟨x, hx⟩ : ∃ x, ((T.map RT.key).getD j (0, 0)).1 = x := ⟨_, rfl⟩
      obtain ⟨y, hy⟩ : ∃ y, ((T.map RT.key).getD k (0, 0)).1 = y := ⟨_, rfl⟩
      rw [hx] at c1 hst
      rw [hy] at c2 hst
      have i1 : (k : Int) < (T.length : Int) := by omega
      have HST1 := Lib.hid hst
      clear hx hy hst hk
      by_cases hxy : x < y
      · have t1 : (x : Int) < (y : Int) := by omega
        have t1n : decide (x < y) = true := decide_eq_true hxy
        go_wp2_with fail
        go_quiet (fail)
        go_wp2
        go_roundw
        case rel => exact ⟨j + 1, _, by omega, by omega, by go_num, by rw [HST1.out, if_pos hxy], rfl⟩
        case measure => simp [intOf]; omega
      · have t1 : decide ((x : Int) < (y : Int)) = false := decide_eq_false (by omega)
        have t1n : decide (x < y) = false := decide_eq_false hxy
        go_wp2_with fail
        go_quiet (fail)
        go_wp2
        go_roundw
        case rel => exact ⟨j + 1, _, by omega, by omega, by go_num, by rw [HST1.out, if_neg hxy], rfl⟩
        case measure => simp [intOf]; omega
    · obtain rfl : j = T.length := by omega
      go_wp2
      go_ret
      exact ⟨rfl, _, rfl⟩
end Go.Proofs.Ytpjdlkbpnodcdaa
