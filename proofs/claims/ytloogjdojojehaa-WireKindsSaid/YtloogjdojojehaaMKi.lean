/-
  What WireKinds is made of: its message, its closure (stage 18).
-/
import Derived.Test.YtloogjdojojehaaMF
import Derived.IntWalk
import Derived.ChangeOld
namespace Go.Proofs.Ytloogjdojojehaa
open Go.ChangeShapes Go.WideShapes Go.ChangeAt Go.RowKit
set_option linter.unusedVariables false

def kin (k f t n c l : Int) : MsgU := ⟨k, f, t, 0, 0, n, c, [], l, 0, 0, [], noV, zerN 32, ⟨#[]⟩⟩
theorem kin_may (k f t n c l : Int) : msgMayR (kin k f t n c l) = true ↔ ((1 ≤ k ∧ k ≤ 14) ∧ endM2 f = true ∧ endM2 t = true ∧ (0 ≤ n ∧ n ≤ 40) ∧ (0 ≤ c ∧ c ≤ 40) ∧ (0 ≤ l ∧ l ≤ 2)) := by
  have h1 : decide (([] : List (ReqU RawV)).length ≤ 40) = true := rfl
  have h2 : ([] : List (ReqU RawV)).all mayBeR = true := rfl
  have h3 : decide ((0 : Int) ≤ 0 ∧ (0 : Int) ≤ 1000) = true := rfl
  have h4 : decide (([] : List Nat).length ≤ 8) = true := rfl
  have h5 : mayR noV = true := by decide
  have h6 : decide ((⟨#[]⟩ : ByteArray).size ≤ 1000) = true := rfl
  unfold msgMayR kin
  dsimp only
  rw [h1, h2, h3, h4, h5, h6]
  simp only [Bool.and_eq_true, decide_eq_true_eq, Bool.and_true]
  constructor
  · rintro ⟨⟨⟨⟨⟨a, b⟩, c⟩, d⟩, e⟩, f⟩
    exact ⟨a, b, c, d, e, f.1, by omega⟩
  · rintro ⟨a, b, c, d, e, f⟩
    exact ⟨⟨⟨⟨⟨a, b⟩, c⟩, d⟩, e⟩, f.1, by omega⟩
def cK (k f t n c l : Int) : List Value := mC k f t 0 0 n c (.slice none 0 0) l 0 zR6 zH32 ⟨#[]⟩
theorem build_kin (k f t n c l : Int) (w : World) : (Instr.build 36 #[(0, .int .i64 k), (1, .int .i64 f), (2, .int .i64 t), (5, .int .i64 n), (6, .int .i64 c), (8, .int .i64 l)]).run Try.prog w = .ok (.agg (cK k f t n c l).toArray) w := by kernel_rfl
theorem cK_told (k f t n c l : Int) (w : World) : MsgTold w (.agg (cK k f t n c l).toArray) (kin k f t n c l) := ⟨.slice none 0 0, .slice none 0 0, zV, rfl, ⟨_, _, rfl⟩, ⟨[], Sl.none 8, rfl, fun i h => by cases h⟩, ⟨_, _, rfl⟩, Sl.none 1, VV.none w, zerN_len 32, Bys.of (l := zerN 32) fun x hx => by rw [zerN] at hx; rw [List.eq_of_mem_replicate hx]; decide⟩
theorem verI_no : VerIn noV := ⟨verS_no.1, by decide, by decide, by decide⟩
theorem kin_in {k f t n c l : Int} (h0 : (Lit.int .i64 k).wf = true) (h1 : (Lit.int .i64 f).wf = true) (h2 : (Lit.int .i64 t).wf = true) (h3 : (Lit.int .i64 n).wf = true) (h4 : (Lit.int .i64 c).wf = true) (h5 : (Lit.int .i64 l).wf = true) : MsgIn (kin k f t n c l) :=
  ⟨⟨by show 0 < _; decide, by show 0 < _; decide, by show 0 < _; decide⟩, ⟨⟨h0, h1, h2⟩, h3, h4, h5⟩, (fun r h => by cases h), by show 0 ≤ _; exact Nat.zero_le _, ⟨by show (Lit.int .i64 0).wf = true; decide, by show 0 ≤ _; exact Nat.zero_le _, (fun n h => by cases h), verI_no⟩, by show 0 ≤ _; exact Nat.zero_le _⟩
theorem kin_S (k f t n c l : Int) : MsgS (kin k f t n c l) := ⟨by show 0 ≤ _; exact Nat.zero_le _, (fun i h => by cases h), by show 0 ≤ _; exact Nat.zero_le _, verS_no, by show 0 ≤ _; exact Nat.zero_le _⟩
theorem kin_hash (k f t n c l : Int) : (kin k f t n c l).hash.length = 32 ∧ Bys (kin k f t n c l).hash := ⟨zerN_len 32, Bys.of (l := zerN 32) fun x hx => by rw [zerN] at hx; rw [List.eq_of_mem_replicate hx]; decide⟩

set_option maxRecDepth 100000 in
theorem kin_end (x : Int) (b : Bool) (w : World) (hb : endM2 x = b) :
    Calls Try.prog 16 #[.int .i64 x] w fun e w' => e = .returned (.bool b) ∧ w' = w := by
  unfold endM2 at hb
  by_cases c0 : x = 0
  · obtain rfl : true = b := by rw [← hb]; exact (decide_eq_true (by omega)).symm
    subst c0
    clear hb
    go_enter Try.func16, Try.ntmps16
    go_wp2_with (first | (go_skip) | fail)
    go_ret
    exact ⟨rfl, rfl⟩
  have g0 : (x == 0) = false := by simpa using c0
  by_cases c1 : x = 1
  · obtain rfl : true = b := by rw [← hb]; exact (decide_eq_true (by omega)).symm
    subst c1
    clear hb c0 g0
    go_enter Try.func16, Try.ntmps16
    go_wp2_with (first | (go_skip) | fail)
    go_ret
    exact ⟨rfl, rfl⟩
  have g1 : (x == 1) = false := by simpa using c1
  by_cases c2 : x = 2
  · obtain rfl : true = b := by rw [← hb]; exact (decide_eq_true (by omega)).symm
    subst c2
    clear hb c0 c1 g0 g1
    go_enter Try.func16, Try.ntmps16
    go_wp2_with (first | (go_skip) | fail)
    go_ret
    exact ⟨rfl, rfl⟩
  have g2 : (x == 2) = false := by simpa using c2
  by_cases c3 : x = 10
  · obtain rfl : true = b := by rw [← hb]; exact (decide_eq_true (by omega)).symm
    subst c3
    clear hb c0 c1 c2 g0 g1 g2
    go_enter Try.func16, Try.ntmps16
    go_wp2_with (first | (go_skip) | fail)
    go_ret
    exact ⟨rfl, rfl⟩
  have g3 : (x == 10) = false := by simpa using c3
  by_cases c4 : x = 11
  · obtain rfl : true = b := by rw [← hb]; exact (decide_eq_true (by omega)).symm
    subst c4
    clear hb c0 c1 c2 c3 g0 g1 g2 g3
    go_enter Try.func16, Try.ntmps16
    go_wp2_with (first | (go_skip) | fail)
    go_ret
    exact ⟨rfl, rfl⟩
  have g4 : (x == 11) = false := by simpa using c4
  by_cases c5 : x = 12
  · obtain rfl : true = b := by rw [← hb]; exact (decide_eq_true (by omega)).symm
    subst c5
    clear hb c0 c1 c2 c3 c4 g0 g1 g2 g3 g4
    go_enter Try.func16, Try.ntmps16
    go_wp2_with (first | (go_skip) | fail)
    go_ret
    exact ⟨rfl, rfl⟩
  have g5 : (x == 12) = false := by simpa using c5
  obtain rfl : false = b := by rw [← hb]; exact (decide_eq_false (by omega)).symm
  clear hb
  go_enter Try.func16, Try.ntmps16
  go_wp2_with (first | (go_skip) | fail)
  go_ret
  exact ⟨rfl, rfl⟩
end Go.Proofs.Ytloogjdojojehaa
