/- Walks of the journal's sectorsFor and of its frames, told one by one. -/
import Derived.Test.YtmonenbnjnjahaaYNf
import Derived.Test.YtmonenbnjnjahaaG1
import Derived.Test.YtmonenbnjnjahaaJ1
import Derived.IntWalk
namespace Go.Proofs.Ytmonenbnjnjahaa
open Go.RowKit Go.Shelf
set_option linter.unusedVariables false

attribute [local go_sem] Oper.semAt_some

theorem j_sectorsFor (z : Int) (h0 : 0 ≤ z) (h1 : z ≤ 1000000) (k : Nat) (hk : (z + 31) / 32 = (k : Int)) (w : World) :
    Calls Try.prog 22 #[.int .i64 z] w fun e w' => e = .returned (.int .i64 (k : Int)) ∧ w' = w := by
  have h2 : (z + 32 - 1).tdiv 32 = (k : Int) := by rw [Int.tdiv_eq_ediv_of_nonneg (by omega)]; omega
  have h3 : (z + 31).tdiv 32 = (k : Int) := by rw [Int.tdiv_eq_ediv_of_nonneg (by omega)]; omega
  have h4 : (k : Int) ≤ 1000000 := by omega
  have h5 : (0 : Int) ≤ (k : Int) := by omega
  clear hk
  go_enter Try.func22, Try.ntmps22
  go_wp2
  go_ret
  exact ⟨rfl, rfl⟩
set_option maxRecDepth 100000 in
set_option maxHeartbeats 2000000 in
/-- the iterator, for every body that keeps its block -/
theorem j_fr_in (n l G : Nat) (s : ByteArray) (m : Nat) (hm : s.size = 32 * m) (hs : m ≤ 1000) (J Jx : List (List Nat × Nat) → World → Prop) (hn : 2 ≤ n) (W : World) (hJ : AbidesFrom W.heap.size J)
    (hY : ∀ pre x W1, (x : List Nat × Nat).2 ≤ m → J pre W1 → pre.length < m → YieldAt Fence.wide (n - 1) Try.prog l #[.string (tx x.1), .int .i64 (x.2 : Int)] W1 fun e W' =>
      (e = .returned (.bool true) ∧ J (pre ++ [x]) W' ∧ (∀ o, W1.heap[G]? = some o → W'.heap[G]? = some o)) ∨ (e = .returned (.bool false) ∧ Jx (pre ++ [x]) W'))
    (hG : Blk W G 9 [.string s]) (h0 : J [] W) :
    CallsIn Fence.wide n Try.prog 36 #[.func (.yield l) #[] #[], .pointer (some ⟨G, 0, none⟩)] W fun e W' => (∃ v, e = .returned v) ∧
      ((∃ ys, ys = frJ (sl s) 0 ∧ J ys W') ∨ (∃ pre, True ∧ Jx pre W')) := by
  have HM := Lib.hid hm
  clear hm
  refine callsIn_of_wp Try.func36 rfl trivial ?_ rfl
  simp only [Try.ntmps36, List.size_toArray, List.length_cons, List.length_nil, Nat.reduceAdd, Nat.reduceSub, Array.replicate_succ, Array.replicate_zero, List.push_toArray, List.append_toArray, List.nil_append, List.cons_append]
  gi_wp2
  gi_loopw [3, 4, 5, 6] (fun v _ _ _ wr => ∃ (t : Nat) (pre : List (List Nat × Nat)), v = .int .i64 (t : Int) ∧ t ≤ m ∧ J pre wr ∧ Blk wr G 9 [.string s] ∧ frJ (sl s) 0 = pre ++ frJ (sl s) t ∧ pre.length ≤ t) (fun v _ _ _ _ => m + 1 - (intOf v).toNat)
  case atStart => exact ⟨0, [], rfl, Nat.zero_le _, h0, hG, rfl, Nat.le_refl _⟩
  case round =>
    obtain ⟨t, pre, rfl, ht, gJ, gG, hE, hlen⟩ := hrel
    have c1 := gG.cell 0
    simp only [List.getElem?_cons_zero] at c1
    obtain ⟨T, hT⟩ : ∃ T, s.extract (32 * t) s.size = T := ⟨_, rfl⟩
    have hTs : sl T = (sl s).drop (32 * t) := by rw [← hT, tail_tx, sl_tx ((sl_bys s).drop _)]
    have hTz : T.size ≤ 60000 := by
      have := sl_len T
      rw [hTs, List.length_drop, sl_len] at this
      have := HM.out
      omega
    have e1 : ((t : Int) * 32).toNat = 32 * t := by omega
    have e2 : (0 : Int) ≤ (t : Int) * 32 := by omega
    have e3 : (t : Int) * 32 ≤ (s.size : Int) := by have := HM.out; omega
    have e4 : (s.size : Int) ≤ 32000 := by have := HM.out; omega
    by_cases h : (firstK (sl T)).2.2 = 0
    · have hf : firstK (sl T) = ((firstK (sl T)).1, (firstK (sl T)).2.1, 0) := by rw [← h]
      obtain ⟨x, hx⟩ : ∃ x, (firstK (sl T)).1 = x := ⟨_, rfl⟩
      obtain ⟨r, hr⟩ : ∃ r, (firstK (sl T)).2.1 = r := ⟨_, rfl⟩
      rw [hx, hr] at hf
      have hi := (first_is hf).1
      have hst := frJ_step (s := sl s) (t := t) (x := x) (r := r) (by rw [← hTs]; exact hf)
      rw [hst] at hE
      have hp := secK_pos x.length
      have hk : 32 * t + (6 + x.length + r.length) = s.size := by
        rw [hTs, List.length_drop, sl_len] at hi
        omega
      obtain ⟨t', ht'⟩ : ∃ t', t + secK x.length = t' := ⟨_, rfl⟩
      rw [ht'] at hE
      have hle : t' ≤ m := by have := HM.out; rw [← ht']; unfold secK; omega
      have hgt : t < t' := by omega
      have hrz : (tx r).size = r.length := tx_size r
      have hS := fun w => j_sectorsFor ((s.size : Int) - ((tx r).size : Int)) (by have := HM.out; omega) (by omega) t' (by rw [hrz, ← ht']; unfold secK; omega) w
      have e5 : ((tx r).size : Int) ≤ (s.size : Int) := by omega
      have e6 : (0 : Int) ≤ ((tx r).size : Int) := by omega
      have HC := Lib.hid (fun w => k_First_ok T w hTz x r hf)
      have HS := Lib.hid hS
      have HE := Lib.hid hE
      have HT := Lib.hid hT
      clear hS hE hf hx hr h hi hp hst hTs hTz hT hk ht' hrz
      gi_wp2_with fail
      refine ⟨trivial, fun h => by simp [Fence.wide] at h, callsIn_wide.2 ?_⟩
      rw [HT.out]
      refine (HC.out _).mono ?_
      rintro e w1 ⟨rfl, hb1⟩
      have gJ1 := hJ _ wr _ none gJ (grown_below hb1) (fun r e => by cases e)
      have gG1 := gG.below hb1 gG.lt
      have c2 := gG1.cell 0
      simp only [List.getElem?_cons_zero] at c2
      have hz1 := hb1.size
      obtain ⟨fn, tmps, assign, body, hy, hR⟩ := hY pre (x, t') w1 hle gJ1 (by omega)
      dsimp only at hy
      generalize tx r = R at *
      generalize tx x = X at *
      clear gJ c1
      gi_wp2_with fail
      refine ⟨trivial, fun h => by simp [Fence.wide] at h, callsIn_wide.2 ((HS.out _).mono ?_)⟩
      rintro e w2 ⟨rfl, rfl⟩
      gi_wp2
      first | refine hR.mono ?_ | refine ⟨fun _ => by omega, hR.mono ?_⟩
      rintro e W3 (⟨rfl, hJ3, hG3⟩ | ⟨rfl, hJx3⟩)
      · have HG3 := Lib.hid (hG3 _ gG1)
        have HJ3 := Lib.hid hJ3
        clear hG3 hJ3
        gi_wp2
        go_roundw
        case rel => exact ⟨t', pre ++ [(x, t')], rfl, hle, HJ3.out, HG3.out, by rw [HE.out, List.append_assoc]; rfl, by simp; omega⟩
        case measure => simp [intOf]; omega
      · gi_wp2
        refine bodyPost_ret (results_none rfl _ _ _) rfl ?_
        exact ⟨⟨_, rfl⟩, .inr ⟨_, trivial, hJx3⟩⟩
    · have hC := fun w => k_First_no T w hTz h
      have HE : Hid (frJ (sl s) 0 = pre) := Lib.hid (by rw [hE, frJ_stop (by rw [← hTs]; exact h), List.append_nil])
      have hle := first_err (sl T)
      have HC := Lib.hid hC
      have HS := Lib.hid (fun w => j_sectorsFor (s.size : Int) (by omega) (by omega) m (by have := HM.out; omega) w)
      have HT := Lib.hid hT
      clear hC hE hTs hTz hT
      generalize (firstK (sl T)).2.2 = er at *
      have g1 : ((er : Int) != 0) = true := by simp; omega
      gi_wp2_with fail
      refine ⟨trivial, fun h => by simp [Fence.wide] at h, callsIn_wide.2 ?_⟩
      rw [HT.out]
      refine (HC.out _).mono ?_
      rintro e w1 ⟨rfl, hb1⟩
      have gJ1 := hJ _ wr _ none gJ (grown_below hb1) (fun r e => by cases e)
      have gG1 := gG.below hb1 gG.lt
      have c2 := gG1.cell 0
      simp only [List.getElem?_cons_zero] at c2
      clear c1 gJ
      gi_wp2_with fail
      refine ⟨trivial, fun h => by simp [Fence.wide] at h, callsIn_wide.2 ((HS.out _).mono ?_)⟩
      rintro e w2 ⟨rfl, rfl⟩
      gi_wp2
      refine ⟨fun f hf => (by cases hf), ?_⟩
      gi_wp2
      refine bodyPost_ret (results_none rfl _ _ _) rfl ?_
      exact ⟨⟨_, rfl⟩, .inl ⟨_, HE.out.symm, gJ1⟩⟩
end Go.Proofs.Ytmonenbnjnjahaa
