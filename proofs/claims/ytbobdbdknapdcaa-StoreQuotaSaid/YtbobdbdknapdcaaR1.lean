/- The walk of the reference's fill. -/
import Derived.Test.YtbobdbdknapdcaaG1
import Derived.Test.YtbobdbdknapdcaaD5
namespace Go.Proofs.Ytbobdbdknapdcaa
open Go.RowKit
set_option linter.unusedVariables false

theorem lowB_get (x : Nat) : ∀ (n t : Nat), t < n → (lowB x n).getD t 0 = ((x / 256 ^ (n - 1 - t) % 256 : Nat) : Int)
  | n + 1, 0, _ => by simp [lowB]
  | n + 1, t + 1, h => by
    have := lowB_get x n t (by omega)
    simp only [lowB, List.getD_cons_succ, this]
    rw [show n + 1 - 1 - (t + 1) = n - 1 - t by omega]
def fillA (s : ByteArray) (j : Nat) : List Int := is s ++ 128 :: zer j
def fillE (s : ByteArray) (t : Nat) : List Int := fillA s (fillLen s.size - 9) ++ (lowB (s.size * 8) 8).take t
theorem fillA_len (s : ByteArray) (j : Nat) : (fillA s j).length = s.size + 1 + j := by simp [fillA, is_length, zer]; omega
theorem fillA_succ (s : ByteArray) (j : Nat) : fillA s (j + 1) = fillA s j ++ [0] := by
  unfold fillA zer; rw [List.replicate_succ']; simp
theorem fillE_len (s : ByteArray) (t : Nat) (h : t ≤ 8) : (fillE s t).length = s.size + 1 + (fillLen s.size - 9) + t := by
  rw [fillE, List.length_append, fillA_len, List.length_take, lowB_len]; omega
theorem fillE_succ (s : ByteArray) (t : Nat) (h : t < 8) : fillE s (t + 1) = fillE s t ++ [((s.size * 8 / 256 ^ (7 - t) % 256 : Nat) : Int)] := by
  unfold fillE
  rw [List.take_succ_eq_append_getElem (by rw [lowB_len]; exact h), ← List.append_assoc]
  congr 1
  have := lowB_get (s.size * 8) 8 t h
  rw [List.getD_eq_getElem?_getD, List.getElem?_eq_getElem (by rw [lowB_len]; exact h)] at this
  simpa using this
/-- the text, filled up -/
def fillAll (s : ByteArray) : List Int := is s ++ fillL s.size s.size
theorem fillE_done (s : ByteArray) : fillE s 8 = fillAll s := by
  unfold fillE fillAll fillA fillL
  rw [List.take_of_length_le (by rw [lowB_len]; exact Nat.le_refl _)]
  simp
def sliceLen : Value → Nat | .slice _ n _ => n | _ => 0
theorem r_Whole_k (n : Int) (w : World) (hlo : -9223372036854775808 ≤ n) (hhi : n ≤ 9223372036854775807) :
    Calls Try.prog 43 #[.int .i64 n] w fun e w' => e = .returned (.int .i64 (wholeZ n)) ∧ w = w' := (r_Whole n w hlo hhi).mono fun _ _ ⟨a, b⟩ => ⟨a, b.symm⟩
theorem info_u8' : (Try.prog.info? 5).map (fun i => (i.zero, i.size, i.bytes)) = some (some (.int .u8 0), 1, 1) := info_u8

set_option maxHeartbeats 1000000 in
set_option maxRecDepth 100000 in
theorem r_fill (s : ByteArray) (w : World) (hs : s.size ≤ 549755813888) :
    Calls Try.prog 24 #[.string s] w fun e w' => ∃ v, e = .returned v ∧ OwnM w' w.heap.size 5 v (fillAll s) ∧ Below w.heap.size w w' := by
  have hF := fillLen_ge s.size
  have hW := whole_in (s.size : Int) (by omega) (by omega)
  have hW2 : ((s.size : Int) + 72) / 64 * 64 = (s.size : Int) + (fillLen s.size : Int) := by unfold fillLen; omega
  rw [hW2] at hW
  have HW := Lib.hid hW
  clear hW hW2
  have hc0 : (is s).length + [(128 : Int)].length ≤ 140737488355328 := by rw [is_length]; simp; omega
  go_enter Try.func24, Try.ntmps24
  go_wp2_with (first | (refine wpList_bytes_of rfl 9 33 5 _ rfl w.heap.size s rfl Try.underlying9 Try.underlying33 Try.underlying5 (Nat.le_refl _) (by unfold maxLen; omega) ?_; intro v1 w1 hown1 hb1) | (at_builtin; refine wpList_append_bytesM rfl _ _ 33 rfl w.heap.size 5 Try.underlying33 info_u8 _ (is s) rfl (hown1.alloc _) w1.heap.size 1 1 [128] rfl rfl (range_new w1 5 [128]) hc0 (alloc_ge w1 _ hb1.size) ?_; intro v2 w2 hown2 hb2))
  have hb2' := hb1.trans ((hb2.mono (Nat.le_refl _)) |> fun h => (((Below.refl _ _).alloc (show w.heap.size ≤ w1.heap.size from hb1.size) (.cells #[.int .u8 128] 5)).trans h))
  have hown2' : OwnM w2 w.heap.size 5 v2 (fillA s 0) := hown2
  clear hown2 hown1 hb2 hb1 hc0
  go_loopw [3] (fun v wr => ∃ j : Nat, j ≤ fillLen s.size - 9 ∧ OwnM wr w.heap.size 5 v (fillA s j) ∧ Below w.heap.size w wr) (fun v _ => 600000000000 - (sliceLen v))
  case atStart => exact ⟨0, by omega, hown2', hb2'⟩
  case round =>
    obtain ⟨j, hj, hown, hb⟩ := hrel
    clear hown2' hb2'
    have hown0 := hown
    obtain ⟨p, cap, hv, _⟩ := hown.isSlice
    have hl := fillA_len s j
    by_cases hlt : j < fillLen s.size - 9
    · have hcap : (fillA s j).length + [(0 : Int)].length ≤ 140737488355328 := by rw [hl]; simp; omega
      have hstep := fillA_succ s j
      generalize fillA s j = l at *
      subst hv
      have n1 : l.length ≤ s.size + 1 + j := by omega
      have n2 : s.size + 1 + j ≤ l.length := by omega
      have n3 : s.size + 1 + j < 600000000000 := by omega
      have g1 : decide ((l.length : Int) < (s.size : Int) + (fillLen s.size : Int) - 8) = true := by simp; omega
      have Hs := Lib.hid hstep
      clear hl hstep
      have hsz := hb.size
      go_wp2_with (first | (go_at_call 43; refine (r_Whole_k _ _ (by omega) (by omega)).mono ?_; rw [HW.out]; rintro e wx ⟨rfl, rfl⟩) | (at_builtin; refine wpList_append_bytesM rfl _ _ 33 rfl w.heap.size 5 Try.underlying33 info_u8 _ l rfl (hown.alloc _) wr.heap.size 1 1 [0] rfl rfl (range_new wr 5 [0]) hcap (alloc_ge wr _ hsz) ?_; intro v4 w4 hown4 hb4))
      have hb4' := (hb.alloc hsz (.cells #[.int .u8 0] 5)).trans hb4
      have hown5 : OwnM w4 w.heap.size 5 v4 (fillA s (j + 1)) := by rw [Hs.out]; exact hown4
      obtain ⟨p', cap', hv', _⟩ := hown4.isSlice
      have hlen4 : (l ++ [(0 : Int)]).length = l.length + 1 := by simp
      go_roundw
      case rel => exact ⟨j + 1, by omega, hown5, hb4'⟩
      case measure => rw [hv', hlen4]; simp only [sliceLen]; omega
    · have hj9 : j = fillLen s.size - 9 := by omega
      subst hj9
      have hE : OwnM wr w.heap.size 5 (.slice p (fillA s (fillLen s.size - 9)).length cap) (fillE s 0) := by
        subst hv
        rw [show fillE s 0 = fillA s (fillLen s.size - 9) by simp [fillE]]; exact hown
      subst hv
      generalize (fillA s (fillLen s.size - 9)).length = n at *
      have n1 : (n : Int) = (s.size : Int) + (fillLen s.size : Int) - 8 := by omega
      have g1 : decide ((n : Int) < (s.size : Int) + (fillLen s.size : Int) - 8) = false := by simp; omega
      clear hl hown hown0 n1
      have hx : (s.size : Int) * 8 < 18446744073709551616 := by omega
      go_wp2_with (first | (go_at_call 43; refine (r_Whole_k _ _ (by omega) (by omega)).mono ?_; rw [HW.out]; rintro e wx ⟨rfl, rfl⟩))
      obtain ⟨wo, rfl⟩ : ∃ wo : World, wo = wr := ⟨_, rfl⟩
      go_loopw [3, 4] (fun v i wq => ∃ t : Nat, t ≤ 8 ∧ i = .int .i64 (7 - (t : Int)) ∧ OwnM wq w.heap.size 5 v (fillE s t) ∧ Below w.heap.size w wq) (fun _ i _ => (intOf i + 1).toNat)
      case atStart => exact ⟨0, by omega, rfl, hE, hb⟩
      case round =>
        obtain ⟨t, ht, rfl, hown, hb'⟩ := hrel
        clear hE hb
        by_cases ht8 : t < 8
        · have hstep := fillE_succ s t ht8
          have hlen := fillE_len s t ht
          have hpow : ((s.size * 8 / 256 ^ (7 - t) % 256 : Nat) : Int) = (s.size : Int) * 8 / 2 ^ (8 * (7 - t)) % 256 := by
            have h256 : (256 : Nat) ^ (7 - t) = 2 ^ (8 * (7 - t)) := by rw [Nat.pow_mul]
            rw [h256]; simp
          rw [hpow] at hstep
          have hcap : (fillE s t).length + [(s.size : Int) * 8 / 2 ^ (8 * (7 - t)) % 256].length ≤ 140737488355328 := by rw [hlen]; simp; omega
          have i1 : (0 : Int) ≤ 8 * (7 - (t : Int)) := by omega
          have i2 : (8 * (7 - (t : Int))).toNat = 8 * (7 - t) := by omega
          have i3 : 8 * (7 - (t : Int)) < 64 := by omega
          have i4 : (t : Int) ≤ 7 := by omega
          have hsz := hb'.size
          have Hs := Lib.hid hstep
          clear hstep hlen hpow
          generalize fillE s t = l at *
          go_wp2_with (first | (at_builtin; refine wpList_append_bytesM rfl _ _ 33 rfl w.heap.size 5 Try.underlying33 info_u8 _ l rfl (hown.alloc _) wr.heap.size 1 1 [(s.size : Int) * 8 / 2 ^ (8 * (7 - t)) % 256] rfl rfl (range_new wr 5 [(s.size : Int) * 8 / 2 ^ (8 * (7 - t)) % 256]) hcap (alloc_ge wr _ hsz) ?_; intro v4 w4 hown4 hb4))
          have hb4' := (hb'.alloc hsz (.cells (ints .u8 [(s.size : Int) * 8 / 2 ^ (8 * (7 - t)) % 256]).toArray 5)).trans hb4
          go_roundw
          case rel => exact ⟨t + 1, by omega, by go_num, by rw [Hs.out]; exact hown4, hb4'⟩
          case measure => simp [intOf]; omega
        · obtain rfl : t = 8 := by omega
          rw [fillE_done] at hown
          go_wp2
          go_ret
          exact ⟨_, rfl, hown, hb'⟩
end Go.Proofs.Ytbobdbdknapdcaa
