/- Walk of the reference's Put. -/
import Derived.Test.YtlolcpfkaoembaaV1
import Derived.Test.YtlolcpfkaoembaaG1
import Derived.Maps.AppendAt
namespace Go.Proofs.Ytlolcpfkaoembaa
open Go.RowKit Go.Shelf
set_option linter.unusedVariables false

theorem put_app (n : Nat) (f : Nat) (h : ¬ n < 128) : tx (putF (f + 1) n) = tx [n % 128 + 128] ++ tx (putF f (n / 128)) := by
  rw [putF_big _ _ h, ← tx_app]; rfl
theorem putF_len_small (f n : Nat) : (tx (putF f n)).size ≤ f := by rw [tx_size]; exact putF_len_le f n
def rpF (n : Nat) (u : Nat → Value) : Array Value := #[.int .u64 (n : Int), undef, u 10, .int .u64 (n : Int), .bool false, undef, undef, undef, undef, u 0, u 1, u 2, u 3, u 4, u 5, u 6, u 7, u 8, u 9]
def rpS (B n m q : Nat) (t r z : ByteArray) : Nat → Value → World → Prop
  | 0, v, _ => v = .int .u64 (n : Int)
  | 1, v, _ => v = .int .u64 (m : Int)
  | 2, v, _ => v = .int .u8 (m : Int)
  | 3, v, _ => v = .int .u8 ((m : Int) + 128)
  | 4, v, W => ∃ b, B ≤ b ∧ v = .slice (some ⟨b, 0, none⟩) 1 1 ∧ Blk W b 5 (ints .u8 [(m : Int) + 128])
  | 5, v, _ => v = .string t
  | 6, v, _ => v = .int .u64 (n : Int)
  | 7, v, _ => v = .int .u64 (q : Int)
  | 8, v, _ => v = .string r
  | 9, v, _ => v = .string z
  | 10, v, _ => v = .string z
  | _, _, _ => True
end Go.Proofs.Ytlolcpfkaoembaa
namespace Go.Proofs.Ytlolcpfkaoembaa
open Go.RowKit Go.Shelf
set_option linter.unusedVariables false

end Go.Proofs.Ytlolcpfkaoembaa
namespace Go.Proofs.Ytlolcpfkaoembaa
open Go.RowKit Go.Shelf
set_option linter.unusedVariables false

end Go.Proofs.Ytlolcpfkaoembaa
namespace Go.Proofs.Ytlolcpfkaoembaa
open Go.RowKit Go.Shelf
set_option linter.unusedVariables false

set_option maxRecDepth 100000 in
set_option maxHeartbeats 1000000 in
theorem r_Big (n k : Nat) (w : World) (h1 : 1 ≤ k) (h2 : k ≤ 8) (hn : n < 18446744073709551616) :
    Calls Try.prog 20 #[.int .u64 (n : Int), .int .i64 (k : Int)] w fun e w' => e = .returned (.string (tx (bigL n k))) ∧ Below w.heap.size w w' := by
  have hl := big_len n k
  have hg := fun j hj => big_getD n k j hj
  obtain ⟨L, hL⟩ : ∃ L, bigL n k = L := ⟨_, rfl⟩
  rw [hL] at hl hg ⊢
  have HG := Lib.hid hg
  have HL := Lib.hid hl
  have k8 : (k : Int) ≤ 8 := by omega
  have k1 : (1 : Int) ≤ (k : Int) := by omega
  obtain ⟨i0, hi0, hz0, hz1, hz2⟩ := info_parts info_u8
  clear hl hg hL
  have qe := Blk.new' w 5 (c := #[]) (ints .u8 (nn [] ++ [])) rfl
  have qo := OwnB.ofBlk (base := w.heap.size) (cap := 0) [] qe (Nat.le_refl _) rfl (Nat.zero_le _)
  have qb := (Below.refl w.heap.size w).alloc (Nat.le_refl _) (.cells #[] 5)
  clear qe
  go_enter Try.func20, Try.ntmps20
  go_wp2
  generalize World.alloc w (.cells #[] 5) = w3 at *
  go_loopw [5, 6] (fun v i wr => ∃ (j : Nat) (p : Option Addr) (cap : Nat), i = .int .i64 ((k : Int) - 1 - (j : Int)) ∧ v = .slice p j cap ∧ OwnB wr w.heap.size 5 (.slice p j cap) (nn (L.take j)) ∧ j ≤ k ∧ Below w.heap.size w wr) (fun _ i _ => (intOf i + 1).toNat)
  case atStart => exact ⟨0, _, 0, by simp, rfl, qo, by omega, qb⟩
  case round =>
    obtain ⟨j, p, cap, rfl, rfl, go, hj, gb⟩ := hrel
    clear qo qb
    by_cases hlt : j < k
    · have hsn := take_snoc L j (by rw [HL.out]; exact hlt)
      rw [HG.out j hlt] at hsn
      have hll : (nn (L.take j)).length = j := by rw [nn_length, List.length_take, HL.out]; omega
      have hv := shr_byte n (k - 1 - j)
      have HSn := Lib.hid hsn
      clear hsn
      generalize n / 2 ^ (8 * (k - 1 - j)) % 256 = y at *
      obtain ⟨LJ, hLJ⟩ : ∃ M, L.take j = M := ⟨_, rfl⟩
      rw [hLJ] at go hll HSn
      clear hLJ
      have hrow : (wr.alloc (.cells #[.int .u8 (y : Int)] 5)).ownsRow w.heap.size 5 1 (.slice p j cap) j (ints .u8 (nn LJ)) := by
        have := go.alloc (.cells #[.int .u8 (y : Int)] 5)
        unfold OwnB at this
        rw [hll] at this
        exact this
      have hnew : ∀ jj u, [Value.int .u8 (y : Int)][jj]? = some u → (wr.alloc (.cells #[.int .u8 (y : Int)] 5)).cell? ((⟨wr.heap.size, 0, none⟩ : Addr).add jj) = some u := fun jj u h => by
        rw [Addr.add_mid]
        exact (Blk.new' wr 5 [Value.int .u8 (y : Int)] rfl).whole jj u h
      have hone : ∀ u ∈ [Value.int .u8 (y : Int)], u.oneCell' = true := by simp [Value.oneCell']
      have h63 : j + 1 ≤ maxLen := by simp [maxLen]; omega
      have hbyy : (j + 1) * 1 ≤ 140737488355328 := by omega
      have hbs := gb.size
      have hbase : w.heap.size ≤ (wr.alloc (.cells #[.int .u8 (y : Int)] 5)).heap.size := by simp; omega
      have hgl := fun i hi => (go.lt i hi).1
      have kw := gb.alloc hbs (.cells #[.int .u8 (y : Int)] 5)
      have i1 : (8 * ((k : Int) - 1 - (j : Int))).toNat = 8 * (k - 1 - j) := by omega
      have i2 : (0 : Int) ≤ 8 * ((k : Int) - 1 - (j : Int)) := by omega
      have i3 : 8 * ((k : Int) - 1 - (j : Int)) < 100 := by omega
      have d1 : (0 : Int) ≤ (k : Int) - 1 - (j : Int) := by omega
      have d2 : (j : Int) ≤ (k : Int) - 1 := by omega
      have HRow := Lib.hid hrow
      have HNew := Lib.hid hnew
      have HOne := Lib.hid hone
      have H63 := Lib.hid h63
      have HBY := Lib.hid hbyy
      have HBS := Lib.hid hbase
      have HLL := Lib.hid hll
      have Hgl := Lib.hid hgl
      clear hrow hnew hone h63 hbyy hbase hll gb hgl
      go_wp2_with (at_builtin; refine wpList_append_own_at _ rfl _ _ 38 rfl w.heap.size 5 i0 (.int .u8 0) 1 1 Try.underlying38 hi0 hz0 hz1 hz2 rfl (by decide) _ j _ rfl HRow.out ⟨wr.heap.size, 0, none⟩ 1 1 [.int .u8 (y : Int)] rfl rfl HNew.out HOne.out H63.out HBY.out HBS.out ?_; intro v5 w5 hown5 hg5 hnil5 hat5; obtain ⟨p5, cap5, rfl⟩ := own_slice hown5)
      go_roundw
      case rel =>
        have o5 : OwnB w5 w.heap.size 5 (.slice p5 (j + 1) cap5) (nn (L.take (j + 1))) := by
          rw [HSn.out]
          unfold OwnB
          rw [show nn (LJ ++ [y]) = nn LJ ++ [(y : Int)] by simp [nn], List.length_append, HLL.out, ints_app]
          exact hown5
        exact ⟨j + 1, p5, cap5, congrArg _ (by omega), rfl, o5, by omega, kw.grown hg5 kw.size (fun i hi => Hgl.out i hi)⟩
      case measure => simp [intOf]; omega
    · obtain rfl : j = k := by omega
      have hE : L.take j = L := List.take_of_length_le (by rw [HL.out]; exact Nat.le_refl _)
      rw [hE] at go
      have d1 : ¬ (0 : Int) ≤ (j : Int) - 1 - (j : Int) := by omega
      go_wp2_with (refine wpList_string_own rfl 38 9 5 _ rfl w.heap.size _ _ rfl Try.underlying38 Try.underlying5 Try.underlying9 go ?_)
      go_ret
      exact ⟨rfl, gb⟩
theorem r_Big_no (n : Int) (k : Int) (w : World) (h : k < 1 ∨ 8 < k) :
    Calls Try.prog 20 #[.int .u64 n, .int .i64 k] w fun e w' => e = .returned (.string ⟨#[]⟩) ∧ Below w.heap.size w w' := by
  by_cases h1 : k < 1
  · clear h
    go_enter Try.func20, Try.ntmps20
    go_wp2
    go_ret
    exact ⟨rfl, Below.refl _ _⟩
  · have h2 : 8 < k := by omega
    clear h
    go_enter Try.func20, Try.ntmps20
    go_wp2
    go_ret
    exact ⟨rfl, Below.refl _ _⟩
theorem r_Fixed_no (s : ByteArray) (k : Int) (w : World) (h : k < 1 ∨ 8 < k) :
    Calls Try.prog 22 #[.string s, .int .i64 k] w fun e w' => e = .returned (.tuple #[.int .u64 0, .string ⟨#[]⟩, .int .i64 1]) ∧ Below w.heap.size w w' := by
  by_cases h1 : k < 1
  · clear h
    go_enter Try.func22, Try.ntmps22
    go_wp2
    go_ret3
    exact ⟨rfl, Below.refl _ _⟩
  · have h2 : 8 < k := by omega
    clear h
    go_enter Try.func22, Try.ntmps22
    go_wp2
    go_ret3
    exact ⟨rfl, Below.refl _ _⟩
set_option maxRecDepth 100000 in
set_option maxHeartbeats 1000000 in
theorem r_Fixed (s : ByteArray) (k : Nat) (w : World) (h1 : 1 ≤ k) (h2 : k ≤ 8) (hs : s.size ≤ 65536) (n er : Nat) (r : ByteArray)
    (hw : (k ≤ s.size ∧ fixN (sl s) k = n ∧ s.extract k s.size = r ∧ er = 0) ∨ (s.size < k ∧ n = 0 ∧ r = ⟨#[]⟩ ∧ er = 40)) :
    Calls Try.prog 22 #[.string s, .int .i64 (k : Int)] w fun e w' => e = .returned (.tuple #[.int .u64 (n : Int), .string r, .int .i64 (er : Int)]) ∧ Below w.heap.size w w' := by
  have HSB := Lib.hid (sl_bys s)
  have k8 : (k : Int) ≤ 8 := by omega
  have k1 : (1 : Int) ≤ (k : Int) := by omega
  rcases hw with ⟨q1, q2, rfl, rfl⟩ | ⟨q1, rfl, rfl, rfl⟩
  · have HN := Lib.hid q2
    clear q2
    have d0 : ¬ s.size < k := by omega
    have d1 : decide (s.size < k) = false := by simp; omega
    go_enter Try.func22, Try.ntmps22
    go_wp2
    go_loop [7, 8] (fun u i => ∃ j : Nat, j ≤ k ∧ i = .int .i64 (j : Int) ∧ u = .int .u64 ((fixN (sl s) j : Nat) : Int)) (fun _ i => 8 - (intOf i).toNat)
    case atStart => exact ⟨0, by omega, rfl, rfl⟩
    case round =>
      obtain ⟨j, hj, rfl, rfl⟩ := hrel
      by_cases hlt : j < k
      · have d2 : (j : Int) < (k : Int) := by omega
        have hfs := fix_small HSB.out j (by omega)
        have hbb := HSB.out j
        have hix := fun w => index_sl s .i64 j (by omega) w
        have hst : ((fixN (sl s) j : Nat) : Int) * 256 + (((sl s).getD j 0 : Nat) : Int) = ((fixN (sl s) (j + 1) : Nat) : Int) := by
          show _ = ((fixN (sl s) j * 256 + (sl s).getD j 0 : Nat) : Int)
          omega
        generalize hF1 : fixN (sl s) (j + 1) = F1 at *
        have HF1 := Lib.hid hF1
        clear hF1
        generalize fixN (sl s) j = F0 at *
        generalize (sl s).getD j 0 = b at *
        go_wp2
        go_round
        case rel => exact ⟨j + 1, by omega, by go_num, by rw [HF1.out]⟩
        case measure => simp [intOf]; omega
      · obtain rfl : j = k := by omega
        rw [HN.out]
        have d3 : (j : Int) ≤ (s.size : Int) := by omega
        go_wp2
        refine region_drew_tail 6 mixed (by kernel_rfl) ?_
        simp only [List.take_succ_cons, List.take_zero, List.drop_succ_cons, List.drop_zero]
        repeat (first | go_big_quiet_step (fail) | quiet_step (fail))
        refine wpQuiet_nil ?_
        rintro _ ⟨nq, rfl⟩
        go_wp2
        go_ret3
        exact ⟨rfl, below_drewN (Below.refl _ _) nq⟩
  · have d1 : decide (s.size < k) = true := by simp; omega
    go_enter Try.func22, Try.ntmps22
    go_wp2
    go_ret3
    exact ⟨rfl, Below.refl _ _⟩
end Go.Proofs.Ytlolcpfkaoembaa
