/- Walk of bitio's bits, told one by one. -/
import Derived.Test.YtpjfafefgmjmfaaJSize
import Derived.Test.YtpjfafefgmjmfaaG1
import Derived.Test.YtpjfafefgmjmfaaSlr
namespace Go.Proofs.Ytpjfafefgmjmfaa
open Go.RowKit Go.Shelf
set_option linter.unusedVariables false

attribute [local go_sem] Oper.semAt_some

theorem bitsP_snoc (l : List (Nat × Int)) (j : Nat) (h : j < l.length) : bitsP (l.take (j + 1)) = bitsP (l.take j) ++ bitsN l[j].1 l[j].2.toNat := by
  rw [List.take_succ_eq_append_getElem h, bitsP_app]
  congr 1
  simp [bitsP]
theorem sizeP_take (l : List (Nat × Int)) (j : Nat) : sizeP (l.take j) ≤ sizeP l := by
  have := sizeP_app (l.take j) (l.drop j)
  rw [List.take_append_drop] at this
  omega
theorem and_one_u32 (b : Nat) (h : b < 4294967296) : bits .and .u32 (b : Int) 1 = ((b % 2 : Nat) : Int) := by
  have := (bits_nat .u32 32 (by decide) (fun n h0 h1 => by rw [IntKind.wrap_u32]; omega) b 1 h (by decide)).1
  rw [show ((1 : Nat) : Int) = 1 from rfl] at this
  rw [this, Nat.and_one_is_mod]
set_option maxRecDepth 100000 in
set_option maxHeartbeats 2000000 in
/-- the iterator, for every body that keeps what it reads -/
theorem i_bits_in (n l B G M : Nat) (ps : List (Nat × Int)) (p : Option Addr) (cap : Nat) (hl : ps.length ≤ 1000000) (hm : ∀ q ∈ ps, mayP q) (hu : ∀ q ∈ ps, q.1 < 4294967296) (J Jx : List Nat → World → Prop) (hn : 2 ≤ n) (W : World) (hM : M ≤ W.heap.size)
    (hB : ∀ a, p = some a → 0 < ps.length → a.block < B) (hJ : AbidesFrom W.heap.size J)
    (hY : ∀ pre x W1, x < 2 → J pre W1 → pre.length < sizeP ps → YieldAt Fence.wide (n - 1) Try.prog l #[.int .u8 ((x : Nat) : Int)] W1 fun e W' =>
      (e = .returned (.bool true) ∧ J (pre ++ [x]) W' ∧ KpC B G M W1 W') ∨ (e = .returned (.bool false) ∧ Jx (pre ++ [x]) W'))
    (hG : Blk W G 22 [.slice p ps.length cap]) (hS : Sl W 2 (.slice p ps.length cap) (rowsP ps)) (h0 : J [] W) :
    CallsIn Fence.wide n Try.prog 30 #[.func (.yield l) #[] #[], .pointer (some ⟨G, 0, none⟩)] W fun e W' => (∃ v, e = .returned v) ∧
      ((∃ ys, ys = bitsP ps ∧ J ys W') ∨ (∃ pre, True ∧ Jx pre W')) := by
  have c1 := hG.cell 0
  simp only [List.getElem?_cons_zero] at c1
  refine callsIn_of_wp Try.func30 rfl trivial ?_ rfl
  simp only [Try.ntmps30, List.size_toArray, List.length_cons, List.length_nil, Nat.reduceAdd, Nat.reduceSub, Array.replicate_succ, Array.replicate_zero, List.push_toArray, List.append_toArray, List.nil_append, List.cons_append]
  gi_wp2
  clear c1
  gi_loopw [8] (fun i wr => ∃ j : Nat, j ≤ ps.length ∧ i = .int .i64 (j : Int) ∧ J (bitsP (ps.take j)) wr ∧ Sl wr 2 (.slice p ps.length cap) (rowsP ps) ∧ M ≤ wr.heap.size) (fun i _ => ps.length - (intOf i).toNat)
  case atStart => exact ⟨0, by omega, rfl, h0, hS, hM⟩
  case round =>
    obtain ⟨j, hj, rfl, gJ, gS, gM⟩ := hrel
    by_cases hlt : j < ps.length
    · obtain ⟨a, rfl, hc⟩ := gS.row (rowsP_at hlt)
      have hsn := bitsP_snoc ps j hlt
      have hq := hm _ (List.getElem_mem hlt)
      have hqu := hu _ (List.getElem_mem hlt)
      have d1 : (j : Int) < (ps.length : Int) := by omega
      obtain ⟨q, hqe⟩ : ∃ q, ps[j] = q := ⟨_, rfl⟩
      have HE := Lib.hid hqe
      rw [hqe] at hq hqu hc hsn
      clear hqe
      obtain ⟨n0, x⟩ := q
      have HSN := Lib.hid hsn
      have HC := Lib.hid hc
      have k1 := Blk.new' wr 45 (c := #[.int .u32 0, .int .i64 0]) (rowP (0, 0)) rfl
      have k2 := k1.row (rowP (n0, x)) rfl
      have kb := below_setRow ((Below.refl wr.heap.size wr).alloc (Nat.le_refl _) (.cells #[.int .u32 0, .int .i64 0] 45)) (Nat.le_refl wr.heap.size) (rowP (n0, x)).toArray
      clear hsn hc hS
      have hx0 : (0 : Int) ≤ x := hq.1
      have hx1 : x ≤ 24 := hq.2.1
      obtain ⟨k, rfl⟩ : ∃ k : Nat, x = (k : Int) := ⟨x.toNat, by omega⟩
      have hk : k ≤ 24 := by omega
      have hsz : sizeP (ps.take (j + 1)) = sizeP (ps.take j) + k := by
        have := sizeP_snoc ps j hlt
        rw [HE.out, if_pos hq] at this
        exact this
      have hle := sizeP_take ps (j + 1)
      have hpl : (bitsP (ps.take j)).length = sizeP (ps.take j) := bitsP_len fun q hq => hm q (List.mem_of_mem_take hq)
      have HPL := Lib.hid hpl
      have hJ4 : J (bitsP (ps.take j)) _ := hJ _ wr _ none gJ (grown_below kb) (fun r e => by cases e)
      have hS4 := gS.below kb
      have hM4 : M ≤ wr.heap.size := gM
      have HSZ := Lib.hid hsz
      have HQ := Lib.hid hq
      have c4 := k2.cell 1
      rw [show (rowP (n0, (k : Int)))[1]? = some (.int .i64 (k : Int)) from rfl] at c4
      clear hpl hq hsz gS gJ
      gi_wp2_with (first | (refine wpListIn_load_addr rfl 45 _ rfl _ rfl (rowP (n0, (k : Int))) HC.out Try.underlying45 rfl (by rw [size_piece]; rfl) ?_) | (refine wpListIn_store_blk rfl 45 _ _ rfl wr.heap.size (rowP (n0, (k : Int))) rfl rfl k1 (by rw [size_piece]; rfl) rfl (rowP_one _) ?_))
      have k4 := k2
      have hJ4' := hJ4
      clear k1 k2 hJ4 c4 kb HC gM
      generalize World.setRow _ _ _ = w4 at *
      generalize wr.heap.size = B4 at *
      gi_loopw [14] (fun i wr => ∃ m : Nat, m ≤ k ∧ i = .int .i64 (m : Int) ∧ J (bitsP (ps.take j) ++ bitsN n0 m) wr ∧ Sl wr 2 (.slice (some a) ps.length cap) (rowsP ps) ∧ Blk wr B4 45 (rowP (n0, (k : Int)))) (fun i _ => k - (intOf i).toNat)
      case atStart => exact ⟨0, by omega, rfl, by rw [show bitsN n0 0 = [] from rfl, List.append_nil]; exact hJ4', hS4, k4⟩
      case round =>
        obtain ⟨m, hmk, rfl, gJ, gS, gk⟩ := hrel
        clear hJ4' hS4 k4
        by_cases hlk : m < k
        · have d2 : (m : Int) < (k : Int) := by omega
          have c0 := gk.cell 0
          rw [show (rowP (n0, (k : Int)))[0]? = some (.int .u32 (n0 : Int)) from rfl] at c0
          have i2 : (m : Int).toNat = m := by omega
          have i3 : (0 : Int) ≤ (m : Int) := by omega
          have hv : (n0 : Int) / 2 ^ m = ((n0 / 2 ^ m : Nat) : Int) := by simp
          have hlt2 : n0 / 2 ^ m < 4294967296 := Nat.lt_of_le_of_lt (Nat.div_le_self _ _) hqu
          obtain ⟨z, hz⟩ : ∃ z, n0 / 2 ^ m % 2 = z := ⟨_, rfl⟩
          have hand : bits .and .u32 ((n0 : Int) / 2 ^ m) 1 = (z : Int) := by rw [hv, ← hz]; exact and_one_u32 _ hlt2
          have hz2 : (z : Int) < 2 := by rw [← hz]; have := Nat.mod_lt (n0 / 2 ^ m) (show 0 < 2 by decide); omega
          have hz0 : (0 : Int) ≤ (z : Int) := by omega
          have hzm : (z : Int) % 256 = (z : Int) := by omega
          have hbn : bitsN n0 (m + 1) = bitsN n0 m ++ [z] := by rw [bitsN_succ, hz]
          have HBN := Lib.hid hbn
          obtain ⟨fn, tmps, assign, body, hy, hR⟩ := hY _ z wr (by omega) gJ (by rw [List.length_append, HPL.out, bitsN_len]; have := HSZ.out; omega)
          rw [List.append_assoc, ← hbn] at hR
          clear hv hlt2 hz hbn gJ
          gi_wp2
          first | refine hR.mono ?_ | refine ⟨fun _ => by omega, hR.mono ?_⟩
          rintro e W3 (⟨rfl, hJ3, hk3⟩ | ⟨rfl, hJx3⟩)
          · have gS3 := gS.kept (by decide) hk3 hB
            have gk3 := hk3.blk (.inr (.inr hM4)) gk
            gi_wp2
            go_roundw
            case rel => exact ⟨m + 1, by omega, by go_num, hJ3, gS3, gk3⟩
            case measure => simp [intOf]; omega
          · gi_wp2
            refine bodyPost_ret (results_none rfl _ _ _) rfl ?_
            exact ⟨⟨_, rfl⟩, .inr ⟨_, trivial, hJx3⟩⟩
        · obtain rfl : m = k := by omega
          have hM5 : M ≤ wr.heap.size := Nat.le_trans hM4 (Nat.le_of_lt gk.lt)
          gi_wp2
          go_roundw
          case rel => exact ⟨j + 1, by omega, by go_num, by rw [HSN.out]; exact gJ, gS, hM5⟩
          case measure => simp [intOf]; omega
    · obtain rfl : j = ps.length := by omega
      gi_wp2
      go_end0
      exact ⟨⟨_, rfl⟩, .inl ⟨_, rfl, by rw [List.take_length] at gJ; exact gJ⟩⟩
theorem i_stops (n B G M : Nat) (ps : List (Nat × Int)) (p : Option Addr) (cap : Nat) (hl : ps.length ≤ 1000000) (hm : ∀ q ∈ ps, mayP q) (hu : ∀ q ∈ ps, q.1 < 4294967296) (hn : 2 ≤ n) (w : World) (hM : M ≤ w.heap.size)
    (hB : ∀ a, p = some a → 0 < ps.length → a.block < B) (hG : Blk w G 22 [.slice p ps.length cap]) (hS : Sl w 2 (.slice p ps.length cap) (rowsP ps)) :
    SeqStopsK Fence.wide n Try.prog 30 #[.pointer (some ⟨G, 0, none⟩)] (fun x : Fin 2 => #[Value.int .u8 (x.val : Int)]) (KpC B G M) (fun ys => ys.map (·.val) = bitsP ps) (fun _ => True) (sizeP ps) w := fun l J Jx W hW hJ _ hY h0 => by
  refine (i_bits_in n l B G M ps p cap hl hm hu (fun pre W => ∃ ys : List (Fin 2), ys.map (·.val) = pre ∧ J ys W) (fun pre W => ∃ ys : List (Fin 2), ys.map (·.val) = pre ∧ Jx ys W) hn W (Nat.le_trans hM hW.size) hB ?_ ?_ (hG.below hW hG.lt) (hS.below hW) ⟨[], rfl, h0⟩).mono ?_
  · rintro pre X Y row ⟨ys, e, h⟩ hg hr
    exact ⟨ys, e, hJ ys X Y row h hg hr⟩
  · rintro pre x W1 hx ⟨ys, rfl, h⟩ hlt
    refine (hY ys ⟨x, hx⟩ W1 h (by simpa using hlt)).mono ?_
    rintro e W' (⟨h1, h2, h3⟩ | ⟨h1, h2⟩)
    · exact .inl ⟨h1, ⟨_, by simp, h2⟩, h3⟩
    · exact .inr ⟨h1, ⟨_, by simp, h2⟩⟩
  · rintro e W' ⟨h1, (⟨_, h2, ys, h3, h4⟩ | ⟨_, h2, ys, h3, h4⟩)⟩
    · exact ⟨h1, .inl ⟨ys, h3.trans h2, h4⟩⟩
    · exact ⟨h1, .inr ⟨ys, trivial, h4⟩⟩
end Go.Proofs.Ytpjfafefgmjmfaa
