/- Walk of bitio's Pack. -/
import Derived.Test.YtpjfafefgmjmfaaJBits
import Derived.Test.YtpjfafefgmjmfaaJNum
namespace Go.Proofs.Ytpjfafefgmjmfaa
open Go.RowKit Go.Shelf
set_option linter.unusedVariables false

attribute [local go_sem] Oper.semAt_some

theorem bits01_fin (l : List (Fin 2)) : Bits01 (l.map (·.val)) := fun j => by
  rw [List.getD_eq_getElem?_getD, List.getElem?_map]
  cases l[j]? with
  | none => decide
  | some x => exact x.isLt
/-- a bit is put in its place -/
theorem put_bit (N : Nat) (pre : List (Fin 2)) (x : Fin 2) (h : pre.length < 8 * N) :
    ∃ b y : Nat, (partB N (pre.map (·.val))).getD (pre.length / 8) 0 = b ∧ partB N ((pre ++ [x]).map (·.val)) = (partB N (pre.map (·.val))).set (pre.length / 8) y ∧
      (x.val : Int) * 2 ^ (pre.length % 8) = ((x.val * 2 ^ (pre.length % 8) : Nat) : Int) ∧ x.val * 2 ^ (pre.length % 8) < 256 ∧ bits .or .u8 (b : Int) ((x.val * 2 ^ (pre.length % 8) : Nat) : Int) = (y : Int) := by
  have hb := bits01_fin pre
  have hl : (pre.map (·.val)).length = pre.length := by simp
  have hs := partB_snoc (N := N) x.val hb (by rw [hl]; exact h)
  rw [hl] at hs
  have hlt : x.val * 2 ^ (pre.length % 8) < 256 := by
    have h1 : x.val * 2 ^ (pre.length % 8) ≤ 1 * 2 ^ 7 := Nat.mul_le_mul (by have := x.isLt; omega) (Nat.pow_le_pow_right (by decide) (by omega))
    omega
  refine ⟨_, _, rfl, by rw [List.map_append]; exact hs, by simp, hlt, ?_⟩
  exact or_byte _ _ (partB_bys hb _) hlt
theorem make_bytes (n : Nat) (h : n ≤ 1000000000) (w : World) : (Instr.makeSlice 49 (.int .i64 (n : Int)) (.int .i64 (n : Int))).run Try.prog w = .ok (.slice (some ⟨w.heap.size, 0, none⟩) n n) (w.alloc (.cells (ints .u8 (nn (zerN n))).toArray 5)) := by
  obtain ⟨i0, hi0, hz0, hz1, hz2⟩ := info_parts info_u8
  have hr := run_make (P := Try.prog) w 49 5 i0 (.int .u8 0) Try.underlying49 hi0 hz0 .i64 .i64 n n (by omega) (Int.le_refl _) (by rw [hz2]; omega) (by omega)
  simp only [Int.toNat_natCast, hz1, Nat.mul_one] at hr
  have e : madeCells (Value.int .u8 0).cells n = (ints .u8 (nn (zerN n))).toArray := by
    apply Array.ext'
    rw [show (Value.int .u8 0).cells = #[.int .u8 0] from rfl, toList_madeCells_one]
    simp [ints, nn, zerN]
  rw [hr, e]
set_option maxRecDepth 100000 in
set_option maxHeartbeats 1000000 in
theorem i_Pack_no (l : List (Nat × Int)) (p : Option Addr) (cap : Nat) (w : World) (hl : l.length ≤ 1000000) (hS : Sl w 2 (.slice p l.length cap) (rowsP l)) (hno : ¬ ∀ q ∈ l, mayP q) :
    Calls Try.prog 9 #[.slice p l.length cap] w fun e w' => e = .returned (.tuple #[.string ⟨#[]⟩, .int .i64 1]) ∧ Below w.heap.size w w' := by
  have HNO := Lib.hid hno
  clear hno
  go_enter Try.func9, Try.ntmps9
  go_wp2
  go_loopw [11] (fun i wr => ∃ j : Nat, j ≤ l.length ∧ i = .int .i64 (j : Int) ∧ (∀ q ∈ l.take j, mayP q) ∧ Below w.heap.size w wr) (fun i _ => l.length - (intOf i).toNat)
  case atStart => exact ⟨0, by omega, rfl, (fun q hq => by simp at hq), Below.refl _ _⟩
  case round =>
    obtain ⟨j, hj, rfl, gm, gb⟩ := hrel
    by_cases hlt : j < l.length
    · have hS' := hS.below gb
      obtain ⟨a, rfl, hc⟩ := hS'.row (rowsP_at hlt)
      have hsn := List.take_succ_eq_append_getElem hlt
      have HSN := Lib.hid hsn
      have HC := Lib.hid hc
      have d1 : (j : Int) < (l.length : Int) := by omega
      generalize l[j] = q at *
      obtain ⟨n, x⟩ := q
      have k1 := Blk.new' wr 45 (c := #[.int .u32 0, .int .i64 0]) (rowP (0, 0)) rfl
      have k2 := k1.row (rowP (n, x)) rfl
      have kb := below_setRow ((Below.refl wr.heap.size wr).alloc (Nat.le_refl _) (.cells #[.int .u32 0, .int .i64 0] 45)) (Nat.le_refl wr.heap.size) (rowP (n, x)).toArray
      have GM := Lib.hid gm
      clear hsn hc hS gm
      go_wp2_with (first | (refine wpList_load_addr rfl 45 _ rfl _ rfl (rowP (n, x)) HC.out Try.underlying45 rfl (by rw [size_piece]; rfl) ?_) | (refine wpList_store_blk rfl 45 _ _ rfl wr.heap.size (rowP (n, x)) rfl rfl k1 (by rw [size_piece]; rfl) rfl (rowP_one _) ?_) | (refine wpList_load_blk rfl 45 _ rfl _ rfl k2 Try.underlying45 rfl (by rw [size_piece]; rfl) ?_))
      by_cases hm : mayP (n, x)
      · have HM2 : Hid (∀ q ∈ l.take (j + 1), mayP q) := Lib.hid (by
          rw [HSN.out]
          intro q hq
          rcases List.mem_append.1 hq with h | h
          · exact GM.out q h
          · rw [List.mem_singleton.1 h]; exact hm)
        obtain ⟨k, rfl⟩ : ∃ k : Nat, x = (k : Int) := ⟨x.toNat, by have := hm.1; simp at this; omega⟩
        have hk : k ≤ 24 := by have := hm.2.1; simp at this; omega
        have hnk : n < 2 ^ k := by have := hm.2.2; simpa using this
        have hM : ∀ w, Calls Try.prog 21 #[.agg (rowP (n, (k : Int))).toArray] w fun e w' => e = .returned (.bool true) ∧ Below w.heap.size w w' := fun w => i_may_yes n k w hk hnk
        (with_reducible refine (hM _).mono ?_)
        rintro e w9 ⟨rfl, hb9⟩
        have kb9 := gb.trans ((kb.trans (hb9.mono kb.size)).mono gb.size)
        clear k1 k2 kb hb9 hnk HC hS' gb hM hm GM
        generalize wr.heap.size = B at *
        go_wp2
        go_roundw
        case rel => exact ⟨j + 1, by omega, by go_num, HM2.out, kb9⟩
        case measure => simp [intOf]; omega
      · have hM : ∀ w, Calls Try.prog 21 #[.agg (rowP (n, x)).toArray] w fun e w' => e = .returned (.bool false) ∧ Below w.heap.size w w' := fun w => i_may_no n x w hm
        (with_reducible refine (hM _).mono ?_)
        rintro e w9 ⟨rfl, hb9⟩
        have kb9 := gb.trans ((kb.trans (hb9.mono kb.size)).mono gb.size)
        clear k1 k2 kb hb9 HC hS' gb hm hM GM
        generalize wr.heap.size = B at *
        go_wp2
        go_ret2
        exact ⟨rfl, kb9⟩
    · obtain rfl : j = l.length := by omega
      rw [List.take_length] at gm
      exact absurd gm HNO.out
set_option maxRecDepth 100000 in
set_option maxHeartbeats 2000000 in
theorem i_Pack_yes (l : List (Nat × Int)) (p : Option Addr) (cap : Nat) (w : World) (hl : l.length ≤ 1000000) (hu : ∀ q ∈ l, q.1 < 4294967296) (hS : Sl w 2 (.slice p l.length cap) (rowsP l)) (hyes : ∀ q ∈ l, mayP q) :
    Calls Try.prog 9 #[.slice p l.length cap] w fun e w' => e = .returned (.tuple #[.string (tx (bytesB (bitsP l))), .int .i64 0]) ∧ Below w.heap.size w w' := by
  have HY := Lib.hid hyes
  have HU := Lib.hid hu
  clear hyes hu
  have hlt0 := hS.lt
  have HLT := Lib.hid hlt0
  clear hlt0
  refine (callsIn_wide (n := 9)).1 (callsIn_of_wp_marks Try.func9 rfl trivial ?_ rfl)
  simp only [Try.ntmps9, List.size_toArray, List.length_cons, List.length_nil, Nat.reduceAdd, Nat.reduceSub, Array.replicate_succ, Array.replicate_zero, List.push_toArray, List.append_toArray, List.nil_append, List.cons_append]
  refine wpIn_wide.2 ?_
  go_wp2
  go_loopw [11] (fun i wr => ∃ j : Nat, j ≤ l.length ∧ i = .int .i64 (j : Int) ∧ Below w.heap.size w wr) (fun i _ => l.length - (intOf i).toNat)
  case atStart => exact ⟨0, by omega, rfl, Below.refl _ _⟩
  case round =>
    obtain ⟨j, hj, rfl, gb⟩ := hrel
    have hS' := hS.below gb
    by_cases hlt : j < l.length
    · obtain ⟨a, rfl, hc⟩ := hS'.row (rowsP_at hlt)
      have HC := Lib.hid hc
      have d1 : (j : Int) < (l.length : Int) := by omega
      have hm := HY.out _ (List.getElem_mem hlt)
      generalize l[j] = q at *
      obtain ⟨n, x⟩ := q
      have k1 := Blk.new' wr 45 (c := #[.int .u32 0, .int .i64 0]) (rowP (0, 0)) rfl
      have k2 := k1.row (rowP (n, x)) rfl
      have kb := below_setRow ((Below.refl wr.heap.size wr).alloc (Nat.le_refl _) (.cells #[.int .u32 0, .int .i64 0] 45)) (Nat.le_refl wr.heap.size) (rowP (n, x)).toArray
      clear hc hS
      go_wp2_with (first | (refine wpList_load_addr rfl 45 _ rfl _ rfl (rowP (n, x)) HC.out Try.underlying45 rfl (by rw [size_piece]; rfl) ?_) | (refine wpList_store_blk rfl 45 _ _ rfl wr.heap.size (rowP (n, x)) rfl rfl k1 (by rw [size_piece]; rfl) rfl (rowP_one _) ?_) | (refine wpList_load_blk rfl 45 _ rfl _ rfl k2 Try.underlying45 rfl (by rw [size_piece]; rfl) ?_))
      obtain ⟨k, rfl⟩ : ∃ k : Nat, x = (k : Int) := ⟨x.toNat, by have := hm.1; simp at this; omega⟩
      have hk : k ≤ 24 := by have := hm.2.1; simp at this; omega
      have hnk : n < 2 ^ k := by have := hm.2.2; simpa using this
      have hM : ∀ w, Calls Try.prog 21 #[.agg (rowP (n, (k : Int))).toArray] w fun e w' => e = .returned (.bool true) ∧ Below w.heap.size w w' := fun w => i_may_yes n k w hk hnk
      (with_reducible refine (hM _).mono ?_)
      rintro e w9 ⟨rfl, hb9⟩
      have kb9 := gb.trans ((kb.trans (hb9.mono kb.size)).mono gb.size)
      clear k1 k2 kb hb9 hnk HC hS' gb hM hm
      generalize wr.heap.size = B at *
      go_wp2
      go_roundw
      case rel => exact ⟨j + 1, by omega, by go_num, kb9⟩
      case measure => simp [intOf]; omega
    · obtain rfl : j = l.length := by omega
      have hz := fun w h => i_Size l p cap w hl h
      have HZ := Lib.hid hz
      have hle := sizeP_le l
      obtain ⟨N, hN, hN8⟩ : ∃ N, (sizeP l + 7) / 8 = N ∧ N ≤ 100000000 := ⟨_, rfl, by omega⟩
      have HN := Lib.hid hN
      have e1 : ((sizeP l : Int) + 7) / 8 = (N : Int) := by omega
      have hmk := make_bytes N (by omega)
      clear hS hz hN
      go_wp2_with (go_at_call 12; (with_reducible refine (HZ.out _ hS').mono ?_); rintro e w2 ⟨rfl, hb2⟩)
      refine (i_bits _ _ _ _).mono ?_
      rintro e w9 ⟨rfl, rfl⟩
      go_wp2
      have KS := (((((hS'.below hb2).alloc (.cells (ints .u8 (nn (zerN N))).toArray 5)).alloc (.cells #[.slice (some ⟨w2.heap.size, 0, none⟩) N N] 49)).alloc (.cells #[.int .i64 0] 3)).alloc (.cells #[.slice p l.length cap] 22))
      have Kb2 := gb.trans (hb2.mono gb.size)
      have Kd := (((Blk.new' w2 5 (ints .u8 (nn (zerN N))) rfl).alloc (.cells #[.slice (some ⟨w2.heap.size, 0, none⟩) N N] 49)).alloc (.cells #[.int .i64 0] 3)).alloc (.cells #[.slice p l.length cap] 22)
      have Km := ((Blk.newAt (w2.alloc (.cells (ints .u8 (nn (zerN N))).toArray 5)) (w2.heap.size + 1) (by simp) 49 (c := #[.slice (some ⟨w2.heap.size, 0, none⟩) N N]) [.slice (some ⟨w2.heap.size, 0, none⟩) N N] rfl).alloc (.cells #[.int .i64 0] 3)).alloc (.cells #[.slice p l.length cap] 22)
      have Ka := (Blk.newAt ((w2.alloc (.cells (ints .u8 (nn (zerN N))).toArray 5)).alloc (.cells #[.slice (some ⟨w2.heap.size, 0, none⟩) N N] 49)) (w2.heap.size + 1 + 1) (by simp) 3 (c := #[.int .i64 0]) [.int .i64 0] rfl).alloc (.cells #[.slice p l.length cap] 22)
      have Kg := Blk.newAt (((w2.alloc (.cells (ints .u8 (nn (zerN N))).toArray 5)).alloc (.cells #[.slice (some ⟨w2.heap.size, 0, none⟩) N N] 49)).alloc (.cells #[.int .i64 0] 3)) (w2.heap.size + 1 + 1 + 1) (by simp) 22 (c := #[.slice p l.length cap]) [.slice p l.length cap] rfl
      have Kb := (((Kb2.alloc Kb2.size (.cells (ints .u8 (nn (zerN N))).toArray 5)).alloc (by have := Kb2.size; simp; omega) (.cells #[.slice (some ⟨w2.heap.size, 0, none⟩) N N] 49)).alloc (by have := Kb2.size; simp; omega) (.cells #[.int .i64 0] 3)).alloc (by have := Kb2.size; simp; omega) (.cells #[.slice p l.length cap] 22)
      have Kn : ((((w2.alloc (.cells (ints .u8 (nn (zerN N))).toArray 5)).alloc (.cells #[.slice (some ⟨w2.heap.size, 0, none⟩) N N] 49)).alloc (.cells #[.int .i64 0] 3)).alloc (.cells #[.slice p l.length cap] 22)).heap.size = w2.heap.size + 4 := by simp
      have hz2 : w.heap.size ≤ w2.heap.size := Kb2.size
      have hN := HN.out
      clear hmk hS' gb hb2 Kb2 e1
      generalize ((sizeP l : Nat) : Int) + 7 = s21 at *
      generalize World.alloc (World.alloc (World.alloc (World.alloc w2 _) _) _) _ = w4 at *
      generalize w2.heap.size = Z at *
      have Kd' : Blk w4 Z 5 (ints .u8 (nn (partB N (([] : List (Fin 2)).map (·.val))))) := by rw [List.map_nil, partB_nil]; exact Kd
      refine (wpIn_wide (n := 9)).1 ?_
      refine wpIn_rangeFunc_ownF (F := Fence.wide) (n := 9) rfl (by omega) (gf := 30) (lb := #[.pointer (some ⟨Z + 1 + 1 + 1, 0, none⟩)]) rfl trivial (enters_of Try.func30 (by kernel_rfl) rfl)
        (i_stops 8 w.heap.size (Z + 1 + 1 + 1) (Z + 4) l p cap hl HY.out HU.out (by omega) w4 (by omega) HLT.out Kg KS) (fun h k => h.trans k) (fun W l o o' _ h hc _ => KpC.put W l o o' h hc) (Below.refl _ _) (fun _ => rfl)
        (fun pre W => (Blk W Z 5 (ints .u8 (nn (partB N (pre.map (·.val))))) ∧ Blk W (Z + 1) 49 [.slice (some ⟨Z, 0, none⟩) N N] ∧ Blk W (Z + 1 + 1) 3 [.int .i64 (pre.length : Int)]) ∧ Below w.heap.size w W)
        (fun _ _ _ => False)
        (OwnFrom.and (Own.from (fun s A B row hs hg hr => ⟨hs.1.kept hg hr, hs.2.1.kept hg hr, hs.2.2.kept hg hr⟩) _) (ownFrom_below (Nat.le_refl _) (by omega)))
        (fun _ _ _ _ _ hs _ _ => hs)
        ⟨⟨Kd', Km, Ka⟩, Kb⟩
        (fun x => { tmps := #[.slice p l.length cap, undef, u2, u3, undef, u5, .pointer (some ⟨Z + 1, 0, none⟩), .pointer (some ⟨Z + 1 + 1, 0, none⟩), .int .u8 (x.val : Int), .slice p l.length cap, .int .i64 (l.length : Int), .int .i64 (l.length : Int), .bool false, u13, u14, u15, u16, u17, u18, .slice p l.length cap, .int .i64 ((sizeP l : Nat) : Int), .int .i64 s21, .int .i64 (N : Int), .slice (some ⟨Z, 0, none⟩) N N, .slice p l.length cap, .func (.func 30) #[] #[.pointer (some ⟨Z + 1 + 1 + 1, 0, none⟩)], .int .u8 (x.val : Int), undef, undef, undef, undef, undef, undef, undef, undef, undef, undef, undef, undef, undef, undef, undef], defers := [] }) ?assign ?body ?done ?stop
      case assign =>
        intro lp x W K hK
        gi_wp2
        exact hK
      case body =>
        rintro lp pre x W ⟨⟨h1, h2, h3⟩, hb⟩ hlt
        obtain ⟨b, y, hbv, hy, hsh, hsh2, hor⟩ := put_bit N pre x (by omega)
        have HYY := Lib.hid hy
        have hplen : (partB N (pre.map (·.val))).length = N := partB_len _ _
        have hq8 : pre.length / 8 < N := by omega
        have hcell := h1.nat (j := pre.length / 8) (by rw [hplen]; exact hq8)
        rw [hbv] at hcell
        have hl8 : pre.length < 8 * N := by omega
        obtain ⟨q, r, hqe, hre, hr8, hqN⟩ : ∃ q r : Nat, pre.length / 8 = q ∧ pre.length % 8 = r ∧ r < 8 ∧ q < N := ⟨_, _, rfl, rfl, by omega, hq8⟩
        have e1 : (pre.length : Int) / 8 = (q : Int) := by omega
        have e2 : (pre.length : Int) % 8 = (r : Int) := by omega
        have i1 : (0 : Int) ≤ (pre.length : Int) := by omega
        have i2 : (r : Int).toNat = r := by omega
        have i3 : (0 : Int) ≤ (r : Int) := by omega
        have i5 : (pre.length : Int) < 800000000 := by omega
        rw [hqe] at hcell HYY
        rw [hre] at hsh hsh2 hor
        have hm : ∀ wx, NewBut W wx → wx.cell? ⟨Z + 1, 0, none⟩ = some (.slice (some ⟨Z, 0, none⟩) N N) := fun wx h => by rw [(h2.below h h2.lt).cell]; rfl
        have ha : ∀ wx, NewBut W wx → wx.cell? ⟨Z + 1 + 1, 0, none⟩ = some (.int .i64 (pre.length : Int)) := fun wx h => by rw [(h3.below h h3.lt).cell]; rfl
        have hd : ∀ wx, NewBut W wx → wx.cell? ⟨Z, q, none⟩ = some (.int .u8 (b : Int)) := fun wx h => by
          have := (h1.below h h1.lt).nat (j := q) (by rw [hplen]; exact hqN)
          rw [this, ← hbv, hqe]
        have hw8 : IntKind.u8.wrap ((x.val : Int) * 2 ^ r) = ((x.val * 2 ^ r : Nat) : Int) := by rw [hsh]; exact wraps_u8 _ (by omega) (by omega)
        have e3 : (pre.length : Int).tmod 8 = (r : Int) := by rw [Int.tmod_eq_emod_of_nonneg (by omega)]; exact e2
        have hwq : IntKind.i64.wrap (q : Int) = (q : Int) := IntWalk.i64_in _ (by omega)
        have hwr : IntKind.i64.wrap (r : Int) = (r : Int) := IntWalk.i64_in _ (by omega)
        have i6 : (0 : Int) ≤ (q : Int) := by omega
        have i7 : (q : Int) < (N : Int) := by omega
        have i8 : (q : Int).toNat = q := by omega
        have HM := Lib.hid hm
        have HA := Lib.hid ha
        have HD := Lib.hid hd
        have HPL := Lib.hid hplen
        have HQE := Lib.hid hqe
        clear hm ha hd hplen hqe hre hbv hcell hsh hl8 hq8
        generalize x.val * 2 ^ r = sh at *
        gi_wp2_with fail
        refine regionIn_quiet_tail (C := NewBut W) lp 11 mixed (by kernel_rfl) (by kernel_rfl) (by rintro ⟨_, _, h⟩; exact h) (show Below _ _ _ from (Below.refl _ _).drew) ?_
        simp only [List.take_succ_cons, List.take_zero, List.drop_succ_cons, List.drop_zero]
        repeat (first | (refine wpQuiet_load_one rfl 49 _ rfl ⟨Z + 1, 0, none⟩ rfl (.slice (some ⟨Z, 0, none⟩) N N) (fun wx h => HM.out wx h) Try.underlying49 rfl ?_) | (refine wpQuiet_load_one rfl 3 _ rfl ⟨Z + 1 + 1, 0, none⟩ rfl (.int .i64 (pre.length : Int)) (fun wx h => HA.out wx h) Try.underlying3 rfl ?_) | (refine wpQuiet_load_one rfl 5 _ rfl ⟨Z, q, none⟩ rfl (.int .u8 (b : Int)) (fun wx h => HD.out wx h) Try.underlying5 rfl ?_) | (refine wpQuiet_step (fun K' hK' => ?_); go_simp; (refine ⟨_, fun _ _ => rfl, hK' _ ?_⟩; clear hK' K')))
        refine wpQuiet_nil ?_
        intro w5 hb5
        have f1 := (h1.below hb5 h1.lt)
        have f2 := (h2.below hb5 h2.lt)
        have f3 := (h3.below hb5 h3.lt)
        have fb := hb.trans (hb5.mono hb.size)
        have kp1 := KpC.of_below (B := w.heap.size) (G := Z + 1 + 1 + 1) (M := Z + 4) hb5
        have ko1 := KeepsOthers.of_below hb5
        clear HM HA HD h1 h2 h3 hb hb5
        have c1 := f1.nat (j := q) (by rw [HPL.out]; exact hqN)
        have z1 := f1.free q
        have g1 := f1.setNat q y
        have g2 := f2.other (a := ⟨Z, q, none⟩) (show Z ≠ Z + 1 by omega) (.int .u8 (y : Int))
        have g3 := f3.other (a := ⟨Z, q, none⟩) (show Z ≠ Z + 1 + 1 by omega) (.int .u8 (y : Int))
        have gb1 := fb.setCell (p := ⟨Z, q, none⟩) (show w.heap.size ≤ Z by omega) (.int .u8 (y : Int))
        have kp2 := kp1.trans (KpC.setCell (B := w.heap.size) (G := Z + 1 + 1 + 1) (M := Z + 4) w5 ⟨Z, q, none⟩ (.int .u8 (y : Int)) (show w.heap.size ≤ Z by omega) (show Z ≠ Z + 1 + 1 + 1 by omega) (show Z < Z + 4 by omega))
        have ko2 := ko1.trans (KeepsOthers.setCell w5 ⟨Z, q, none⟩ (.int .u8 (y : Int)))
        have c3 := g3.cell 0
        have z3 := g3.free 0
        simp only [List.getElem?_cons_zero] at c3
        clear f1 f2 f3 fb kp1 ko1
        go_wp2
        clear c1 z1
        generalize World.setCell w5 _ _ = w6 at *
        gi_wp2
        refine ⟨ko2.trans (KeepsOthers.setCell w6 _ _), kp2.trans (KpC.setCell w6 ⟨Z + 1 + 1, 0, none⟩ _ (show w.heap.size ≤ Z + 1 + 1 by omega) (show Z + 1 + 1 ≠ Z + 1 + 1 + 1 by omega) (show Z + 1 + 1 < Z + 4 by omega)), ⟨?_, ?_, ?_⟩, gb1.setCell (p := ⟨Z + 1 + 1, 0, none⟩) (show w.heap.size ≤ Z + 1 + 1 by omega) _⟩
        · rw [HYY.out]; exact g1.other (a := ⟨Z + 1 + 1, 0, none⟩) (show Z + 1 + 1 ≠ Z by omega) _
        · exact g2.other (a := ⟨Z + 1 + 1, 0, none⟩) (show Z + 1 + 1 ≠ Z + 1 by omega) _
        · have := g3.set 0 (.int .i64 ((pre.length : Int) + 1))
          rw [List.length_append, List.length_singleton]
          exact this
      case done =>
        rintro D ys W hD hys ⟨⟨h1, h2, h3⟩, hb⟩ hK
        have hfull : nn (partB N (ys.map (·.val))) = nn (bytesB (bitsP l)) := by
          rw [hys, ← partB_full, bitsP_len HY.out, hN]
        have hlen : N = (nn (bytesB (bitsP l))).length := by rw [nn_length, bytesB_len, bitsP_len HY.out, hN]
        rw [hfull] at h1
        have c2 := h2.cell 0
        simp only [List.getElem?_cons_zero] at c2
        have HLN := Lib.hid hlen
        clear KS Kd Kd' Km Ka Kg Kb hfull hlen hys h2 h3
        go_wp2_with (refine wpList_bytes_string rfl 49 9 5 _ rfl Z N N (nn (bytesB (bitsP l))) rfl Try.underlying49 Try.underlying5 Try.underlying9 h1.whole HLN.out ?_)
        refine ⟨by simp, .inl ⟨_, _, rfl, run_takeDeferred hK, ?_⟩⟩
        exact ⟨_, results_tmp2 rfl _ _ _, rfl, hb.trans (belowK_b (w := w) (Nat.le_refl _) _ D _ _ (by omega) hK rfl rfl)⟩
      case stop =>
        rintro D c pre W _ _ h _
        exact h.elim
end Go.Proofs.Ytpjfafefgmjmfaa
