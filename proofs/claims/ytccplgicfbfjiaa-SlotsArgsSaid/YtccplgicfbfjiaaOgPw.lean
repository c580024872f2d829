/- Walks of the slots' plainest calls: Size, what a slot's bytes come to, the newer one, the start of a slot. -/
import Derived.Test.YtccplgicfbfjiaaOgNum
import Derived.Test.YtccplgicfbfjiaaKB
import Derived.Test.YtccplgicfbfjiaaV1
import Derived.Test.YtccplgicfbfjiaaG1
namespace Go.Proofs.Ytccplgicfbfjiaa
open Go.RowKit
set_option linter.unusedVariables false

/-- a slot in memory -/
def slotV : Option (Nat × List Nat) → List Value
  | none => [.bool false, .int .u64 0, .string ⟨#[]⟩]
  | some x => [.bool true, .int .u64 (x.1 : Int), .string (tx x.2)]
theorem size_slot : (Try.prog.info? 54).map (·.size) = some 3 := by kernel_rfl
theorem size_pair : (Try.prog.info? 50).map (·.size) = some 3 := by kernel_rfl
set_option maxRecDepth 100000 in
theorem g_Size0 (k : Nat) (w : World) (h1 : 1 ≤ k) (h2 : k ≤ 100) (n : Nat) (hn : slSize k = n) :
    Calls Try.prog 14 #[.int .i64 (k : Int)] w fun x w' => x = .returned (.int .i64 (n : Int)) ∧ w' = w := by
  unfold slSize at hn
  have i1 : (0 : Int) < (k : Int) := by omega
  by_cases h : k = 100
  · subst h
    obtain rfl : 1016 = n := hn
    go_enter Try.func14, Try.ntmps14
    go_wp2
    go_ret
    exact ⟨rfl, rfl⟩
  · have i2 : (k : Int) < 100 := by omega
    have e1 : IntKind.i64.wrap ((k : Int) * 32) = ((32 * k : Nat) : Int) := by rw [IntKind.wrap_i64]; omega
    by_cases hk : k ≤ 32
    · obtain rfl : 32 * k - 14 = n := by omega
      have e2 : (k : Int) * 32 - 6 - 8 = ((32 * k - 14 : Nat) : Int) := by omega
      have i3 : (0 : Int) < (k : Int) * 32 - 6 - 8 := by omega
      have i4 : (k : Int) * 32 - 6 - 8 < 1016 := by omega
      have E2 := Lib.hid e2
      clear e2 hn h
      go_enter Try.func14, Try.ntmps14
      go_wp2
      go_ret
      exact ⟨by have := E2.out; simp; omega, rfl⟩
    · obtain rfl : 1016 = n := by omega
      have i3 : (0 : Int) < (k : Int) * 32 - 6 - 8 := by omega
      have i4 : 1016 < (k : Int) * 32 - 6 - 8 := by omega
      clear hn h
      go_enter Try.func14, Try.ntmps14
      go_wp2
      go_ret
      exact ⟨rfl, rfl⟩
theorem g_Size (k : Nat) (w : World) (h1 : 1 ≤ k) (h2 : k ≤ 100) (n : Nat) (hn : slSize k = n) :
    Calls Try.prog 14 #[.int .i64 (k : Int)] w fun x w' => x = .returned (.int .i64 (n : Int)) ∧ Below w.heap.size w w' :=
  (g_Size0 k w h1 h2 n hn).mono fun _ _ ⟨e, e'⟩ => ⟨e, e' ▸ Below.refl _ _⟩
set_option maxRecDepth 100000 in
theorem g_slotOf (s : ByteArray) (w : World) (hs : s.size ≤ 60000) (v : List Value) (hv : slotV (slotF (sl s)) = v) :
    Calls Try.prog 31 #[.string s] w fun e w' => e = .returned (.agg v.toArray) ∧ Below w.heap.size w w' := by
  have kb : ∀ b n x w, (Instr.build 54 #[(0, .bool b), (1, .int .u64 n), (2, .string x)]).run Try.prog w = .ok (.agg #[.bool b, .int .u64 n, .string x]) w := fun b n x w => by kernel_rfl
  obtain ⟨w1, hw1⟩ : ∃ w1, w.alloc (.cells #[.bool false, .int .u64 0, .string ⟨#[]⟩] 54) = w1 := ⟨_, rfl⟩
  have hb1 : Below w.heap.size w w1 := by rw [← hw1]; exact (Below.refl w.heap.size w).alloc (Nat.le_refl _) _
  have k1 : Blk w1 w.heap.size 54 (slotV none) := by rw [← hw1]; exact Blk.new w _ _
  obtain ⟨z, hz⟩ : ∃ z, w.heap.size = z := ⟨_, rfl⟩
  rw [hz] at hb1 k1 ⊢
  unfold slotF at hv
  by_cases h0 : (firstK (sl s)).2.2 = 0
  · obtain ⟨x, r, hx⟩ : ∃ x r, firstK (sl s) = (x, r, 0) := ⟨_, _, by rw [← h0]⟩
    have hxb : Bys x := by
      have := (first_is hx).2.1
      rw [this]
      exact ((sl_bys s).drop _).take _
    have HF := Lib.hid (k_First_ok s w1 hs x r hx)
    rw [hx] at hv
    simp only [true_and] at hv
    by_cases h8 : 8 ≤ x.length
    · rw [if_pos h8] at hv
      obtain ⟨n, hn⟩ : ∃ n, fixN x 8 = n := ⟨_, rfl⟩
      obtain ⟨y, hy⟩ : ∃ y, tx (x.drop 8) = y := ⟨_, rfl⟩
      rw [hn] at hv
      have hv2 : [.bool true, .int .u64 (n : Int), .string y] = v := by rw [← hv, ← hy]; rfl
      have HX := Lib.hid (fun wx => v_Fixed (tx x) 8 wx (by decide) (by decide) (by rw [tx_size]; have := (first_is hx).2.2.2; omega) n 0 y (.inl ⟨by rw [tx_size]; exact h8, by rw [sl_tx hxb]; exact hn, by rw [tail_tx, sl_tx hxb]; exact hy, rfl⟩))
      have HB1 := Lib.hid hb1
      have HK1 := Lib.hid k1
      have HKB := Lib.hid kb
      have HZ := Lib.hid hz
      subst hv2
      clear hv hn hy hs hx hxb h8 hb1 k1 h0 kb
      generalize tx x = X at *
      go_enter Try.func31, Try.ntmps31
      go_wp2_with fail
      (with_reducible refine HF.out.mono ?_)
      rintro e w2 ⟨rfl, hb2⟩
      have HB2 := Lib.hid hb2
      clear hb2
      go_wp2_with fail
      refine (HX.out _).mono ?_
      rintro e w3 ⟨rfl, hb3⟩
      have k3 := (HK1.out.below HB2.out HK1.out.lt).below hb3 (Nat.lt_of_lt_of_le HK1.out.lt HB2.out.size)
      have K3 := Lib.hid k3
      have B3 := Lib.hid (HB1.out.trans (HB2.out.mono (Nat.le_of_lt HK1.out.lt) |>.trans (hb3.mono (Nat.le_trans (Nat.le_of_lt HK1.out.lt) HB2.out.size))))
      clear hb3 k3
      go_wp2_with (first | (refine wpList_build_at rfl 54 _ rfl _ (by simp only [List.map_toArray, List.map_cons, List.map_nil]; exact HKB.out _ _ _ _) ?_) | (refine wpList_store_blk rfl 54 _ _ rfl z [.bool true, .int .u64 (n : Int), .string y] (by first | rfl | rw [hz]) rfl K3.out (by rw [size_slot]; rfl) rfl (by simp [Value.oneCell']) ?_))
      refine bodyPost_ret (v := .agg ([.bool true, .int .u64 (n : Int), .string y]).toArray) (results_cell_blk rfl _ _ _ (by first | rfl | rw [hz]) (K3.out.row [.bool true, .int .u64 (n : Int), .string y] rfl) Try.underlying54 rfl (by rw [size_slot]; rfl)) rfl ⟨rfl, below_setRow B3.out (Nat.le_refl _) _⟩
    · rw [if_neg h8] at hv
      have HX := Lib.hid (fun wx => v_Fixed (tx x) 8 wx (by decide) (by decide) (by rw [tx_size]; have := (first_is hx).2.2.2; omega) 0 40 ⟨#[]⟩ (.inr ⟨by rw [tx_size]; omega, rfl, rfl, rfl⟩))
      have HB1 := Lib.hid hb1
      have HK1 := Lib.hid k1
      have hv2 : [.bool false, .int .u64 0, .string ⟨#[]⟩] = v := hv
      subst hv2
      clear hv hs hx hxb h8 hb1 k1 h0 kb
      generalize tx x = X at *
      go_enter Try.func31, Try.ntmps31
      go_wp2_with fail
      (with_reducible refine HF.out.mono ?_)
      rintro e w2 ⟨rfl, hb2⟩
      have HB2 := Lib.hid hb2
      clear hb2
      go_wp2_with fail
      refine (HX.out _).mono ?_
      rintro e w3 ⟨rfl, hb3⟩
      have k3 := (HK1.out.below HB2.out HK1.out.lt).below hb3 (Nat.lt_of_lt_of_le HK1.out.lt HB2.out.size)
      have K3 := Lib.hid k3
      have B3 := Lib.hid (HB1.out.trans (HB2.out.mono (Nat.le_of_lt HK1.out.lt) |>.trans (hb3.mono (Nat.le_trans (Nat.le_of_lt HK1.out.lt) HB2.out.size))))
      clear hb3 k3
      go_wp2_with (refine wpList_store_blk rfl 54 _ _ rfl z [.bool false, .int .u64 0, .string ⟨#[]⟩] (by first | rfl | rw [hz]) rfl K3.out (by rw [size_slot]; rfl) rfl (by simp [Value.oneCell']) ?_)
      refine bodyPost_ret (v := .agg ([.bool false, .int .u64 0, .string ⟨#[]⟩]).toArray) (results_cell_blk rfl _ _ _ (by first | rfl | rw [hz]) (K3.out.row [.bool false, .int .u64 0, .string ⟨#[]⟩] rfl) Try.underlying54 rfl (by rw [size_slot]; rfl)) rfl ⟨rfl, below_setRow B3.out (Nat.le_refl _) _⟩
  · rw [if_neg fun h => h0 h.1] at hv
    have HF := Lib.hid (k_First_no s w1 hs h0)
    have HB1 := Lib.hid hb1
    have HK1 := Lib.hid k1
    have hv2 : [.bool false, .int .u64 0, .string ⟨#[]⟩] = v := hv
    have h9 : ((((firstK (sl s)).2.2 : Nat) : Int) != 0) = true := by simpa using h0
    subst hv2
    clear hv hs h0 hb1 k1 kb
    generalize (firstK (sl s)).2.2 = er at *
    go_enter Try.func31, Try.ntmps31
    go_wp2_with fail
    (with_reducible refine HF.out.mono ?_)
    rintro e w2 ⟨rfl, hb2⟩
    have K2 := Lib.hid (HK1.out.below hb2 HK1.out.lt)
    have B2 := Lib.hid (HB1.out.trans (hb2.mono (Nat.le_of_lt HK1.out.lt)))
    clear hb2
    go_wp2_with (refine wpList_store_blk rfl 54 _ _ rfl z [.bool false, .int .u64 0, .string ⟨#[]⟩] (by first | rfl | rw [hz]) rfl K2.out (by rw [size_slot]; rfl) rfl (by simp [Value.oneCell']) ?_)
    refine bodyPost_ret (v := .agg ([.bool false, .int .u64 0, .string ⟨#[]⟩]).toArray) (results_cell_blk rfl _ _ _ (by first | rfl | rw [hz]) (K2.out.row [.bool false, .int .u64 0, .string ⟨#[]⟩] rfl) Try.underlying54 rfl (by rw [size_slot]; rfl)) rfl ⟨rfl, below_setRow B2.out (Nat.le_refl _) _⟩
def olderN : Option (Nat × List Nat) → Option (Nat × List Nat) → Bool
  | none, _ => true
  | some _, none => false
  | some x, some y => decide (x.1 < y.1)
def numO : Option (Nat × List Nat) → Nat
  | none => 0
  | some y => y.1
theorem slotV_is (b : Option (Nat × List Nat)) : ∃ f s, slotV b = [.bool f, .int .u64 (numO b : Int), .string s] := by
  cases b with
  | none => exact ⟨_, _, rfl⟩
  | some y => exact ⟨_, _, rfl⟩
theorem older_some (x : Nat × List Nat) (b : Option (Nat × List Nat)) : olderN (some x) b = decide ((x.1 : Int) < (numO b : Int)) := by
  cases b with
  | none => simp only [olderN, numO]; exact (decide_eq_false (by omega)).symm
  | some y => simp [olderN, numO]
set_option maxRecDepth 100000 in
theorem g_older (a b : Option (Nat × List Nat)) (va vb : List Value) (ha : slotV a = va) (hb : slotV b = vb) (Eb : Nat) (w : World) (hE : Blk w Eb 54 (slotV none)) (r : Bool) (hr : olderN a b = r) :
    Calls Try.prog 49 #[.agg va.toArray, .agg vb.toArray, .pointer (some ⟨Eb, 0, none⟩)] w fun e w' => e = .returned (.bool r) ∧ Below w.heap.size w w' := by
  have hn : ∀ (n : Nat) (s : ByteArray) w, (binOp .eql 54 (.agg #[.bool true, .int .u64 (n : Int), .string s]) (.agg #[.bool false, .int .u64 0, .string ⟨#[]⟩])).run Try.prog w = .ok (.bool false) w := fun n s w => by kernel_rfl
  have hy : ∀ w, (binOp .eql 54 (.agg #[.bool false, .int .u64 0, .string ⟨#[]⟩]) (.agg #[.bool false, .int .u64 0, .string ⟨#[]⟩])).run Try.prog w = .ok (.bool true) w := fun w => by kernel_rfl
  obtain ⟨fb, sb, hvb⟩ := slotV_is b
  rw [hb] at hvb
  subst hvb
  have hl := hE.lt
  have kb : Below w.heap.size w ((w.alloc (.cells va.toArray 54)).alloc (.cells #[.bool fb, .int .u64 (numO b : Int), .string sb] 54)) := ((Below.refl _ _).alloc (Nat.le_refl _) _).alloc (by simp) _
  have k0 : Blk ((w.alloc (.cells va.toArray 54)).alloc (.cells #[.bool fb, .int .u64 (numO b : Int), .string sb] 54)) w.heap.size 54 va := (Blk.new' w 54 va rfl).alloc _
  have k1 : Blk ((w.alloc (.cells va.toArray 54)).alloc (.cells #[.bool fb, .int .u64 (numO b : Int), .string sb] 54)) (w.heap.size + 1) 54 [.bool fb, .int .u64 (numO b : Int), .string sb] := Blk.new2 w _ 54 [.bool fb, .int .u64 (numO b : Int), .string sb] rfl
  have kE : Blk _ Eb 54 [.bool false, .int .u64 0, .string ⟨#[]⟩] := hE.below kb hE.lt
  obtain ⟨w2, hw2⟩ : ∃ w2, (w.alloc (.cells va.toArray 54)).alloc (.cells #[.bool fb, .int .u64 (numO b : Int), .string sb] 54) = w2 := ⟨_, rfl⟩
  rw [hw2] at kb k0 k1 kE
  have c1 := k1.cell 1
  simp only [List.getElem?_cons_zero, List.getElem?_cons_succ] at c1
  have HKE := Lib.hid kE
  have HK0 := Lib.hid k0
  have HKB := Lib.hid kb
  clear hE hb hl kE kb k1
  cases a with
  | none =>
    have hva : va = [.bool false, .int .u64 0, .string ⟨#[]⟩] := ha.symm
    obtain rfl : true = r := hr
    subst hva
    clear ha k0
    generalize (numO b : Int) = nb at *
    go_enter Try.func49, Try.ntmps49
    go_wp2_with (first | (refine wpList_load_blk rfl 54 _ rfl w.heap.size rfl HK0.out Try.underlying54 rfl (by rw [size_slot]; rfl) ?_) | (refine wpList_load_blk rfl 54 _ rfl Eb rfl HKE.out Try.underlying54 rfl (by rw [size_slot]; rfl) ?_))
    go_ret
    exact ⟨rfl, HKB.out⟩
  | some x =>
    have hva : va = [.bool true, .int .u64 (x.1 : Int), .string (tx x.2)] := ha.symm
    rw [older_some] at hr
    subst hva
    have c0 := k0.cell 1
    simp only [List.getElem?_cons_zero, List.getElem?_cons_succ] at c0
    clear ha k0
    generalize (numO b : Int) = nb at *
    generalize tx x.2 = X at *
    generalize x.1 = na at *
    go_enter Try.func49, Try.ntmps49
    go_wp2_with (first | (refine wpList_load_blk rfl 54 _ rfl w.heap.size rfl HK0.out Try.underlying54 rfl (by rw [size_slot]; rfl) ?_) | (refine wpList_load_blk rfl 54 _ rfl Eb rfl HKE.out Try.underlying54 rfl (by rw [size_slot]; rfl) ?_))
    go_ret
    exact ⟨by rw [← hr]; rfl, HKB.out⟩
end Go.Proofs.Ytccplgicfbfjiaa
