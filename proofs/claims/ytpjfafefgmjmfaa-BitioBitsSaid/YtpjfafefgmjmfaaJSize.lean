/- Walks of bitio's Size, and of the reference's. -/
import Derived.Test.YtpjfafefgmjmfaaJSmall
namespace Go.Proofs.Ytpjfafefgmjmfaa
open Go.RowKit
set_option linter.unusedVariables false

/-- pieces as rows -/
def rowP (q : Nat × Int) : List Value := [.int .u32 (q.1 : Int), .int .i64 q.2]
def rowsP (l : List (Nat × Int)) : List (List Value) := l.map rowP
theorem rowsP_len (l : List (Nat × Int)) : (rowsP l).length = l.length := by simp [rowsP]
theorem rowP_one (q : Nat × Int) : (rowP q).toArray.all (·.oneCell') = true := by simp [rowP, Value.oneCell']
theorem rowsP_at {l : List (Nat × Int)} {j : Nat} (h : j < l.length) : (rowsP l)[j]? = some (rowP l[j]) := by simp [rowsP, h]
theorem sizeP_snoc (l : List (Nat × Int)) (j : Nat) (h : j < l.length) : sizeP (l.take (j + 1)) = sizeP (l.take j) + if mayP l[j] then l[j].2.toNat else 0 := by
  rw [List.take_succ_eq_append_getElem h, sizeP_app]
  simp [sizeP]
set_option maxRecDepth 100000 in
set_option maxHeartbeats 1000000 in
theorem i_Size (l : List (Nat × Int)) (p : Option Addr) (cap : Nat) (w : World) (hl : l.length ≤ 1000000) (hS : Sl w 2 (.slice p l.length cap) (rowsP l)) :
    Calls Try.prog 12 #[.slice p l.length cap] w fun e w' => e = .returned (.int .i64 ((sizeP l : Nat) : Int)) ∧ Below w.heap.size w w' := by
  go_enter Try.func12, Try.ntmps12
  go_wp2
  go_loopw [3, 8] (fun u i wr => ∃ j : Nat, j ≤ l.length ∧ i = .int .i64 (j : Int) ∧ u = .int .i64 ((sizeP (l.take j) : Nat) : Int) ∧ Below w.heap.size w wr) (fun _ i _ => l.length - (intOf i).toNat)
  case atStart => exact ⟨0, by omega, rfl, rfl, Below.refl _ _⟩
  case round =>
    obtain ⟨j, hj, rfl, rfl, gb⟩ := hrel
    by_cases hlt : j < l.length
    · have hS' := hS.below gb
      obtain ⟨a, rfl, hc⟩ := hS'.row (rowsP_at hlt)
      have hsn := sizeP_snoc l j hlt
      have hsz := sizeP_le (l.take j)
      have hlen : (l.take j).length ≤ j := by simp; omega
      have k0 := Blk.new' wr 45 (rowP l[j]) rfl
      have HSN := Lib.hid hsn
      have HC := Lib.hid hc
      have d1 : (j : Int) < (l.length : Int) := by omega
      generalize l[j] = q at *
      obtain ⟨n, x⟩ := q
      have k1 := Blk.new' wr 45 (c := #[.int .u32 0, .int .i64 0]) (rowP (0, 0)) rfl
      have k2 := k1.row (rowP (n, x)) rfl
      have kb := below_setRow ((Below.refl wr.heap.size wr).alloc (Nat.le_refl _) (.cells #[.int .u32 0, .int .i64 0] 45)) (Nat.le_refl wr.heap.size) (rowP (n, x)).toArray
      clear hsn hc hS k0
      go_wp2_with (first | (refine wpList_load_addr rfl 45 _ rfl _ rfl (rowP (n, x)) HC.out Try.underlying45 rfl (by rw [size_piece]; rfl) ?_) | (refine wpList_store_blk rfl 45 _ _ rfl wr.heap.size (rowP (n, x)) rfl rfl k1 (by rw [size_piece]; rfl) rfl (rowP_one _) ?_) | (refine wpList_load_blk rfl 45 _ rfl _ rfl k2 Try.underlying45 rfl (by rw [size_piece]; rfl) ?_))
      by_cases hm : mayP (n, x)
      · obtain ⟨k, rfl⟩ : ∃ k : Nat, x = (k : Int) := ⟨x.toNat, by have := hm.1; simp at this; omega⟩
        have hk : k ≤ 24 := by have := hm.2.1; simp at this; omega
        have hnk : n < 2 ^ k := by have := hm.2.2; simpa using this
        have e1 : sizeP (l.take (j + 1)) = sizeP (l.take j) + k := by rw [HSN.out, if_pos hm]; rfl
        have E1 := Lib.hid e1
        clear e1 HSN hm
        have hM : ∀ w, Calls Try.prog 21 #[.agg (rowP (n, (k : Int))).toArray] w fun e w' => e = .returned (.bool true) ∧ Below w.heap.size w w' := fun w => i_may_yes n k w hk hnk
        (with_reducible refine (hM _).mono ?_)
        rintro e w9 ⟨rfl, hb9⟩
        have k3 := k2.below hb9 k2.lt
        have kb9 := gb.trans ((kb.trans (hb9.mono kb.size)).mono gb.size)
        have c1 := k3.cell 1
        simp only [rowP, List.getElem?_cons_zero, List.getElem?_cons_succ] at c1
        clear k1 k2 k3 kb hb9 hnk HC hS' gb hM
        generalize wr.heap.size = B at *
        go_wp2
        go_roundw
        case rel => exact ⟨j + 1, by omega, by go_num, by rw [E1.out]; go_num, kb9⟩
        case measure => simp [intOf]; omega
      · have e1 : sizeP (l.take (j + 1)) = sizeP (l.take j) := by rw [HSN.out, if_neg hm]; rfl
        have E1 := Lib.hid e1
        clear e1 HSN
        have hM : ∀ w, Calls Try.prog 21 #[.agg (rowP (n, x)).toArray] w fun e w' => e = .returned (.bool false) ∧ Below w.heap.size w w' := fun w => i_may_no n x w hm
        (with_reducible refine (hM _).mono ?_)
        rintro e w9 ⟨rfl, hb9⟩
        have kb9 := gb.trans ((kb.trans (hb9.mono kb.size)).mono gb.size)
        clear k1 k2 kb hb9 HC hS' gb hm hM
        generalize wr.heap.size = B at *
        go_wp2
        go_roundw
        case rel => exact ⟨j + 1, by omega, by go_num, by rw [E1.out], kb9⟩
        case measure => simp [intOf]; omega
    · obtain rfl : j = l.length := by omega
      go_wp2
      go_ret
      exact ⟨by rw [List.take_length]; rfl, gb⟩
theorem size_rpiece : (Try.prog.info? 54).map (·.size) = some 2 := by kernel_rfl
set_option maxRecDepth 100000 in
set_option maxHeartbeats 1000000 in
theorem r_Size (l : List (Nat × Int)) (p : Option Addr) (cap : Nat) (w : World) (hl : l.length ≤ 1000000) (hu : ∀ q ∈ l, q.1 < 4294967296) (hS : Sl w 2 (.slice p l.length cap) (rowsP l)) :
    Calls Try.prog 13 #[.slice p l.length cap] w fun e w' => e = .returned (.int .i64 ((sizeP l : Nat) : Int)) ∧ Below w.heap.size w w' := by
  go_enter Try.func13, Try.ntmps13
  go_wp2
  go_loopw [3, 4] (fun u i wr => ∃ j : Nat, j ≤ l.length ∧ i = .int .i64 (j : Int) ∧ u = .int .i64 ((sizeP (l.take j) : Nat) : Int) ∧ Below w.heap.size w wr) (fun _ i _ => l.length - (intOf i).toNat)
  case atStart => exact ⟨0, by omega, rfl, rfl, Below.refl _ _⟩
  case round =>
    obtain ⟨j, hj, rfl, rfl, gb⟩ := hrel
    by_cases hlt : j < l.length
    · have hS' := hS.below gb
      obtain ⟨a, rfl, hc⟩ := hS'.row (rowsP_at hlt)
      have hsn := sizeP_snoc l j hlt
      have hsz := sizeP_le (l.take j)
      have hlen : (l.take j).length ≤ j := by simp; omega
      have hq := hu _ (List.getElem_mem hlt)
      have HSN := Lib.hid hsn
      have HC := Lib.hid hc
      have d1 : (j : Int) < (l.length : Int) := by omega
      have hcn : ∀ wx, Below w.heap.size w wx → wx.cell? ⟨(a.add (j * 2)).block, (a.add (j * 2)).off + 1, none⟩ = some (.int .i64 l[j].2) := fun wx hb => by
        obtain ⟨a2, e2, hc2⟩ := (hS.below hb).row (rowsP_at hlt)
        cases e2
        exact hc2 1 _ rfl
      have HCN := Lib.hid hcn
      generalize l[j] = q at *
      obtain ⟨n, x⟩ := q
      clear hsn hc hS hcn
      go_wp2_with (first | (refine wpList_load_addr rfl 54 _ rfl _ rfl (rowP (n, x)) HC.out Try.underlying54 rfl (by rw [size_rpiece]; rfl) ?_))
      by_cases hm : mayP (n, x)
      · obtain ⟨k, rfl⟩ : ∃ k : Nat, x = (k : Int) := ⟨x.toNat, by have := hm.1; simp at this; omega⟩
        have hk : k ≤ 24 := by have := hm.2.1; simp at this; omega
        have hnk : n < 2 ^ k := by have := hm.2.2; simpa using this
        have e1 : sizeP (l.take (j + 1)) = sizeP (l.take j) + k := by rw [HSN.out, if_pos hm]; rfl
        have E1 := Lib.hid e1
        clear e1 HSN hm
        have hM : ∀ w, Calls Try.prog 23 #[.agg (rowP (n, (k : Int))).toArray] w fun e w' => e = .returned (.bool true) ∧ Below w.heap.size w w' := fun w => r_may_yes n k w hk hnk
        (with_reducible refine (hM _).mono ?_)
        rintro e w9 ⟨rfl, hb9⟩
        have kb9 := gb.trans (hb9.mono gb.size)
        have c1 := HCN.out _ kb9
        clear hb9 hnk HC hS' gb HCN hM
        go_wp2
        go_roundw
        case rel => exact ⟨j + 1, by omega, by go_num, by rw [E1.out]; go_num, kb9⟩
        case measure => simp [intOf]; omega
      · have e1 : sizeP (l.take (j + 1)) = sizeP (l.take j) := by rw [HSN.out, if_neg hm]; rfl
        have E1 := Lib.hid e1
        clear e1 HSN
        have hM : ∀ w, Calls Try.prog 23 #[.agg (rowP (n, x)).toArray] w fun e w' => e = .returned (.bool false) ∧ Below w.heap.size w w' := fun w => r_may_no n x w hq hm
        (with_reducible refine (hM _).mono ?_)
        rintro e w9 ⟨rfl, hb9⟩
        have kb9 := gb.trans (hb9.mono gb.size)
        clear hb9 HC hS' gb hm hM HCN
        go_wp2
        go_roundw
        case rel => exact ⟨j + 1, by omega, by go_num, by rw [E1.out], kb9⟩
        case measure => simp [intOf]; omega
    · obtain rfl : j = l.length := by omega
      go_wp2
      go_ret
      exact ⟨by rw [List.take_length]; rfl, gb⟩
end Go.Proofs.Ytpjfafefgmjmfaa
