/- Walk of the slots' newer. -/
import Derived.Test.YtccplgicfbfjiaaOgPw
import Derived.Test.YtccplgicfbfjiaaJ1
namespace Go.Proofs.Ytccplgicfbfjiaa
open Go.RowKit
set_option linter.unusedVariables false

/-- the slot with the greater number, of the same the first one -/
def newO (a b : Option (Nat × List Nat)) : Option (Nat × List Nat) := if olderN a b = true then b else a
theorem newO_load (x y : List Nat) : newO (slotF x) (slotF y) = loadL x y := by
  unfold newO loadL
  cases slotF x with
  | none => cases slotF y <;> rfl
  | some a =>
    cases slotF y with
    | none => rfl
    | some b => simp [olderN]
theorem size_two : (Try.prog.info? 70).map (·.size) = some 6 := by kernel_rfl
theorem slotV_len (a : Option (Nat × List Nat)) : (slotV a).length = 3 := by cases a <;> rfl
theorem slotV_one (a : Option (Nat × List Nat)) : (slotV a).toArray.all (·.oneCell') = true := by cases a <;> simp [slotV, Value.oneCell']
set_option maxRecDepth 100000 in
theorem g_newer (a b : Option (Nat × List Nat)) (w : World) (v : List Value) (hv : slotV (newO a b) = v) :
    Calls Try.prog 32 #[.agg (slotV a ++ slotV b).toArray] w fun e w' => e = .returned (.agg v.toArray) ∧ Below w.heap.size w w' := by
  obtain ⟨va, hva⟩ : ∃ va, slotV a = va := ⟨_, rfl⟩
  obtain ⟨vb, hvb⟩ : ∃ vb, slotV b = vb := ⟨_, rfl⟩
  have la : va.length = 3 := by rw [← hva]; exact slotV_len a
  have lb : vb.length = 3 := by rw [← hvb]; exact slotV_len b
  have oa := slotV_one a
  have ob := slotV_one b
  obtain ⟨r, hr⟩ : ∃ r, olderN a b = r := ⟨_, rfl⟩
  have hv2 : (if r = true then vb else va) = v := by rw [← hv, ← hva, ← hvb, ← hr]; unfold newO; split <;> rfl
  have HO := Lib.hid (fun wx Eb (hE : Blk wx Eb 54 (slotV none)) => g_older a b va vb hva hvb Eb wx hE r hr)
  obtain ⟨z, hz⟩ : ∃ z, w.heap.size = z := ⟨_, rfl⟩
  obtain ⟨vv, hvv⟩ : ∃ vv, va ++ vb = vv := ⟨_, rfl⟩
  rw [hva, hvb, hvv]
  have zv : slotV none = [.bool false, .int .u64 0, .string ⟨#[]⟩] := rfl
  obtain ⟨w1, hw1⟩ : ∃ w1, w.alloc (.cells vv.toArray 70) = w1 := ⟨_, rfl⟩
  obtain ⟨w2, hw2⟩ : ∃ w2, w1.alloc (.cells #[.bool false, .int .u64 0, .string ⟨#[]⟩] 54) = w2 := ⟨_, rfl⟩
  obtain ⟨w3, hw3⟩ : ∃ w3, w2.alloc (.cells #[.bool false, .int .u64 0, .string ⟨#[]⟩] 54) = w3 := ⟨_, rfl⟩
  have z1 : w1.heap.size = z + 1 := by rw [← hw1, ← hz]; simp
  have z2 : w2.heap.size = z + 1 + 1 := by rw [← hw2, ← z1]; simp
  have kS : Blk w3 (z + 1 + 1) 54 [.bool false, .int .u64 0, .string ⟨#[]⟩] := by rw [← hw3, ← z2]; exact Blk.new' w2 54 [.bool false, .int .u64 0, .string ⟨#[]⟩] rfl
  obtain ⟨w4, hw4⟩ : ∃ w4, w3.setRow (z + 1 + 1) #[.bool false, .int .u64 0, .string ⟨#[]⟩] = w4 := ⟨_, rfl⟩
  have k0 : Blk w4 z 70 vv := by rw [← hw4, ← hw3, ← hw2, ← hw1, ← hz]; exact (((Blk.new' w 70 vv rfl).alloc _).alloc _).rowOther (by omega) _
  have k1 : Blk w4 (z + 1 + 1) 54 (slotV none) := by rw [← hw4]; exact kS.row [.bool false, .int .u64 0, .string ⟨#[]⟩] rfl
  have k2 : Blk w4 (z + 1) 54 (slotV none) := by rw [← hw4, ← hw3, ← hw2, ← z1]; exact ((Blk.new' w1 54 (slotV none) rfl).alloc _).rowOther (by omega) _
  have kb : Below z w w4 := by rw [← hw4, ← hw3, ← hw2, ← hw1, ← hz]; exact below_setRow ((((Below.refl _ _).alloc (Nat.le_refl _) _).alloc (by simp) _).alloc (by simp; omega) _) (by omega) _
  have l0 : ∀ wx, Below w4.heap.size w4 wx → ∀ j v, va[j]? = some v → wx.cell? ((⟨z, 0, none⟩ : Addr).add j) = some v := fun wx hx j v h => by
    rw [Addr.add_mid]
    refine (k0.below hx k0.lt).whole j v ?_
    rw [← hvv, List.getElem?_append_left (List.getElem?_eq_some_iff.1 h).1]
    exact h
  have l1 : ∀ wx, Below w4.heap.size w4 wx → ∀ j v, vb[j]? = some v → wx.cell? ((⟨z, 3, none⟩ : Addr).add j) = some v := fun wx hx j v h => by
    rw [Addr.add_mid]
    have := (k0.below hx k0.lt).whole (3 + j) v (by rw [← hvv, List.getElem?_append_right (by omega), la, Nat.add_sub_cancel_left]; exact h)
    simpa using this
  have KS := Lib.hid kS
  have HK2 := Lib.hid k2
  have HKB := Lib.hid kb
  have L0 := Lib.hid l0
  have L1 := Lib.hid l1
  have LA := Lib.hid la
  have LB := Lib.hid lb
  have OA := Lib.hid oa
  have OB := Lib.hid ob
  have HO4 := Lib.hid (HO.out w4 (z + 1 + 1) k1)
  rw [hva] at OA
  rw [hvb] at OB
  have Z0 : Hid (z < w4.heap.size) := Lib.hid k0.lt
  clear l0 l1 la lb oa ob k0 k1 k2 kb hv hr hva hvb zv kS HO
  go_enter Try.func32, Try.ntmps32
  go_wp2_with (first | (refine wpList_store_blk rfl 54 _ _ rfl (z + 1 + 1) [.bool false, .int .u64 0, .string ⟨#[]⟩] rfl rfl KS.out (by rw [size_slot]; rfl) rfl (by simp [Value.oneCell']) ?_; rw [hw4]) | (refine wpList_load_addr rfl 54 _ rfl ⟨z, 0, none⟩ rfl va (L0.out _ (Below.refl _ _)) Try.underlying54 rfl (by rw [size_slot, LA.out]) ?_) | (refine wpList_load_addr rfl 54 _ rfl ⟨z, 3, none⟩ rfl vb (L1.out _ (Below.refl _ _)) Try.underlying54 rfl (by rw [size_slot, LB.out]) ?_) | fail)
  (with_reducible refine HO4.out.mono ?_)
  rintro e w5 ⟨rfl, hb5⟩
  have KR := HK2.out.below hb5 HK2.out.lt
  unfold slotV at KR
  cases r with
  | true =>
    simp only [if_pos] at hv2
    go_wp2_with (first | (refine wpList_load_addr rfl 54 _ rfl ⟨z, 3, none⟩ rfl vb (L1.out _ hb5) Try.underlying54 rfl (by rw [size_slot, LB.out]) ?_) | (refine wpList_store_blk rfl 54 _ _ rfl (z + 1) vb rfl rfl KR (by rw [size_slot, LB.out]) (by rw [LB.out]; rfl) OB.out ?_))
    refine bodyPost_ret (v := .agg vb.toArray) (results_cell_blk rfl _ _ _ rfl (KR.row vb (by rw [LB.out]; rfl)) Try.underlying54 rfl (by rw [size_slot, LB.out])) rfl ⟨by rw [← hv2], by rw [hz]; exact below_setRow (HKB.out.trans (hb5.mono (Nat.le_of_lt Z0.out))) (Nat.le_succ z) _⟩
  | false =>
    simp only [Bool.false_eq_true, if_false] at hv2
    go_wp2_with (first | (refine wpList_load_addr rfl 54 _ rfl ⟨z, 0, none⟩ rfl va (L0.out _ hb5) Try.underlying54 rfl (by rw [size_slot, LA.out]) ?_) | (refine wpList_store_blk rfl 54 _ _ rfl (z + 1) va rfl rfl KR (by rw [size_slot, LA.out]) (by rw [LA.out]; rfl) OA.out ?_))
    refine bodyPost_ret (v := .agg va.toArray) (results_cell_blk rfl _ _ _ rfl (KR.row va (by rw [LA.out]; rfl)) Try.underlying54 rfl (by rw [size_slot, LA.out])) rfl ⟨by rw [← hv2], by rw [hz]; exact below_setRow (HKB.out.trans (hb5.mono (Nat.le_of_lt Z0.out))) (Nat.le_succ z) _⟩
end Go.Proofs.Ytccplgicfbfjiaa
