/-
  For all three texts: of their beginnings of one length, the sum of what differs of them is what differs of their sums; and the sum of bytes 0 is the document's. Longer texts than the bound are answered by the case shown alone. No condition.
-/
import Derived.Test.YtlolcpfkaoembaaRows
import Derived.Test.YtlolcpfkaoembaaKB
import Derived.Test.YtlolcpfkaoembaaKC
import Derived.Test.YtlolcpfkaoembaaKA
import Derived.Test.YtlolcpfkaoembaaG3
import Derived.Test.YtlolcpfkaoembaaG1
import Derived.Maps.AppendAt
import Derived.ShutString
import Derived.ChangeOld
namespace Go.Proofs.Ytlolcpfkaoembaa.checkSums
open Go.ChangeShapes Go.WideShapes Go.ChangeAt Go.RowKit
open Go.ChangeMaps (open_string shut_string)
set_option linter.unusedVariables false

/-- what differs of three texts -/
def x3 (a b c : List Nat) (j : Nat) : List Nat := (List.range j).map fun i => (a.getD i 0 ^^^ b.getD i 0) ^^^ c.getD i 0
theorem x3_len (a b c : List Nat) (j : Nat) : (x3 a b c j).length = j := by simp [x3]
theorem x3_at (a b c : List Nat) {j i : Nat} (h : i < j) : (x3 a b c j).getD i 0 = (a.getD i 0 ^^^ b.getD i 0) ^^^ c.getD i 0 := map_range_getD _ _ _ h
theorem x3_snoc (a b c : List Nat) (j : Nat) : x3 a b c (j + 1) = x3 a b c j ++ [(a.getD j 0 ^^^ b.getD j 0) ^^^ c.getD j 0] := by unfold x3; rw [List.range_succ, List.map_append]; rfl
theorem x3_bys {a b c : List Nat} (ha : Bys a) (hb : Bys b) (hc : Bys c) (j : Nat) : Bys (x3 a b c j) := Bys.of fun y hy => by
  unfold x3 at hy
  obtain ⟨i, _, rfl⟩ := List.mem_map.1 hy
  exact Nat.xor_lt_two_pow (n := 8) (Nat.xor_lt_two_pow (n := 8) (ha i) (hb i)) (hc i)
/-- what the operations of a round come to -/
def smS (base : Nat) (vx vz : Value) (lx : List Int) (n : Nat) (a b c : ByteArray) (j x1 x2 x3 x12 y : Nat) (bb : Bool) (i : Nat) (v : Value) (W : World) : Prop :=
  match i with
  | 0 => v = vx ∧ (bb = false → OwnB W base 5 vx lx)
  | 1 => v = .string a
  | 2 | 5 | 9 => v = .int .i64 (j : Int)
  | 3 => v = .int .u8 (x1 : Int)
  | 4 => v = .string b
  | 6 => v = .int .u8 (x2 : Int)
  | 7 => v = .int .u8 (x12 : Int)
  | 8 => v = .string c
  | 10 => v = .int .u8 (x3 : Int)
  | 11 => v = .int .u8 (y : Int)
  | 12 => bb = false → ∃ B, v = .slice (some ⟨B, 0, none⟩) 1 1 ∧ Blk W B 5 [.int .u8 (y : Int)]
  | 13 | 14 => bb = true ∧ OwnB W base 5 v (lx ++ [(y : Int)]) ∧ (∃ p k, v = .slice p (n + 1) k) ∧ ∀ x, v.ownBlock = some x → vz.ownBlock ≠ some x
  | _ => True
theorem smS_mono {base : Nat} {vx vz : Value} {lx : List Int} {n : Nat} {a b c : ByteArray} {j x1 x2 x3 x12 y : Nat} (bb : Bool) (i : Nat) (v : Value) (W W' : World) (h : smS base vx vz lx n a b c j x1 x2 x3 x12 y bb i v W) (hb : Below W.heap.size W W') : smS base vx vz lx n a b c j x1 x2 x3 x12 y bb i v W' :=
  match i with
  | 1 | 2 | 3 | 4 | 5 | 6 | 7 | 8 | 9 | 10 | 11 => h
  | 0 => ⟨h.1, fun e => (h.2 e).keepP hb⟩
  | 12 => fun e => let ⟨B, h1, h2⟩ := h e; ⟨B, h1, h2.below hb h2.lt⟩
  | 13 | 14 => ⟨h.1, h.2.1.keepP hb, h.2.2⟩
  | _ + 15 => trivial
/-- what the append does to all of it -/
theorem smS_turn {base : Nat} {vx vz : Value} {lx : List Int} {n : Nat} {a b c : ByteArray} {j x1 x2 x3 x12 y : Nat} (i : Nat) (v : Value) (W W' : World) (h : smS base vx vz lx n a b c j x1 x2 x3 x12 y false i v W) : smS base vx vz lx n a b c j x1 x2 x3 x12 y true i v W' :=
  match i with
  | 1 | 2 | 3 | 4 | 5 | 6 | 7 | 8 | 9 | 10 | 11 => h
  | 0 => ⟨h.1, fun e => by cases e⟩
  | 12 => fun e => by cases e
  | 13 | 14 => by cases h.1
  | _ + 15 => trivial
theorem zer_bys (n : Nat) : Bys (zerN n) := Bys.of fun x hx => by
  unfold zerN at hx
  rw [List.eq_of_mem_replicate hx]
  decide
set_option maxHeartbeats 4000000 in
set_option maxRecDepth 100000 in
theorem walk (a b c : ByteArray) (n0 : a.size ≤ maxLen) (n1 : b.size ≤ maxLen) (n2 : c.size ≤ maxLen) (w : World) :
    Calls Try.prog 6 #[.string a, .string b, .string c] w fun e w' => e = .returned (.bool true) ∧ Below w.heap.size w w' := by
  have HS := Lib.hid (fun w => k_shown w)
  obtain ⟨n, hna, hnb, hnc, hmin⟩ : ∃ n : Nat, n ≤ a.size ∧ n ≤ b.size ∧ n ≤ c.size ∧ (if (c.size : Int) < (if (b.size : Int) < (a.size : Int) then (b.size : Int) else (a.size : Int)) then (c.size : Int) else (if (b.size : Int) < (a.size : Int) then (b.size : Int) else (a.size : Int))) = (n : Int) := by
    by_cases h1 : b.size < a.size
    · rw [if_pos (show (b.size : Int) < (a.size : Int) by omega)]
      by_cases h2 : c.size < b.size
      · exact ⟨c.size, by omega, by omega, by omega, by rw [if_pos (by omega)]⟩
      · exact ⟨b.size, by omega, by omega, by omega, by rw [if_neg (by omega)]⟩
    · rw [if_neg (show ¬ (b.size : Int) < (a.size : Int) by omega)]
      by_cases h2 : c.size < a.size
      · exact ⟨c.size, by omega, by omega, by omega, by rw [if_pos (by omega)]⟩
      · exact ⟨a.size, by omega, by omega, by omega, by rw [if_neg (by omega)]⟩
  have HM := Lib.hid hmin
  clear hmin
  by_cases h1 : 1000 < n
  · have g1 : (1000 : Int) < (n : Int) := by omega
    clear hna hnb hnc
    go_enter Try.func6, Try.ntmps6
    go_wp2_with (first | (refine wpList_min3 rfl _ _ _ 3 rfl _ _ _ _ rfl rfl rfl HM.out ?_) | (go_at_call 9; (with_reducible refine (HS.out _).mono ?_); rintro e w1 ⟨rfl, hb1⟩))
    go_ret
    exact ⟨rfl, hb1⟩
  have g1 : ¬ (1000 : Int) < (n : Int) := by omega
  obtain ⟨i0, hi0, hz0, hz1, hz2⟩ := info_parts info_u8
  go_enter Try.func6, Try.ntmps6
  go_wp2_with (first | (refine wpList_min3 rfl _ _ _ 3 rfl _ _ _ _ rfl rfl rfl HM.out ?_) | (go_at_call 9; (with_reducible refine (HS.out _).mono ?_); rintro e w1 ⟨rfl, hb1⟩))
  have q1 := Blk.new' w1 5 (c := #[]) (ints .u8 (nn [] ++ [])) rfl
  have o1 : OwnB ((w1.alloc (.cells #[] 5)).alloc (.cells #[] 5)) w.heap.size 5 (.slice (some ⟨w1.heap.size, 0, none⟩) 0 0) (nn []) := (OwnB.ofBlk (base := w.heap.size) (cap := 0) [] q1 hb1.size rfl (Nat.zero_le _)).alloc _
  have q2 := Blk.newAt (w1.alloc (.cells #[] 5)) (w1.heap.size + 1) (by simp) 5 (c := #[]) (ints .u8 (nn [] ++ [])) rfl
  have o2 : OwnB ((w1.alloc (.cells #[] 5)).alloc (.cells #[] 5)) w.heap.size 5 (.slice (some ⟨w1.heap.size + 1, 0, none⟩) 0 0) (nn []) := OwnB.ofBlk (base := w.heap.size) (cap := 0) [] q2 (by have := hb1.size; omega) rfl (Nat.zero_le _)
  have ob := (hb1.alloc hb1.size (.cells #[] 5)).alloc (by have := hb1.size; simp; omega) (.cells #[] 5)
  have HO1 := Lib.hid o1
  have HO2 := Lib.hid o2
  have HOB := Lib.hid ob
  clear q1 q2 o1 o2 ob hb1
  generalize World.alloc (World.alloc w1 _) _ = w3 at *
  generalize w1.heap.size = B at *
  go_loopw [8, 9, 10] (fun x z i wr => ∃ (j : Nat) (p q : Option Addr) (cp cq : Nat), j ≤ n ∧ i = .int .i64 (j : Int) ∧ x = .slice p j cp ∧ z = .slice q j cq ∧ OwnB wr w.heap.size 5 (.slice p j cp) (nn (x3 (sl a) (sl b) (sl c) j)) ∧ OwnB wr w.heap.size 5 (.slice q j cq) (nn (zerN j)) ∧ (∀ y, (Value.slice p j cp).ownBlock = some y → (Value.slice q j cq).ownBlock ≠ some y) ∧ Below w.heap.size w wr) (fun _ _ i _ => n - (intOf i).toNat)
  case atStart => exact ⟨0, _, _, 0, 0, by omega, rfl, rfl, rfl, HO1.out, HO2.out, (fun y h h2 => by simp [Value.ownBlock] at h h2; omega), HOB.out⟩
  case round =>
    obtain ⟨j, p, q, cp, cq, hj, rfl, rfl, rfl, gx, gz, gne, gb⟩ := hrel
    clear HO1 HO2 HOB
    by_cases hlt : j < n
    · have d1 : (j : Int) < (n : Int) := by omega
      have hIA := fun w => index_sl a .i64 j (by omega) w
      have hIB := fun w => index_sl b .i64 j (by omega) w
      have hIC := fun w => index_sl c .i64 j (by omega) w
      have b1 := sl_bys a j
      have b2 := sl_bys b j
      have b3 := sl_bys c j
      have hsn := x3_snoc (sl a) (sl b) (sl c) j
      obtain ⟨y1, hy1⟩ : ∃ y, (sl a).getD j 0 = y := ⟨_, rfl⟩
      obtain ⟨y2, hy2⟩ : ∃ y, (sl b).getD j 0 = y := ⟨_, rfl⟩
      obtain ⟨y3, hy3⟩ : ∃ y, (sl c).getD j 0 = y := ⟨_, rfl⟩
      simp only [hy1] at hIA hsn b1
      simp only [hy2] at hIB hsn b2
      simp only [hy3] at hIC hsn b3
      have hx12 := xorB y1 y2 b1 b2
      have b12 : y1 ^^^ y2 < 256 := Nat.xor_lt_two_pow (n := 8) b1 b2
      obtain ⟨y12, hy12⟩ : ∃ y, y1 ^^^ y2 = y := ⟨_, rfl⟩
      rw [hy12] at hx12 hsn b12
      have hx3 := xorB y12 y3 b12 b3
      obtain ⟨y, hy⟩ : ∃ y, y12 ^^^ y3 = y := ⟨_, rfl⟩
      rw [hy] at hx3 hsn
      have HIA := Lib.hid hIA
      have HIB := Lib.hid hIB
      have HIC := Lib.hid hIC
      have HX12 := Lib.hid hx12
      have HX3 := Lib.hid hx3
      have HSN := Lib.hid hsn
      have hxl : (nn (x3 (sl a) (sl b) (sl c) j)).length = j := by rw [nn_length, x3_len]
      have hzl : (nn (zerN j)).length = j := by rw [nn_length, zerN_len]
      have HZL := Lib.hid hzl
      obtain ⟨LX, hLX⟩ : ∃ LX, nn (x3 (sl a) (sl b) (sl c) j) = LX := ⟨_, rfl⟩
      rw [hLX] at gx hxl
      have HLX := Lib.hid hLX
      have HXL := Lib.hid hxl
      have GX := Lib.hid gx
      have GZ := Lib.hid gz
      have GNE := Lib.hid gne
      have HBW := Lib.hid gb
      clear gx gz gne gb hIA hIB hIC hx12 hx3 hsn hy1 hy2 hy3 hy12 hy b1 b2 b3 b12 hxl hzl hLX
      go_wp2_with fail
      refine region_turnF 13 mixed (by kernel_rfl) (by decide) (fun z => (((.string a) :: (.string b) :: (.string c) :: undef :: undef :: undef :: (.bool false) :: (.int .i64 (n : Int)) :: (z 14) :: (.slice q j cq) :: (.int .i64 (j : Int)) :: (.string a) :: (.int .i64 (a.size : Int)) :: (.string b) :: (.int .i64 (b.size : Int)) :: (.string c) :: (.int .i64 (c.size : Int)) :: (.int .i64 (n : Int)) :: (.int .i64 (n : Int)) :: (.bool false) :: (.bool false) :: (.bool true) :: (.bool false) :: (.bool false) :: undef :: (.slice (some ⟨B, 0, none⟩) 0 0) :: (.slice (some ⟨B + 1, 0, none⟩) 0 0) :: (.int .i64 (j : Int)) :: (.int .i64 (n : Int)) :: (.bool true) :: u30 :: u31 :: (z 0) :: (z 1) :: (z 2) :: (z 3) :: (z 4) :: (z 5) :: (z 6) :: (z 7) :: (z 8) :: (z 9) :: (z 10) :: (z 11) :: (z 12) :: (z 13) :: u46 :: u47 :: u48 :: undef :: undef :: undef :: undef :: undef :: undef :: undef :: undef :: undef :: undef :: undef :: undef :: undef :: undef :: undef :: undef :: undef :: undef :: undef :: undef :: undef :: undef :: undef :: undef :: undef :: undef :: undef :: []) : List Value).toArray) [] (fun i => match i with | 0 => u32 | 1 => u33 | 2 => u34 | 3 => u35 | 4 => u36 | 5 => u37 | 6 => u38 | 7 => u39 | 8 => u40 | 9 => u41 | 10 => u42 | 11 => u43 | 12 => u44 | 13 => u45 | _ => .slice p j cp) rfl (fun bb W => Below w.heap.size w W ∧ OwnB W w.heap.size 5 (.slice q j cq) (nn (zerN j)) ∧ (bb = false → OwnB W w.heap.size 5 (.slice p j cp) LX)) ⟨HBW.out.drew, GZ.out.drew, fun _ => GX.out.drew⟩ (smS w.heap.size (.slice p j cp) (.slice q j cq) LX j a b c j y1 y2 y3 y12 y) ?mono ?step ?one ?end_
      case mono => exact fun bb i v W W' h _ _ hb => smS_mono bb i v W W' h hb
      case step =>
        intro bb z W i o hik ho hC hd hfr
        have hr := Below.refl W.heap.size W
        rcases i with _ | _ | _ | _ | _ | _ | _ | _ | _ | _ | _ | _ | _ | _ | _ | i
        all_goals try (simp only [List.getElem?_cons_zero, List.getElem?_cons_succ, Option.some.injEq] at ho; subst ho)
        · have h14 : z 14 = .slice p j cp := hfr 14 _ rfl ⟨⟨0, .phase⟩, by simp, rfl, rfl⟩
          rw [h14]
          go_wp2_with fail
          exact ⟨_, by simp [upd, h14], ⟨rfl, hC.2.2⟩, hC, hr⟩
        · go_wp2_with fail
          exact ⟨_, rfl, rfl, hC, hr⟩
        · go_wp2_with fail
          exact ⟨_, rfl, rfl, hC, hr⟩
        · have h0 : z 1 = .string a := hd ⟨1, .data⟩ (by simp) rfl
          have h1 : z 2 = .int .i64 (j : Int) := hd ⟨2, .data⟩ (by simp) rfl
          have hix := HIA.out
          rw [h0, h1]
          go_wp2_with fail
          exact ⟨_, by simp [upd, h0, h1], rfl, hC, hr⟩
        · go_wp2_with fail
          exact ⟨_, rfl, rfl, hC, hr⟩
        · go_wp2_with fail
          exact ⟨_, rfl, rfl, hC, hr⟩
        · have h0 : z 4 = .string b := hd ⟨4, .data⟩ (by simp) rfl
          have h1 : z 5 = .int .i64 (j : Int) := hd ⟨5, .data⟩ (by simp) rfl
          have hix := HIB.out
          rw [h0, h1]
          go_wp2_with fail
          exact ⟨_, by simp [upd, h0, h1], rfl, hC, hr⟩
        · have h0 : z 3 = .int .u8 (y1 : Int) := hd ⟨3, .data⟩ (by simp) rfl
          have h1 : z 6 = .int .u8 (y2 : Int) := hd ⟨6, .data⟩ (by simp) rfl
          have hx := HX12.out
          rw [h0, h1]
          go_wp2_with fail
          exact ⟨.int .u8 (y12 : Int), by simp [upd, h0, h1], rfl, hC, hr⟩
        · go_wp2_with fail
          exact ⟨_, rfl, rfl, hC, hr⟩
        · go_wp2_with fail
          exact ⟨_, rfl, rfl, hC, hr⟩
        · have h0 : z 8 = .string c := hd ⟨8, .data⟩ (by simp) rfl
          have h1 : z 9 = .int .i64 (j : Int) := hd ⟨9, .data⟩ (by simp) rfl
          have hix := HIC.out
          rw [h0, h1]
          go_wp2_with fail
          exact ⟨_, by simp [upd, h0, h1], rfl, hC, hr⟩
        · have h0 : z 7 = .int .u8 (y12 : Int) := hd ⟨7, .data⟩ (by simp) rfl
          have h1 : z 10 = .int .u8 (y3 : Int) := hd ⟨10, .data⟩ (by simp) rfl
          have hx := HX3.out
          rw [h0, h1]
          go_wp2_with fail
          exact ⟨.int .u8 (y : Int), by simp [upd, h0, h1], rfl, hC, hr⟩
        · have h0 : z 11 = .int .u8 (y : Int) := hd ⟨11, .data⟩ (by simp) rfl
          rw [h0]
          go_wp2_with fail
          exact ⟨_, by simp [upd, h0], fun _ => ⟨W.heap.size, rfl, Blk.new' W _ _ rfl⟩, ⟨hC.1.alloc hC.1.size _, hC.2.1.alloc _, fun e => (hC.2.2 e).alloc _⟩, hr.alloc (Nat.le_refl _) _⟩
        · exact absurd rfl hik
        · have h0 := hd ⟨13, .data⟩ (by simp) rfl
          obtain ⟨v13, hv13⟩ : ∃ v, z 13 = v := ⟨_, rfl⟩
          rw [hv13] at h0 ⊢
          have H0 := Lib.hid h0
          clear h0 hd
          go_wp2_with fail
          exact ⟨_, by simp [upd, hv13], H0.out, hC, hr⟩
        · simp at ho
      case one =>
        intro z W o ho hC hd
        simp only [List.getElem?_cons_zero, List.getElem?_cons_succ, Option.some.injEq] at ho
        subst ho
        obtain ⟨h0, ho0⟩ : z 0 = .slice p j cp ∧ (false = false → OwnB W w.heap.size 5 (.slice p j cp) LX) := hd ⟨0, .data⟩ (by simp) rfl
        obtain ⟨D, h12, hD⟩ : ∃ D, z 12 = .slice (some ⟨D, 0, none⟩) 1 1 ∧ Blk W D 5 [.int .u8 (y : Int)] := hd ⟨12, .data⟩ (by simp) rfl rfl
        have hown := ho0 rfl
        have hlo := hown.lt
        have hrow : W.ownsRow w.heap.size 5 1 (.slice p j cp) j (ints .u8 LX) := by
          have := hown
          unfold OwnB at this
          rw [HXL.out] at this
          exact this
        have hnew : ∀ jj u, [Value.int .u8 (y : Int)][jj]? = some u → W.cell? ((⟨D, 0, none⟩ : Addr).add jj) = some u := fun jj u h => by
          rw [Addr.add_mid]
          exact hD.whole jj u h
        have HRow := Lib.hid hrow
        have HNew := Lib.hid hnew
        have HOne : Hid (∀ u ∈ [Value.int .u8 (y : Int)], u.oneCell' = true) := Lib.hid (by simp [Value.oneCell'])
        have H63 : Hid (j + 1 ≤ maxLen) := Lib.hid (by simp [maxLen]; omega)
        have HBY : Hid ((j + 1) * 1 ≤ 140737488355328) := Lib.hid (by omega)
        have HBS := Lib.hid hC.1.size
        have HLO := Lib.hid hlo
        have HC1 := Lib.hid hC.1
        have HC2 := Lib.hid hC.2.1
        clear hrow hnew hown hlo hD ho0 hd
        rw [h0, h12]
        go_wp2_with (at_builtin; refine wpList_append_own_at _ rfl _ _ 38 rfl w.heap.size 5 i0 (.int .u8 0) 1 1 Try.underlying38 hi0 hz0 hz1 hz2 rfl (by decide) _ j _ rfl HRow.out ⟨D, 0, none⟩ 1 1 [.int .u8 (y : Int)] rfl rfl HNew.out HOne.out H63.out HBY.out HBS.out ?_; intro v5 w5 hown5 hg5 hnil5 hat5)
        have o5 : OwnB w5 w.heap.size 5 v5 (LX ++ [(y : Int)]) := by
          unfold OwnB
          rw [List.length_append, HXL.out, ints_app]
          exact hown5
        have ap : ∀ x, v5.ownBlock = some x → (Value.slice q j cq).ownBlock ≠ some x := fun x hx hb => by
          rcases hat5 with h | h
          · exact GNE.out x (h ▸ hx) hb
          · have h1 := (HC2.out.lt x hb).2
            rw [h] at hx
            cases hx
            omega
        have oz : OwnB w5 w.heap.size 5 (.slice q j cq) (nn (zerN j)) := HC2.out.grownP hg5 fun x hx e => GNE.out x e.symm hx
        have hcc : Below w.heap.size w w5 ∧ OwnB w5 w.heap.size 5 (.slice q j cq) (nn (zerN j)) ∧ (true = false → OwnB w5 w.heap.size 5 (.slice p j cp) LX) := ⟨HC1.out.grown hg5 HBS.out (fun k e => (HLO.out k e).1), oz, fun e => nomatch e⟩
        refine ⟨v5, by simp [upd, h0, h12], ⟨rfl, o5, ?_, ap⟩, ⟨hcc.1, hcc.2.1⟩, fun i x hi h => smS_turn i x W w5 h⟩
        obtain ⟨p5, c5, e5⟩ := own_slice hown5
        exact ⟨p5, c5, e5⟩
      case end_ =>
        intro z W hC hS
        obtain ⟨_, o14, ⟨p5, c5, h14⟩, ap⟩ := hS 14 (by decide)
        rw [h14] at o14 ap ⊢
        have oz := hC.2.1
        have ob := hC.1
        rw [← HLX.out] at o14
        have hxs : nn (x3 (sl a) (sl b) (sl c) (j + 1)) = nn (x3 (sl a) (sl b) (sl c) j) ++ [(y : Int)] := by rw [HSN.out]; simp [nn]
        rw [← hxs] at o14
        have hrow : (W.alloc (.cells #[.int .u8 0] 5)).ownsRow w.heap.size 5 1 (.slice q j cq) j (ints .u8 (nn (zerN j))) := by
          have := oz.alloc (.cells #[.int .u8 0] 5)
          unfold OwnB at this
          rw [HZL.out] at this
          exact this
        have hnew : ∀ jj u, [Value.int .u8 0][jj]? = some u → (W.alloc (.cells #[.int .u8 0] 5)).cell? ((⟨W.heap.size, 0, none⟩ : Addr).add jj) = some u := fun jj u h => by
          rw [Addr.add_mid]
          exact (Blk.new' W 5 [Value.int .u8 0] rfl).whole jj u h
        have hsnz : zerN (j + 1) = zerN j ++ [0] := by unfold zerN; rw [List.replicate_succ']
        have HRow := Lib.hid hrow
        have HNew := Lib.hid hnew
        have HOne : Hid (∀ u ∈ [Value.int .u8 0], u.oneCell' = true) := Lib.hid (by simp [Value.oneCell'])
        have H63 : Hid (j + 1 ≤ maxLen) := Lib.hid (by simp [maxLen]; omega)
        have HBY : Hid ((j + 1) * 1 ≤ 140737488355328) := Lib.hid (by omega)
        have kw := ob.alloc ob.size (.cells #[.int .u8 0] 5)
        have HKW := Lib.hid kw
        have HO14 := Lib.hid (o14.alloc (.cells #[.int .u8 0] 5))
        have HO14w := Lib.hid o14
        have HAP := Lib.hid ap
        have Hgl : Hid (∀ i, (Value.slice q j cq).ownBlock = some i → w.heap.size ≤ i) := Lib.hid fun i hi => (oz.lt i hi).1
        have HSZ := Lib.hid hsnz
        have hi0' := hi0
        clear hrow hnew hsnz kw o14 ap oz ob hxs hC hS h14 HLX HSN HIA HIB HIC HX12 HX3 GX GZ GNE HBW HXL
        go_wp2_with (at_builtin; refine wpList_append_own_at _ rfl _ _ 38 rfl w.heap.size 5 i0 (.int .u8 0) 1 1 Try.underlying38 hi0 hz0 hz1 hz2 rfl (by decide) _ j _ rfl HRow.out ⟨W.heap.size, 0, none⟩ 1 1 [.int .u8 0] rfl rfl HNew.out HOne.out H63.out HBY.out HKW.out.size ?_; intro v6 w6 hown6 hg6 hnil6 hat6; obtain ⟨p6, c6, rfl⟩ := own_slice hown6)
        go_roundw
        case rel =>
          have o6 : OwnB w6 w.heap.size 5 (.slice p6 (j + 1) c6) (nn (zerN (j + 1))) := by
            rw [HSZ.out]
            unfold OwnB
            rw [show nn (zerN j ++ [0]) = nn (zerN j) ++ [(0 : Int)] by simp [nn], List.length_append, HZL.out, ints_app]
            exact hown6
          have o7 := HO14.out.grownP hg6 fun x hx e => HAP.out x hx e.symm
          have ap7 : ∀ x, (Value.slice p5 (j + 1) c5).ownBlock = some x → (Value.slice p6 (j + 1) c6).ownBlock ≠ some x := fun x hx hb => by
            rcases hat6 with h | h
            · exact HAP.out x hx (h ▸ hb)
            · have h1 := (HO14w.out.lt x hx).2
              rw [h] at hb
              simp at hb
              omega
          exact ⟨j + 1, p5, p6, c5, c6, by omega, by go_num, rfl, rfl, o7, o6, ap7, HKW.out.grown hg6 HKW.out.size (fun i hi => Hgl.out i hi)⟩
        case measure => simp [intOf]; omega
    · obtain rfl : j = n := by omega
      have hla : ((sl a).take j).length = j := by rw [List.length_take, sl_len]; omega
      have hlb : ((sl b).take j).length = j := by rw [List.length_take, sl_len]; omega
      have hlc : ((sl c).take j).length = j := by rw [List.length_take, sl_len]; omega
      have hmain := sumK_xor ((sl_bys a).take j) ((sl_bys b).take j) ((sl_bys c).take j) (x3_bys (sl_bys a) (sl_bys b) (sl_bys c) j) (by rw [hla, hlb]) (by rw [hla, hlc]) (by rw [hla, x3_len]) (fun i hi => by
        rw [hla] at hi
        rw [x3_at _ _ _ hi, getD_take _ _ _ hi, getD_take _ _ _ hi, getD_take _ _ _ hi])
      have hxt := sl_tx (x3_bys (sl_bys a) (sl_bys b) (sl_bys c) j)
      have hzt := sl_tx (zer_bys j)
      have q1 := fun w => k_Sum (a.extract 0 j) w (by rw [ByteArray.size_extract]; omega)
      have q2 := fun w => k_Sum (b.extract 0 j) w (by rw [ByteArray.size_extract]; omega)
      have q3 := fun w => k_Sum (c.extract 0 j) w (by rw [ByteArray.size_extract]; omega)
      have q4 := fun w => k_Sum (tx (x3 (sl a) (sl b) (sl c) j)) w (by rw [tx_size, x3_len]; omega)
      have q5 := fun w => k_Sum (tx (zerN j)) w (by rw [tx_size, zerN_len]; omega)
      have q6 := fun w => kr_Sum (tx (zerN j)) w (by rw [tx_size, zerN_len]; omega)
      simp only [sl_head] at q1 q2 q3
      simp only [hxt] at q4
      simp only [hzt] at q5 q6
      have l1 : sumK ((sl a).take j) < 4294967296 := sumK_lt ((sl_bys a).take j)
      have l2 : sumK ((sl b).take j) < 4294967296 := sumK_lt ((sl_bys b).take j)
      have l3 : sumK ((sl c).take j) < 4294967296 := sumK_lt ((sl_bys c).take j)
      generalize sumK ((sl a).take j) = s1 at *
      generalize sumK ((sl b).take j) = s2 at *
      generalize sumK ((sl c).take j) = s3 at *
      generalize sumK (x3 (sl a) (sl b) (sl c) j) = s4 at *
      generalize sumK (zerN j) = s5 at *
      have hx1 := xorK s1 s2 l1 l2
      have l12 : s1 ^^^ s2 < 4294967296 := Nat.xor_lt_two_pow (n := 32) l1 l2
      obtain ⟨s12, hs12⟩ : ∃ y, s1 ^^^ s2 = y := ⟨_, rfl⟩
      rw [hs12] at hx1 hmain l12
      have hx2 := xorK s12 s3 l12 l3
      rw [← hmain] at hx2
      have i1 : (j : Int) ≤ (a.size : Int) := by omega
      have i2 : (j : Int) ≤ (b.size : Int) := by omega
      have i3 : (j : Int) ≤ (c.size : Int) := by omega
      have i4 : (0 : Int) ≤ (j : Int) := by omega
      have QA := Lib.hid (fun wx (h : NewBut wr wx) => (q1 wx).mono fun _ _ ⟨x1, x2⟩ => (⟨x1, h.trans (x2.mono h.size)⟩ : _ ∧ NewBut wr _))
      have QB := Lib.hid (fun wx (h : NewBut wr wx) => (q2 wx).mono fun _ _ ⟨x1, x2⟩ => (⟨x1, h.trans (x2.mono h.size)⟩ : _ ∧ NewBut wr _))
      have QC := Lib.hid (fun wx (h : NewBut wr wx) => (q3 wx).mono fun _ _ ⟨x1, x2⟩ => (⟨x1, h.trans (x2.mono h.size)⟩ : _ ∧ NewBut wr _))
      have QX := Lib.hid (fun wx (h : NewBut wr wx) => (q4 wx).mono fun _ _ ⟨x1, x2⟩ => (⟨x1, h.trans (x2.mono h.size)⟩ : _ ∧ NewBut wr _))
      have QZ := Lib.hid (fun wx (h : NewBut wr wx) => (q5 wx).mono fun _ _ ⟨x1, x2⟩ => (⟨x1, h.trans (x2.mono h.size)⟩ : _ ∧ NewBut wr _))
      have QR := Lib.hid (fun wx (h : NewBut wr wx) => (q6 wx).mono fun _ _ ⟨x1, x2⟩ => (⟨x1, x2 ▸ h⟩ : _ ∧ NewBut wr _))
      have OX := Lib.hid (fun wx (h : NewBut wr wx) => gx.keepP h)
      have OZ := Lib.hid (fun wx (h : NewBut wr wx) => gz.keepP h)
      have HTX : Hid (bs (nn (x3 (sl a) (sl b) (sl c) j)) = tx (x3 (sl a) (sl b) (sl c) j)) := Lib.hid rfl
      have HTZ : Hid (bs (nn (zerN j)) = tx (zerN j)) := Lib.hid rfl
      clear q1 q2 q3 q4 q5 q6 gx gz gne hmain hs12 l1 l2 l3 l12 hxt hzt hla hlb hlc hlt hj hna hnb hnc
      generalize tx (x3 (sl a) (sl b) (sl c) j) = TX at *
      generalize tx (zerN j) = TZ at *
      generalize nn (x3 (sl a) (sl b) (sl c) j) = LX at *
      generalize nn (zerN j) = LZ at *
      go_wp2_with fail
      refine region_quiet_tail (C := NewBut wr) 27 mixed (by kernel_rfl) (show Below _ _ _ from (Below.refl _ _).drew) ?_
      simp only [List.take_succ_cons, List.take_zero, List.drop_succ_cons, List.drop_zero]
      repeat (first | (refine wpQuiet_string_ownP rfl 38 9 5 _ rfl w.heap.size _ LX rfl Try.underlying38 Try.underlying5 Try.underlying9 OX.out ?_; rw [HTX.out]) | (refine wpQuiet_string_ownP rfl 38 9 5 _ rfl w.heap.size _ LZ rfl Try.underlying38 Try.underlying5 Try.underlying9 OZ.out ?_; rw [HTZ.out]) | go_big_quiet_step (fail) | (refine wpQuiet_step (fun K' hK' => ?_); go_simp; first | (refine ⟨_, fun _ _ => rfl, hK' _ ?_⟩; clear hK' K') | ((with_reducible refine ⟨_, fun wx hx => QX.out wx hx, hK' _ ?_⟩); clear hK' K') | ((with_reducible refine ⟨_, fun wx hx => QA.out wx hx, hK' _ ?_⟩); clear hK' K') | ((with_reducible refine ⟨_, fun wx hx => QB.out wx hx, hK' _ ?_⟩); clear hK' K') | ((with_reducible refine ⟨_, fun wx hx => QC.out wx hx, hK' _ ?_⟩); clear hK' K') | ((with_reducible refine ⟨_, fun wx hx => QZ.out wx hx, hK' _ ?_⟩); clear hK' K') | ((with_reducible refine ⟨_, fun wx hx => QR.out wx hx, hK' _ ?_⟩); clear hK' K')))
      refine wpQuiet_nil ?_
      intro w5 hb5
      go_wp2
      go_ret
      exact ⟨rfl, gb.trans (hb5.mono gb.size)⟩

set_option maxRecDepth 100000 in
theorem lifted (os : Os) (started : os.Started) (H : Type) (enc : TypeId × Value → H) :
    ReturnsInHanded {} Try.checked os 6 .any (Rows.checkSumsSpec.pre6 enc Try.prog Try.f6 Rows.checkSumsRow.domain false) (Rows.checkSumsSpec.post enc Try.prog Try.f6 false true false false) := by
  refine returnsInHanded_of_change (C := Try.checked) own started (by kernel_rfl) Try.func6
    (ChangeSpec.witness6 (enc := enc) (C := Try.checked) false ⟨#[], #[.string ByteArray.empty, .string ByteArray.empty, .string ByteArray.empty], []⟩ 8 (by kernel_rfl) (by kernel_rfl) (by kernel_rfl) (by kernel_rfl)) ?_
  intro W base args ds gs before hval0 hW hcnd _
  have hval : ∀ (j : Nat) t v, Try.f6.params[j]? = some t → args[j]? = some v → Value.okWide Try.prog W .any base t v := hval0
  have hW' := hW
  obtain ⟨p, q, hA0, hV, rfl, hfz, hnd⟩ := hW
  have hA : DataW.TrodAll enc Try.prog W 0 (fun _ => true) true Try.f6.params.toList args.toList ds p := hA0
  rw [Try.params6] at hA hval
  obtain ⟨v0, vs0, d0, ds0, p0, q0, hargs, rfl, rfl, h0, r0⟩ := trodAll_cons hA
  obtain ⟨v1, vs1, d1, ds1, p1, q1, rfl, rfl, rfl, h1, r1⟩ := trodAll_cons r0
  obtain ⟨v2, vs2, d2, ds2, p2, q2, rfl, rfl, rfl, h2, r2⟩ := trodAll_cons r1
  obtain ⟨rfl, rfl, rfl⟩ := trodAll_nil r2
  obtain rfl : args = #[v0, v1, v2] := by cases args; simp_all
  obtain ⟨rfl, rfl⟩ := trodVars_none hV
  obtain ⟨l0, rfl, rfl, rfl, n0⟩ := open_string Try.underlying9 (hval 0 9 v0 rfl rfl) h0
  obtain ⟨l1, rfl, rfl, rfl, n1⟩ := open_string Try.underlying9 (hval 1 9 v1 rfl rfl) h1
  obtain ⟨l2, rfl, rfl, rfl, n2⟩ := open_string Try.underlying9 (hval 2 9 v2 rfl rfl) h2
  clear hA0 hval0
  simp only [List.append_nil] at hW'
  refine (walk l0 l1 l2 n0 n1 n2 W).mono fun e W' ⟨he, bel⟩ => ?_
  subst he
  exact ⟨_, rfl, _, _, _, [], _, [], hW', trodAll_mk1 (shut_bool Try.underlying4 _), (trodAll_cons_mk (shut_string Try.underlying9 n0) (trodAll_cons_mk (shut_string Try.underlying9 n1) (trodAll_cons_mk (shut_string Try.underlying9 n2) trodAll_mk0))), rfl, bel.frame _, fun h => by cases h⟩

theorem over : Rows.checkSumsRow.holds Try.pinned (OpenSpec.ofChange Rows.checkSumsSpec) :=
  OpenClaim.holds_of_wide 6 Try.f6 rfl rfl rfl rfl rfl rfl rfl ⟨rfl, rfl, rfl, rfl, rfl⟩ rfl rfl rfl rfl rfl (by kernel_rfl) Try.func6 (by kernel_rfl)
    (of_decide_eq_true (by kernel_rfl)) (by unfold Func.isWrapper; first | (rw [if_pos (by decide +kernel)]; kernel_rfl) | (rw [if_neg (by decide +kernel)]; exact ⟨rfl, rfl⟩))
    (fun os started H enc _ => lifted os started H enc)

theorem proved : Rows.CheckSumsSaid :=
  over
#print axioms proved
end Go.Proofs.Ytlolcpfkaoembaa.checkSums
