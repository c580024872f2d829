/-
  For all texts: the tokens come to the text's length, and each match has its window ahead. Longer texts than the bound are answered by the case shown alone. No condition.
-/
import Derived.Test.YtloncdnnblkpdaaRows
import Derived.Test.YtloncdnnblkpdaaWShown
import Derived.ShutString
import Derived.ChangeOld
namespace Go.Proofs.Ytloncdnnblkpdaa.windowLens
open Go.ChangeShapes Go.WideShapes Go.ChangeAt Go.RowKit
open Go.ChangeMaps (open_string shut_string)
set_option linter.unusedVariables false

theorem step {L : List Nat} {T : List (Nat × Int × Int)} {j p : Nat} (h : T.drop j = splitW L L.length p) (hj : j < T.length) : p < L.length ∧ T[j] = tokW L p ∧ T.drop (j + 1) = splitW L L.length (p + max (matchW L p).1 1) := by
  have hd : T.drop j = T[j] :: T.drop (j + 1) := List.drop_eq_getElem_cons hj
  rcases Nat.lt_or_ge p L.length with hp | hp
  · rw [h, split_step hp] at hd
    injection hd with h1 h2
    exact ⟨hp, h1.symm, h2.symm⟩
  · rw [h, split_end hp] at hd
    cases hd
set_option maxHeartbeats 4000000 in
set_option maxRecDepth 100000 in
theorem walk (s : ByteArray) (hm : s.size ≤ maxLen) (w : World) :
    Calls Try.prog 7 #[.string s] w fun e w' => e = .returned (.bool true) ∧ Below w.heap.size w w' := by
  have hSh := fun w => l8_shown w
  have HSh := Lib.hid hSh
  clear hSh hm
  by_cases h1 : 1500 < s.size
  · have g1 : (1500 : Int) < (s.size : Int) := by omega
    go_enter Try.func7, Try.ntmps7
    go_wp2_with (go_at_call 8; (with_reducible refine (HSh.out _).mono ?_); rintro e w1 ⟨rfl, hb1⟩)
    go_ret
    exact ⟨rfl, hb1⟩
  have g1 : ¬ (1500 : Int) < (s.size : Int) := by omega
  have i1 : (s.size : Int) ≤ 1500 := by omega
  have HP := Lib.hid (fun w => p_Split s w (by omega))
  have hlen := splitW_len (sl s) s.size 0
  rw [sl_len] at hlen
  have hT0 : (splitW (sl s) s.size 0).drop 0 = splitW (sl s) (sl s).length 0 := by rw [sl_len]; rfl
  generalize splitW (sl s) s.size 0 = T at *
  have hT : T.length ≤ 1500 := by omega
  have HT0 := Lib.hid hT0
  clear hlen h1 hT0
  go_enter Try.func7, Try.ntmps7
  go_wp2_with (go_at_call 8; (with_reducible refine (HSh.out _).mono ?_); rintro e w1 ⟨rfl, hb1⟩)
  (with_reducible refine (HP.out _).mono ?_)
  rintro e w4 ⟨v4, rfl, ho4, hb5⟩
  obtain ⟨p4, c4, rfl, hs4⟩ := ho4.shape
  rw [rowsT_len] at ho4 ⊢
  have HO := Lib.hid ho4.sl
  have hb6 := Lib.hid (hb1.trans (hb5.mono hb1.size))
  clear ho4 hs4 hb5 hb1 HP
  go_wp2_with fail
  go_loopw [4, 5] (fun n i wr => ∃ p j : Nat, j ≤ T.length ∧ p ≤ s.size ∧ i = .int .i64 (j : Int) ∧ n = .int .i64 (p : Int) ∧ T.drop j = splitW (sl s) (sl s).length p ∧ Below w4.heap.size w4 wr) (fun _ i _ => T.length - (intOf i).toNat)
  case atStart => exact ⟨0, 0, by omega, by omega, rfl, rfl, HT0.out, Below.refl _ _⟩
  case round =>
    obtain ⟨p, j, hj, hp, rfl, rfl, gT, gb⟩ := hrel
    clear HT0
    by_cases hlt : j < T.length
    · have d1 : (j : Int) < (T.length : Int) := by omega
      obtain ⟨hpl, htok, hnx⟩ := step gT hlt
      have hin := match_in hpl
      rw [sl_len] at hpl hin
      obtain ⟨a, rfl, hc⟩ := (HO.out.below gb).row (rowsT_at hlt)
      rw [htok] at hc
      by_cases hm : (matchW (sl s) p).1 = 0
      · have ht : tokW (sl s) p = ((sl s).getD p 0, 0, 0) := by unfold tokW; rw [if_pos hm]
        have hI := fun w => index_sl s .i64 p hpl w
        rw [ht] at hc
        rw [hm] at hnx
        have hnx' : T.drop (j + 1) = splitW (sl s) (sl s).length (p + 1) := hnx
        have HNX := Lib.hid hnx'
        clear hin hnx hnx' ht hm htok gT
        generalize (sl s).getD p 0 = c at *
        have K4 := Blk.new' wr 42 (c := #[.int .u8 0, .int .i64 0, .int .i64 0]) [.int .u8 0, .int .i64 0, .int .i64 0] rfl
        have K5 := K4.row (rowT (c, 0, 0)) rfl
        obtain ⟨w5, hw5⟩ : ∃ w5, (wr.alloc (.cells #[.int .u8 0, .int .i64 0, .int .i64 0] 42)).setRow wr.heap.size (rowT (c, 0, 0)).toArray = w5 := ⟨_, rfl⟩
        have hb5 : Below w4.heap.size w4 w5 := by rw [← hw5]; exact below_setRow (gb.alloc gb.size _) gb.size _
        rw [hw5] at K5
        have q0 := K5.cell 0
        have q1 := K5.cell 1
        have q2 := K5.cell 2
        simp only [rowT, List.getElem?_cons_zero, List.getElem?_cons_succ] at q0 q1 q2
        have KK4 := Lib.hid K4
        have HW5 := Lib.hid hw5
        have HB5 := Lib.hid hb5
        have HC := Lib.hid hc
        have d2 : decide ((s.size : Int) ≤ (p : Int)) = false := by simp; omega
        have d2' : decide (s.size ≤ p) = false := by simp; omega
        have i2 : (p : Int) < (s.size : Int) := by omega
        clear K4 K5 hw5 hb5 hc gb
        go_wp2_with (first | (refine wpList_load_addr rfl 42 _ rfl _ rfl (rowT (c, 0, 0)) HC.out Try.underlying42 rfl size_tk ?_) | (refine wpList_store_blk rfl 42 _ _ rfl wr.heap.size (rowT (c, 0, 0)) rfl rfl KK4.out size_tk rfl (rowT_one _) ?_; rw [HW5.out]))
        go_quiet (fail)
        go_wp2
        go_roundw
        case rel => exact ⟨p + 1, j + 1, by omega, by omega, by go_num, by go_num, HNX.out, below_drewN HB5.out _⟩
        case measure => (simp [intOf]; try omega)
      · have ht : tokW (sl s) p = (0, ((matchW (sl s) p).1 : Int), ((matchW (sl s) p).2 : Int)) := by unfold tokW; rw [if_neg hm]
        obtain ⟨h3, h34, hb1, hb512, hbp, hpe, _⟩ := matchW_is hm
        rw [ht] at hc
        rw [show max (matchW (sl s) p).1 1 = (matchW (sl s) p).1 by omega] at hnx
        have HNX := Lib.hid hnx
        rw [sl_len] at hpe
        clear hin hnx ht hm htok gT
        generalize (matchW (sl s) p).1 = m1 at *
        generalize (matchW (sl s) p).2 = m2 at *
        have K4 := Blk.new' wr 42 (c := #[.int .u8 0, .int .i64 0, .int .i64 0]) [.int .u8 0, .int .i64 0, .int .i64 0] rfl
        have K5 := K4.row (rowT (0, (m1 : Int), (m2 : Int))) rfl
        obtain ⟨w5, hw5⟩ : ∃ w5, (wr.alloc (.cells #[.int .u8 0, .int .i64 0, .int .i64 0] 42)).setRow wr.heap.size (rowT (0, (m1 : Int), (m2 : Int))).toArray = w5 := ⟨_, rfl⟩
        have hb5 : Below w4.heap.size w4 w5 := by rw [← hw5]; exact below_setRow (gb.alloc gb.size _) gb.size _
        rw [hw5] at K5
        have q0 := K5.cell 0
        have q1 := K5.cell 1
        have q2 := K5.cell 2
        simp only [rowT, List.getElem?_cons_zero, List.getElem?_cons_succ] at q0 q1 q2
        have KK4 := Lib.hid K4
        have HW5 := Lib.hid hw5
        have HB5 := Lib.hid hb5
        have HC := Lib.hid hc
        have e0 : ((m1 : Int) == 0) = false := by rw [beq_eq_false_iff_ne]; omega
        have i2 : ¬ (m1 : Int) < 3 := by omega
        have i3 : ¬ (34 : Int) < (m1 : Int) := by omega
        have i4 : ¬ (m2 : Int) < 1 := by omega
        have i5 : ¬ (512 : Int) < (m2 : Int) := by omega
        have i6 : ¬ (p : Int) < (m2 : Int) := by omega
        have i7 : (p : Int) ≤ 1500 := by omega
        have i8 : (m1 : Int) ≤ 34 := by omega
        clear K4 K5 hw5 hb5 hc gb
        go_wp2_with (first | (refine wpList_load_addr rfl 42 _ rfl _ rfl (rowT (0, (m1 : Int), (m2 : Int))) HC.out Try.underlying42 rfl size_tk ?_) | (refine wpList_store_blk rfl 42 _ _ rfl wr.heap.size (rowT (0, (m1 : Int), (m2 : Int))) rfl rfl KK4.out size_tk rfl (rowT_one _) ?_; rw [HW5.out]))
        go_roundw
        case rel => exact ⟨p + m1, j + 1, by omega, by omega, by go_num, by go_num, HNX.out, HB5.out⟩
        case measure => (simp [intOf]; try omega)
    · obtain rfl : j = T.length := by omega
      rw [List.drop_length] at gT
      have hpe : p = s.size := by
        rcases Nat.lt_or_ge p s.size with h | h
        · rw [split_step (by rw [sl_len]; exact h)] at gT
          cases gT
        · omega
      subst hpe
      have GB := Lib.hid (hb6.out.trans (gb.mono hb6.out.size))
      clear gT gb
      go_wp2
      go_ret
      exact ⟨rfl, GB.out⟩

set_option maxRecDepth 100000 in
theorem lifted (os : Os) (started : os.Started) (H : Type) (enc : TypeId × Value → H) :
    ReturnsInHanded {} Try.checked os 7 .any (Rows.windowLensSpec.pre6 enc Try.prog Try.f7 Rows.windowLensRow.domain false) (Rows.windowLensSpec.post enc Try.prog Try.f7 false true false false) := by
  refine returnsInHanded_of_change (C := Try.checked) own started (by kernel_rfl) Try.func7
    (ChangeSpec.witness6 (enc := enc) (C := Try.checked) false ⟨#[], #[.string ByteArray.empty], []⟩ 8 (by kernel_rfl) (by kernel_rfl) (by kernel_rfl) (by kernel_rfl)) ?_
  intro W base args ds gs before hval0 hW hcnd _
  have hval : ∀ (j : Nat) t v, Try.f7.params[j]? = some t → args[j]? = some v → Value.okWide Try.prog W .any base t v := hval0
  have hW' := hW
  obtain ⟨p, q, hA0, hV, rfl, hfz, hnd⟩ := hW
  have hA : DataW.TrodAll enc Try.prog W 0 (fun _ => true) true Try.f7.params.toList args.toList ds p := hA0
  rw [Try.params7] at hA hval
  obtain ⟨v0, vs0, d0, ds0, p0, q0, hargs, rfl, rfl, h0, r0⟩ := trodAll_cons hA
  obtain ⟨rfl, rfl, rfl⟩ := trodAll_nil r0
  obtain rfl : args = #[v0] := by cases args; simp_all
  obtain ⟨rfl, rfl⟩ := trodVars_none hV
  obtain ⟨l0, rfl, rfl, rfl, n0⟩ := open_string Try.underlying9 (hval 0 9 v0 rfl rfl) h0
  clear hA0 hval0
  simp only [List.append_nil] at hW'
  refine (walk l0 n0 W).mono fun e W' ⟨he, bel⟩ => ?_
  subst he
  exact ⟨_, rfl, _, _, _, [], _, [], hW', trodAll_mk1 (shut_bool Try.underlying4 _), (trodAll_cons_mk (shut_string Try.underlying9 n0) trodAll_mk0), rfl, bel.frame _, fun h => by cases h⟩

theorem over : Rows.windowLensRow.holds Try.pinned (OpenSpec.ofChange Rows.windowLensSpec) :=
  OpenClaim.holds_of_wide 7 Try.f7 rfl rfl rfl rfl rfl rfl rfl ⟨rfl, rfl, rfl, rfl, rfl⟩ rfl rfl rfl rfl rfl (by kernel_rfl) Try.func7 (by kernel_rfl)
    (of_decide_eq_true (by kernel_rfl)) (by unfold Func.isWrapper; first | (rw [if_pos (by decide +kernel)]; kernel_rfl) | (rw [if_neg (by decide +kernel)]; exact ⟨rfl, rfl⟩))
    (fun os started H enc _ => lifted os started H enc)

theorem proved : Rows.WindowLensSaid :=
  over
#print axioms proved
end Go.Proofs.Ytloncdnnblkpdaa.windowLens
