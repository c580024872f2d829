/-
  For all texts, skips and widths: what is taken bit by bit is what is taken at once, the first bit lowest; and where it is too short for the one it is for the other. Longer texts than the bound are answered by the case shown alone. No condition.
-/
import Derived.Test.YtpjfafefgmjmfaaRows
import Derived.Test.YtpjfafefgmjmfaaJShown
import Derived.Test.YtpjfafefgmjmfaaJEnd
import Derived.Test.YtpjfafefgmjmfaaJOpen
import Derived.ShutString
import Derived.ChangeOld
namespace Go.Proofs.Ytpjfafefgmjmfaa.bitioBits
open Go.ChangeShapes Go.WideShapes Go.ChangeAt Go.RowKit
open Go.ChangeMaps (open_string shut_string)
set_option linter.unusedVariables false

set_option maxHeartbeats 2000000 in
set_option maxRecDepth 100000 in
theorem walk (s : ByteArray) (x1 x2 : Int) (n0 : s.size ≤ maxLen) (n1 : (Lit.int .u8 x1).wf = true) (n2 : (Lit.int .u8 x2).wf = true) (w : World) :
    Calls Try.prog 7 #[.string s, .int .u8 x1, .int .u8 x2] w fun e w' => e = .returned (.bool true) ∧ Below w.heap.size w w' := by
  obtain ⟨c1, rfl, hc1⟩ := nat_u8 x1 n1
  obtain ⟨c2, rfl, hc2⟩ := nat_u8 x2 n2
  have hSh := fun w => l6_shown w
  have HSh := Lib.hid hSh
  clear hSh n0 n1 n2
  by_cases h1 : 200 < s.size
  · have g1 : (200 : Int) < (s.size : Int) := by omega
    go_enter Try.func7, Try.ntmps7
    go_wp2_with (go_at_call 8; (with_reducible refine (HSh.out _).mono ?_); rintro e w1 ⟨rfl, hb1⟩)
    go_ret
    exact ⟨rfl, hb1⟩
  have g1 : ¬ (200 : Int) < (s.size : Int) := by omega
  obtain ⟨k, hk, hk24⟩ : ∃ k : Nat, (c1 : Int) % 25 = (k : Int) ∧ k ≤ 24 := ⟨c1 % 25, by omega, by omega⟩
  obtain ⟨wd, hwd, hw24⟩ : ∃ k : Nat, (c2 : Int) % 25 = (k : Int) ∧ k ≤ 24 := ⟨c2 % 25, by omega, by omega⟩
  have hs : s.size ≤ 1000000000 := by omega
  have hN := fun w => i_New s w
  have hO := fun R p k w h a b c => i_Take_ok R s p k w h a b hs c
  have hF := fun R p k w h a b c => i_Take_short R s p k w h a b hs c
  have hL := fun R p w h a => i_Left R s p w h a hs
  have HN := Lib.hid hN
  have HO := Lib.hid hO
  have HF := Lib.hid hF
  have HL := Lib.hid hL
  clear hN hO hF hL
  by_cases hsk : 8 * s.size < k
  · have d1 : 8 * (s.size : Int) < (k : Int) := by omega
    have i5 : (s.size : Int) ≤ 200 := by omega
    go_enter Try.func7, Try.ntmps7
    go_wp2_with (go_at_call 8; (with_reducible refine (HSh.out _).mono ?_); rintro e w1 ⟨rfl, hb1⟩)
    (with_reducible refine (HN.out _).mono ?_)
    rintro e w3 ⟨rfl, hw3⟩
    subst hw3
    have k1 := Blk.new w1 58 (rdr s 0)
    have kb := hb1.alloc hb1.size (.cells (rdr s 0).toArray 58)
    have hz := hb1.size
    clear hb1
    go_wp2_with fail
    generalize World.alloc w1 _ = w3 at *
    generalize w1.heap.size = Z at *
    (with_reducible refine (HN.out _).mono ?_)
    rintro e w4 ⟨rfl, hw4⟩
    subst hw4
    have k2 := Blk.new w3 58 (rdr s 0)
    have k1' := k1.alloc (.cells (rdr s 0).toArray 58)
    have kb' := kb.alloc kb.size (.cells (rdr s 0).toArray 58)
    have hne : Z ≠ w3.heap.size := by have := k1.lt; omega
    have hz3 := kb.size
    clear k1 kb
    go_wp2_with fail
    generalize World.alloc w3 _ = w4 at *
    generalize w3.heap.size = Y at *
    (with_reducible refine (HF.out _ _ _ _ k1' hk24 (by omega) (by omega)).mono ?_)
    rintro e w5 ⟨rfl, hb5⟩
    have b5 := kb'.trans (hb5.mono kb'.size)
    have f5 := k2.below hb5 k2.lt
    clear k1' k2 kb' hb5
    go_wp2_with fail
    (with_reducible refine (HF.out _ _ _ _ f5 hk24 (by omega) (by omega)).mono ?_)
    rintro e w6 ⟨rfl, hb6⟩
    have b6 := b5.trans (hb6.mono b5.size)
    clear b5 f5 hb6
    go_wp2
    go_ret
    exact ⟨rfl, b6⟩
  · have i5 : (s.size : Int) ≤ 200 := by omega
    have hge := fun i => numB_or (sl s) k i
    have hlt := fun i => numB_lt (sl s) k i
    have hbt := fun i => bitAt_lt (sl s) i
    have hone : ∀ p, numB (sl s) p 1 = bitAt (sl s) p := fun p => by simp [numB, accB]
    have hz00 : numB (sl s) k 0 = 0 := rfl
    have HGE := Lib.hid hge
    have HLT := Lib.hid hlt
    have HBT := Lib.hid hbt
    have HONE := Lib.hid hone
    have HZ0 := Lib.hid hz00
    clear hge hlt hbt hone hz00
    obtain ⟨n, g, q, hq8, hTA, hcase⟩ : ∃ n g q : Nat, q ≤ 8 * s.size ∧ (∀ R w, Blk w R 58 (rdr s k) → Calls Try.prog 15 #[.pointer (some ⟨R, 0, none⟩), .int .i64 (wd : Int)] w fun e w' => e = .returned (.tuple #[.int .u32 (n : Int), .int .i64 (g : Int)]) ∧ Turned w w' R 58 (rdr s q)) ∧
        ((k + wd ≤ 8 * s.size ∧ g = 0 ∧ q = k + wd ∧ n = numB (sl s) k wd) ∨ (8 * s.size < k + wd ∧ g = 40 ∧ n = 0 ∧ q = k)) := by
      by_cases hw : k + wd ≤ 8 * s.size
      · exact ⟨numB (sl s) k wd, 0, k + wd, hw, fun R w h => HO.out R k wd w h hw24 (by omega) hw, .inl ⟨hw, rfl, rfl, rfl⟩⟩
      · exact ⟨0, 40, k, by omega, fun R w h => (HF.out R k wd w h hw24 (by omega) (by omega)).mono fun e w' ⟨h1, h2⟩ => ⟨h1, Turned.of_below h2 h⟩, .inr ⟨by omega, rfl, rfl, rfl⟩⟩
    have HTA := Lib.hid hTA
    have HCS := Lib.hid hcase
    clear hTA hcase
    go_enter Try.func7, Try.ntmps7
    go_wp2_with (go_at_call 8; (with_reducible refine (HSh.out _).mono ?_); rintro e w1 ⟨rfl, hb1⟩)
    (with_reducible refine (HN.out _).mono ?_)
    rintro e w3 ⟨rfl, hw3⟩
    subst hw3
    have k1 := Blk.new w1 58 (rdr s 0)
    have kb := hb1.alloc hb1.size (.cells (rdr s 0).toArray 58)
    have hz := hb1.size
    clear hb1
    go_wp2_with fail
    generalize World.alloc w1 _ = w3 at *
    generalize w1.heap.size = Z at *
    (with_reducible refine (HN.out _).mono ?_)
    rintro e w4 ⟨rfl, hw4⟩
    subst hw4
    have k2 := Blk.new w3 58 (rdr s 0)
    have k1' := k1.alloc (.cells (rdr s 0).toArray 58)
    have kb' := kb.alloc kb.size (.cells (rdr s 0).toArray 58)
    have hne : Z ≠ w3.heap.size := by have := k1.lt; omega
    have hz3 := kb.size
    clear k1 kb
    go_wp2_with fail
    generalize World.alloc w3 _ = w4 at *
    generalize w3.heap.size = Y at *
    (with_reducible refine (HO.out _ _ _ _ k1' hk24 (by omega) (by omega)).mono ?_)
    rintro e w5 ⟨rfl, t5⟩
    have b5 := t5.below kb' kb'.size hz
    have r5 := t5.other k2 (by omega)
    have f5 := t5.2
    rw [Nat.zero_add] at f5
    clear k1' k2 kb' t5
    go_wp2_with fail
    (with_reducible refine (HO.out _ _ _ _ r5 hk24 (by omega) (by omega)).mono ?_)
    rintro e w6 ⟨rfl, t6⟩
    have b6 := t6.below b5 b5.size hz3
    have f6 := t6.other f5 (by omega)
    have r6 := t6.2
    rw [Nat.zero_add] at r6
    clear b5 f5 r5 t6
    go_wp2_with fail
    (with_reducible refine (HTA.out _ _ f6).mono ?_)
    rintro e w7 ⟨rfl, t7⟩
    have b7 := t7.below b6 b6.size hz
    have r7 := t7.other r6 (by omega)
    have f7 := t7.2
    clear b6 f6 r6 t7
    go_wp2_with fail
    go_loopw [17, 18] (fun u i wr => ∃ j : Nat, j ≤ wd ∧ k + j ≤ 8 * s.size ∧ i = .int .i64 (j : Int) ∧ u = .int .u32 ((numB (sl s) k j : Nat) : Int) ∧ Blk wr Z 58 (rdr s q) ∧ Blk wr Y 58 (rdr s (k + j)) ∧ Below w.heap.size w wr) (fun _ i _ => wd - (intOf i).toNat)
    case atStart => exact ⟨0, by omega, by omega, rfl, rfl, f7, r7, b7⟩
    case round =>
      obtain ⟨j, hj, hjk, rfl, rfl, gf, gr, gb⟩ := hrel
      clear f7 r7 b7
      by_cases hjw : j < wd
      · have d1 : (j : Int) < (wd : Int) := by omega
        by_cases hin : k + j < 8 * s.size
        · have hO1 : Calls Try.prog 15 #[.pointer (some ⟨Y, 0, none⟩), .int .i64 1] wr fun e w' => e = .returned (.tuple #[.int .u32 ((bitAt (sl s) (k + j) : Nat) : Int), .int .i64 0]) ∧ Turned wr w' Y 58 (rdr s (k + j + 1)) := by
            have := HO.out Y (k + j) 1 wr gr (by omega) (by omega) (by omega)
            rw [HONE.out] at this
            exact this
          have hor0 := HGE.out j
          have hz2 := HBT.out (k + j)
          have hn1 := HLT.out j
          have hpw : 2 ^ j ≤ 2 ^ 23 := Nat.pow_le_pow_right (by decide) (by omega)
          generalize bitAt (sl s) (k + j) = z at *
          generalize ha1 : numB (sl s) k (j + 1) = a1 at *
          have HA1 := Lib.hid ha1
          clear ha1
          generalize numB (sl s) k j = a0 at *
          obtain ⟨sh, hsh⟩ : ∃ sh, z * 2 ^ j = sh := ⟨_, rfl⟩
          have hshl : sh ≤ 2 ^ 23 := by
            rw [← hsh]
            have := Nat.mul_le_mul (show z ≤ 1 by omega) hpw
            omega
          have hs1 : (z : Int) * 2 ^ j = (sh : Int) := by rw [← hsh]; simp
          have hs2 : IntKind.u32.wrap (sh : Int) = (sh : Int) := wraps_u32 _ (by omega) (by omega)
          have hor : bits .or .u32 (a0 : Int) (sh : Int) = (a1 : Int) := by
            rw [← hor0, hsh]; exact or_u32 _ _ (by omega) (by omega)
          have i2 : (j : Int).toNat = j := by omega
          have i3 : (0 : Int) ≤ (j : Int) := by omega
          have HO1 := Lib.hid hO1
          clear hO1 hor0 hn1 hpw hshl hsh hz2
          go_wp2_with fail
          (with_reducible refine HO1.out.mono ?_)
          rintro e w8 ⟨rfl, t8⟩
          have b8 := t8.below gb gb.size hz3
          have f8 := t8.other gf (by omega)
          have r8 := t8.2
          clear gb gf gr t8 HO1
          go_wp2
          go_roundw
          case rel => exact ⟨j + 1, by omega, by omega, by go_num, by rw [HA1.out], f8, r8, b8⟩
          case measure => simp [intOf]; omega
        · obtain ⟨rfl, rfl, rfl⟩ : g = 40 ∧ n = 0 ∧ k = q := by
            rcases HCS.out with h | h
            · omega
            · exact ⟨h.2.1, h.2.2.1, h.2.2.2.symm⟩
          have hF1 : Calls Try.prog 15 #[.pointer (some ⟨Y, 0, none⟩), .int .i64 1] wr fun e w' => e = .returned (.tuple #[.int .u32 0, .int .i64 40]) ∧ Below wr.heap.size wr w' := HF.out Y (k + j) 1 wr gr (by omega) (by omega) (by omega)
          have HF1 := Lib.hid hF1
          clear hF1
          go_wp2_with fail
          (with_reducible refine HF1.out.mono ?_)
          rintro e w8 ⟨rfl, hb8⟩
          have b8 := gb.trans (hb8.mono gb.size)
          have f8 := gf.below hb8 gf.lt
          clear gb gf gr hb8 HF1
          have e9 : ((8 * s.size - k : Nat) : Int) = 8 * (s.size : Int) - (k : Int) := by omega
          have hL9 := HL.out Z k w8 f8 (by omega)
          rw [e9] at hL9
          have i6 : (k : Int) ≤ 24 := by omega
          clear e9
          go_wp2_with fail
          (with_reducible refine hL9.mono ?_)
          rintro e w9 ⟨rfl, nq, hw9⟩
          subst hw9
          have b9 := below_drewN b8 nq
          go_wp2
          go_ret
          exact ⟨rfl, b9⟩
      · obtain rfl : j = wd := by omega
        obtain ⟨rfl, rfl, rfl⟩ : g = 0 ∧ q = k + j ∧ n = numB (sl s) k j := by
          rcases HCS.out with h | h
          · exact h.2
          · omega
        generalize numB (sl s) k j = a0 at *
        generalize hL0 : k + j = L0 at *
        go_wp2_with fail
        (with_reducible refine (HL.out _ _ _ gf (by omega)).mono ?_)
        rintro e w8 ⟨rfl, nq, hw8⟩
        subst hw8
        have b8 := below_drewN gb nq
        have r8 := gr.drewN nq
        clear gb gf gr
        generalize World.drewN wr nq = w8 at *
        go_wp2_with fail
        (with_reducible refine (HL.out _ _ _ r8 (by omega)).mono ?_)
        rintro e w9 ⟨rfl, nq2, hw9⟩
        subst hw9
        have b9 := below_drewN b8 nq2
        go_wp2
        go_ret
        exact ⟨rfl, b9⟩

set_option maxRecDepth 100000 in
theorem lifted (os : Os) (started : os.Started) (H : Type) (enc : TypeId × Value → H) :
    ReturnsInHanded {} Try.checked os 7 .any (Rows.bitioBitsSpec.pre6 enc Try.prog Try.f7 Rows.bitioBitsRow.domain false) (Rows.bitioBitsSpec.post enc Try.prog Try.f7 false true false false) := by
  refine returnsInHanded_of_change (C := Try.checked) own started (by kernel_rfl) Try.func7
    (ChangeSpec.witness6 (enc := enc) (C := Try.checked) false ⟨#[], #[.string ByteArray.empty, .int .u8 0, .int .u8 0], []⟩ 8 (by kernel_rfl) (by kernel_rfl) (by kernel_rfl) (by kernel_rfl)) ?_
  intro W base args ds gs before hval0 hW hcnd _
  have hval : ∀ (j : Nat) t v, Try.f7.params[j]? = some t → args[j]? = some v → Value.okWide Try.prog W .any base t v := hval0
  have hW' := hW
  obtain ⟨p, q, hA0, hV, rfl, hfz, hnd⟩ := hW
  have hA : DataW.TrodAll enc Try.prog W 0 (fun _ => true) true Try.f7.params.toList args.toList ds p := hA0
  rw [Try.params7] at hA hval
  obtain ⟨v0, vs0, d0, ds0, p0, q0, hargs, rfl, rfl, h0, r0⟩ := trodAll_cons hA
  obtain ⟨v1, vs1, d1, ds1, p1, q1, rfl, rfl, rfl, h1, r1⟩ := trodAll_cons r0
  obtain ⟨v2, vs2, d2, ds2, p2, q2, rfl, rfl, rfl, h2, r2⟩ := trodAll_cons r1
  obtain ⟨rfl, rfl, rfl⟩ := trodAll_nil r2
  obtain rfl : args = #[v0, v1, v2] := by cases args; simp_all
  obtain ⟨rfl, rfl⟩ := trodVars_none hV
  obtain ⟨l0, rfl, rfl, rfl, n0⟩ := open_string Try.underlying9 (hval 0 9 v0 rfl rfl) h0
  obtain ⟨l1, rfl, rfl, rfl, n1⟩ := open_int Try.underlying5 (hval 1 5 v1 rfl rfl) h1
  obtain ⟨l2, rfl, rfl, rfl, n2⟩ := open_int Try.underlying5 (hval 2 5 v2 rfl rfl) h2
  clear hA0 hval0
  simp only [List.append_nil] at hW'
  refine (walk l0 l1 l2 n0 n1 n2 W).mono fun e W' ⟨he, bel⟩ => ?_
  subst he
  exact ⟨_, rfl, _, _, _, [], _, [], hW', trodAll_mk1 (shut_bool Try.underlying4 _), (trodAll_cons_mk (shut_string Try.underlying9 n0) (trodAll_cons_mk (shut_int Try.underlying5 n1) (trodAll_cons_mk (shut_int Try.underlying5 n2) trodAll_mk0))), rfl, bel.frame _, fun h => by cases h⟩

theorem over : Rows.bitioBitsRow.holds Try.pinned (OpenSpec.ofChange Rows.bitioBitsSpec) :=
  OpenClaim.holds_of_wide 7 Try.f7 rfl rfl rfl rfl rfl rfl rfl ⟨rfl, rfl, rfl, rfl, rfl⟩ rfl rfl rfl rfl rfl (by kernel_rfl) Try.func7 (by kernel_rfl)
    (of_decide_eq_true (by kernel_rfl)) (by unfold Func.isWrapper; first | (rw [if_pos (by decide +kernel)]; kernel_rfl) | (rw [if_neg (by decide +kernel)]; exact ⟨rfl, rfl⟩))
    (fun os started H enc _ => lifted os started H enc)

theorem proved : Rows.BitioBitsSaid :=
  over
#print axioms proved
end Go.Proofs.Ytpjfafefgmjmfaa.bitioBits
