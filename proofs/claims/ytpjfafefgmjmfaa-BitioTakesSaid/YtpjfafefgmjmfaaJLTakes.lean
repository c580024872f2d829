/-
  For all texts and widths: whatever is taken, bit by bit or refused, how much is left, and whether it is at its end, is the document's. Longer texts or lists than the bound are answered by the case shown alone. No condition.
-/
import Derived.Test.YtpjfafefgmjmfaaRows
import Derived.Test.YtpjfafefgmjmfaaJShown
import Derived.Test.YtpjfafefgmjmfaaJEnd
import Derived.Test.YtpjfafefgmjmfaaJRTake
import Derived.Test.YtpjfafefgmjmfaaJOpen
import Derived.ShutString
import Derived.ChangeOld
namespace Go.Proofs.Ytpjfafefgmjmfaa.bitioTakes
open Go.ChangeShapes Go.WideShapes Go.ChangeAt Go.RowKit
open Go.ChangeMaps (open_string shut_string)
set_option linter.unusedVariables false

theorem rowsI_at {l : List Int} {j : Nat} (h : j < l.length) : (rowsI l)[j]? = some [.int .i64 l[j]] := by simp [rowsI, h]
set_option maxHeartbeats 1000000 in
set_option maxRecDepth 100000 in
theorem walk (s : ByteArray) (l : List Int) (p : Option Addr) (cap : Nat) (n0 : s.size ≤ maxLen) (hwf : ∀ q ∈ l, (Lit.int .i64 q).wf = true) (w : World) (hS : Sl w 1 (.slice p l.length cap) (rowsI l)) :
    Calls Try.prog 4 #[.string s, .slice p l.length cap] w fun e w' => e = .returned (.bool true) ∧ Below w.heap.size w w' := by
  have hSh := fun w => l6_shown w
  have HSh := Lib.hid hSh
  clear hSh n0 hwf
  by_cases h1 : 1024 < s.size
  · have g1 : (1024 : Int) < (s.size : Int) := by omega
    go_enter Try.func4, Try.ntmps4
    go_wp2_with (go_at_call 8; (with_reducible refine (HSh.out _).mono ?_); rintro e w1 ⟨rfl, hb1⟩)
    go_ret
    exact ⟨rfl, hb1⟩
  have g1 : ¬ (1024 : Int) < (s.size : Int) := by omega
  by_cases h2 : 300 < l.length
  · have g2 : (300 : Int) < (l.length : Int) := by omega
    go_enter Try.func4, Try.ntmps4
    go_wp2_with (go_at_call 8; (with_reducible refine (HSh.out _).mono ?_); rintro e w1 ⟨rfl, hb1⟩)
    go_ret
    exact ⟨rfl, hb1⟩
  have g2 : ¬ (300 : Int) < (l.length : Int) := by omega
  have hs : s.size ≤ 1000000000 := by omega
  have hT := fun R p x w h (hp : p ≤ 8 * s.size) n er p' ht => i_Take R s p x w h hp hs n er p' ht
  have hRT := fun R p x w h (hp : p ≤ 8 * s.size) n er p' ht => r_Take' R s p x w h hp hs n er p' ht
  have hL := fun R p w h (hp : p ≤ 8 * s.size) => i_Left R s p w h hp hs
  have hRL := fun R p w h (hp : p ≤ 8 * s.size) => r_rLeft R s p w h hp hs
  have hE := fun R p w h (hp : p ≤ 8 * s.size) => i_End R s p w h hp hs
  have hRE := fun R p w h (hp : p ≤ 8 * s.size) => r_End R s p w h hp hs
  have hN := fun w => i_New s w
  have HT := Lib.hid hT
  have HRT := Lib.hid hRT
  have HL := Lib.hid hL
  have HRL := Lib.hid hRL
  have HE := Lib.hid hE
  have HRE := Lib.hid hRE
  have HN := Lib.hid hN
  have HSS := Lib.hid hS
  clear hT hRT hL hRL hE hRE hN hS
  go_enter Try.func4, Try.ntmps4
  go_wp2_with (go_at_call 8; (with_reducible refine (HSh.out _).mono ?_); rintro e w1 ⟨rfl, hb1⟩)
  (with_reducible refine (HN.out _).mono ?_)
  rintro e w2 ⟨rfl, hw2⟩
  subst hw2
  have k1 := (Blk.new w1 58 (rdr s 0)).alloc (.cells #[.string s, .int .i64 0] 37)
  have k2 : Blk ((w1.alloc (.cells (rdr s 0).toArray 58)).alloc (.cells #[.string s, .int .i64 0] 37)) (w1.heap.size + 1) 37 (rdr s 0) := Blk.newAt _ _ (by simp) _ _ rfl
  have kb := (hb1.alloc hb1.size (.cells (rdr s 0).toArray 58)).alloc (by have := hb1.size; simp; omega) (.cells #[.string s, .int .i64 0] 37)
  have hz := hb1.size
  clear hb1
  go_wp2_with fail
  generalize World.alloc (World.alloc w1 _) _ = w3 at *
  generalize w1.heap.size = Z at *
  go_loopw [7] (fun i wr => ∃ j q : Nat, j ≤ l.length ∧ q ≤ 8 * s.size ∧ i = .int .i64 (j : Int) ∧ Blk wr Z 58 (rdr s q) ∧ Blk wr (Z + 1) 37 (rdr s q) ∧ Below w.heap.size w wr) (fun i _ => l.length - (intOf i).toNat)
  case atStart => exact ⟨0, 0, by omega, by omega, rfl, k1, k2, kb⟩
  case round =>
    obtain ⟨j, q, hj, hq, rfl, g1', g2', gb⟩ := hrel
    clear k1 k2 kb
    by_cases hlt : j < l.length
    · have d1 : (j : Int) < (l.length : Int) := by omega
      have hcell : ∀ wx, Below w.heap.size w wx → ∃ a : Addr, p = some a ∧ wx.cell? (a.add j) = some (.int .i64 l[j]) := fun wx h => by
        obtain ⟨a, e, hc⟩ := (HSS.out.below h).row (rowsI_at hlt)
        exact ⟨a, e, by have := hc 0 _ rfl; rw [Nat.mul_one] at this; exact this⟩
      obtain ⟨a, rfl, _⟩ := hcell wr gb
      have hc0 : ∀ wx, Below w.heap.size w wx → wx.cell? (a.add j) = some (.int .i64 l[j]) := fun wx h => by
        obtain ⟨a', e, h1⟩ := hcell wx h
        cases e; exact h1
      have HC := Lib.hid hc0
      clear hc0 hcell
      generalize l[j] = x at *
      obtain ⟨n, er, q', ht⟩ : ∃ n er q', takeP (sl s) q x = (n, er, q') := ⟨_, _, _, rfl⟩
      have hq' : q' ≤ 8 * s.size := by
        have := takeP_le (s := sl s) x (p := q) (by rw [sl_len]; exact hq)
        rw [ht, sl_len] at this
        exact this
      have HTT := Lib.hid ht
      clear ht
      have c0 := HC.out wr gb
      go_wp2_with fail
      (with_reducible refine (HT.out _ _ _ _ g1' hq _ _ _ HTT.out).mono ?_)
      rintro e w4 ⟨rfl, t4⟩
      have b4 := t4.below gb gb.size hz
      have r4 := t4.other g2' (by omega)
      have f4 := t4.2
      clear t4 g1' g2' gb c0
      have c0 := HC.out w4 b4
      go_wp2_with fail
      (with_reducible refine (HRT.out _ _ _ _ r4 hq _ _ _ HTT.out).mono ?_)
      rintro e w5 ⟨rfl, t5⟩
      have b5 := t5.below b4 b4.size (by omega)
      have f5 := t5.other f4 (by omega)
      have r5 := t5.2
      clear t5 r4 f4 b4 c0
      go_wp2_with fail
      (with_reducible refine (HL.out _ _ _ f5 hq').mono ?_)
      rintro e w6 ⟨rfl, nq, hw6⟩
      subst hw6
      have b6 := below_drewN b5 nq
      have f6 := f5.drewN nq
      have r6 := r5.drewN nq
      clear b5 f5 r5
      generalize World.drewN w5 nq = w6 at *
      go_wp2_with fail
      (with_reducible refine (HRL.out _ _ _ r6 hq').mono ?_)
      rintro e w7 ⟨rfl, nq2, hw7⟩
      subst hw7
      have b7 := below_drewN b6 nq2
      have f7 := f6.drewN nq2
      have r7 := r6.drewN nq2
      clear b6 f6 r6
      generalize World.drewN w6 nq2 = w7 at *
      go_wp2_with fail
      (with_reducible refine (HE.out _ _ _ f7 hq').mono ?_)
      rintro e w8 ⟨rfl, hb8⟩
      have b8 := b7.trans (hb8.mono b7.size)
      have f8 := f7.below hb8 f7.lt
      have r8 := r7.below hb8 r7.lt
      clear b7 f7 r7 hb8
      go_wp2_with fail
      (with_reducible refine (HRE.out _ _ _ r8 hq').mono ?_)
      rintro e w9 ⟨rfl, hb9⟩
      have b9 := b8.trans (hb9.mono b8.size)
      have f9 := f8.below hb9 f8.lt
      have r9 := r8.below hb9 r8.lt
      clear b8 f8 r8 hb9
      go_wp2
      go_roundw
      case rel => exact ⟨j + 1, q', by omega, hq', by go_num, f9, r9, b9⟩
      case measure => simp [intOf]; omega
    · obtain rfl : j = l.length := by omega
      go_wp2_with fail
      (with_reducible refine (HL.out _ _ _ g1' hq).mono ?_)
      rintro e w6 ⟨rfl, nq, hw6⟩
      subst hw6
      have b6 := below_drewN gb nq
      have f6 := g1'.drewN nq
      have r6 := g2'.drewN nq
      clear gb g1' g2'
      generalize World.drewN wr nq = w6 at *
      go_wp2_with fail
      (with_reducible refine (HRL.out _ _ _ r6 hq).mono ?_)
      rintro e w7 ⟨rfl, nq2, hw7⟩
      subst hw7
      have b7 := below_drewN b6 nq2
      have f7 := f6.drewN nq2
      have r7 := r6.drewN nq2
      clear b6 f6 r6
      generalize World.drewN w6 nq2 = w7 at *
      go_wp2_with fail
      (with_reducible refine (HE.out _ _ _ f7 hq).mono ?_)
      rintro e w8 ⟨rfl, hb8⟩
      have b8 := b7.trans (hb8.mono b7.size)
      have r8 := r7.below hb8 r7.lt
      clear b7 f7 r7 hb8
      go_wp2_with fail
      (with_reducible refine (HRE.out _ _ _ r8 hq).mono ?_)
      rintro e w9 ⟨rfl, hb9⟩
      have b9 := b8.trans (hb9.mono b8.size)
      clear b8 r8 hb9
      go_wp2
      go_ret
      exact ⟨rfl, b9⟩

set_option maxRecDepth 100000 in
theorem lifted (os : Os) (started : os.Started) (H : Type) (enc : TypeId × Value → H) :
    ReturnsInHanded {} Try.checked os 4 .any (Rows.bitioTakesSpec.pre6 enc Try.prog Try.f4 Rows.bitioTakesRow.domain false) (Rows.bitioTakesSpec.post enc Try.prog Try.f4 false true false false) := by
  refine returnsInHanded_of_change (C := Try.checked) own started (by kernel_rfl) Try.func4
    (ChangeSpec.witness6 (enc := enc) (C := Try.checked) false ⟨#[], #[.string ByteArray.empty, .slice none 0 0], []⟩ 8 (by kernel_rfl) (by kernel_rfl) (by kernel_rfl) (by kernel_rfl)) ?_
  intro W base args ds gs before hval0 hW hcnd _
  have hval : ∀ (j : Nat) t v, Try.f4.params[j]? = some t → args[j]? = some v → Value.okWide Try.prog W .any base t v := hval0
  have hW' := hW
  obtain ⟨p, q, hA0, hV, rfl, hfz, hnd⟩ := hW
  have hA : DataW.TrodAll enc Try.prog W 0 (fun _ => true) true Try.f4.params.toList args.toList ds p := hA0
  rw [Try.params4] at hA hval
  obtain ⟨v0, vs0, d0, ds0, p0, q0, hargs, rfl, rfl, h0, r0⟩ := trodAll_cons hA
  obtain ⟨v1, vs1, d1, ds1, p1, q1, rfl, rfl, rfl, h1, r1⟩ := trodAll_cons r0
  obtain ⟨rfl, rfl, rfl⟩ := trodAll_nil r1
  obtain rfl : args = #[v0, v1] := by cases args; simp_all
  obtain ⟨rfl, rfl⟩ := trodVars_none hV
  obtain ⟨l0, rfl, rfl, rfl, n0⟩ := open_string Try.underlying9 (hval 0 9 v0 rfl rfl) h0
  have k1 := h1
  have lt1 : ∀ x ∈ p1, x.block < W.heap.size := by obtain ⟨m, hm⟩ := k1; exact DataW.trod_lt m _ _ _ hm
  obtain ⟨a1, m1, c1, rfl⟩ := Go.WideShapes.okWide_slice Try.underlying33 (hval 1 33 v1 rfl rfl)
  obtain ⟨l1, rfl, S1, n1⟩ := open_ilist h1
  clear hA0 hval0
  simp only [List.append_nil] at hW'
  refine (walk l0 l1 a1 c1 n0 n1 W S1).mono fun e W' ⟨he, bel⟩ => ?_
  subst he
  exact ⟨_, rfl, _, _, _, [], _, [], hW', trodAll_mk1 (shut_bool Try.underlying4 _), (trodAll_cons_mk (shut_string Try.underlying9 n0) (trodAll_cons_mk (Below.trod laidOut (by kernel_rfl) (of_decide_eq_true (by kernel_rfl)) k1 bel lt1) trodAll_mk0)), rfl, bel.frame _, fun h => by cases h⟩

theorem over : Rows.bitioTakesRow.holds Try.pinned (OpenSpec.ofChange Rows.bitioTakesSpec) :=
  OpenClaim.holds_of_wide 4 Try.f4 rfl rfl rfl rfl rfl rfl rfl ⟨rfl, rfl, rfl, rfl, rfl⟩ rfl rfl rfl rfl rfl (by kernel_rfl) Try.func4 (by kernel_rfl)
    (of_decide_eq_true (by kernel_rfl)) (by unfold Func.isWrapper; first | (rw [if_pos (by decide +kernel)]; kernel_rfl) | (rw [if_neg (by decide +kernel)]; exact ⟨rfl, rfl⟩))
    (fun os started H enc _ => lifted os started H enc)

theorem proved : Rows.BitioTakesSaid :=
  over
#print axioms proved
end Go.Proofs.Ytpjfafefgmjmfaa.bitioTakes
