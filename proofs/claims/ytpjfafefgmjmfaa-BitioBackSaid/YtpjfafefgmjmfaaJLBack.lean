/-
  For all lists of pieces: what was packed is taken, piece by piece; then eight bits more are too few, it is at its end, and its bytes are as many as its bits ask. Longer lists than the bound are answered by the case shown alone. No condition.
-/
import Derived.Test.YtpjfafefgmjmfaaRows
import Derived.Test.YtpjfafefgmjmfaaJShown
import Derived.Test.YtpjfafefgmjmfaaJEnd
import Derived.Test.YtpjfafefgmjmfaaJOpen
import Derived.ShutString
import Derived.ChangeOld
namespace Go.Proofs.Ytpjfafefgmjmfaa.bitioBack
open Go.ChangeShapes Go.WideShapes Go.ChangeAt Go.RowKit
open Go.ChangeMaps (open_string shut_string)
set_option linter.unusedVariables false

set_option maxHeartbeats 1000000 in
set_option maxRecDepth 100000 in
theorem walk (l : List (Nat × Int)) (p : Option Addr) (cap : Nat) (hu : ∀ q ∈ l, q.1 < 4294967296) (w : World) (hS : Sl w 2 (.slice p l.length cap) (rowsP l)) :
    Calls Try.prog 5 #[.slice p l.length cap] w fun e w' => e = .returned (.bool true) ∧ Below w.heap.size w w' := by
  have hSh := fun w => l6_shown w
  have HSh := Lib.hid hSh
  clear hSh
  by_cases h1 : 300 < l.length
  · have g1 : (300 : Int) < (l.length : Int) := by omega
    go_enter Try.func5, Try.ntmps5
    go_wp2_with (go_at_call 8; (with_reducible refine (HSh.out _).mono ?_); rintro e w1 ⟨rfl, hb1⟩)
    go_ret
    exact ⟨rfl, hb1⟩
  have g1 : ¬ (300 : Int) < (l.length : Int) := by omega
  by_cases hm : ∀ q ∈ l, mayP q
  case neg =>
    have hP := fun w h => i_Pack l p cap w (by omega) hu h ⟨#[]⟩ 1 (.inr ⟨hm, rfl, rfl⟩)
    have HP := Lib.hid hP
    clear hP hm
    go_enter Try.func5, Try.ntmps5
    go_wp2_with (go_at_call 8; (with_reducible refine (HSh.out _).mono ?_); rintro e w1 ⟨rfl, hb1⟩)
    (with_reducible refine (HP.out _ (hS.below hb1)).mono ?_)
    rintro e w2 ⟨rfl, hb2⟩
    go_wp2
    go_ret
    exact ⟨rfl, hb1.trans (hb2.mono hb1.size)⟩
  case pos =>
  obtain ⟨s, hs⟩ : ∃ s, s = tx (bytesB (bitsP l)) := ⟨_, rfl⟩
  have hsl : sl s = bytesB (bitsP l) := by rw [hs, sl_tx (bytesB_bys (bitsP_01 l))]
  have hsz : s.size = (sizeP l + 7) / 8 := by rw [← sl_len, hsl, size_pack hm]
  have hle := sizeP_le l
  have hss : s.size ≤ 1000000000 := by omega
  have htk := fun j => sizeP_take l j
  have hP := fun w h => i_Pack l p cap w (by omega) hu h s 0 (.inl ⟨hm, hs, rfl⟩)
  have hT : ∀ R j w (hj : j < l.length), Blk w R 58 (rdr s (sizeP (l.take j))) → Calls Try.prog 15 #[.pointer (some ⟨R, 0, none⟩), .int .i64 l[j].2] w fun e w' => e = .returned (.tuple #[.int .u32 (l[j].1 : Int), .int .i64 ((0 : Nat) : Int)]) ∧ Turned w w' R 58 (rdr s (sizeP (l.take (j + 1)))) := fun R j w hj h => by
    refine i_Take R s _ _ w h (by have := htk j; omega) hss _ _ _ ?_
    have e : l = l.take j ++ l[j] :: l.drop (j + 1) := by rw [← List.drop_eq_getElem_cons hj, List.take_append_drop]
    rw [hsl, List.take_succ_eq_append_getElem hj]
    have := take_piece (a := l.take j) (p := l[j]) (b := l.drop (j + 1)) (by rw [← e]; exact hm)
    rwa [← e] at this
  have hO := fun R w h => i_Take R s (sizeP l) 8 w h (by omega) hss 0 40 (sizeP l) (by rw [hsl]; exact take_over hm)
  have hE := fun R w h => i_End R s (sizeP l) w h (by omega) hss
  rw [hsl, end_pack hm] at hE
  have hL := fun R w h => i_Left R s (sizeP l) w h (by omega) hss
  have hZ := fun w h => i_Size l p cap w (by omega) h
  have hN := fun w => i_New s w
  have d8 : 8 * s.size - sizeP l < 8 := by omega
  have e8 : ((sizeP l : Int) + 7) / 8 = (s.size : Int) := by omega
  have i8 : (sizeP l : Int) ≤ 100000 := by omega
  have z0 : sizeP (l.take 0) = 0 := rfl
  have zl : sizeP (l.take l.length) = sizeP l := by rw [List.take_length]
  have HP := Lib.hid hP
  have HT := Lib.hid hT
  have HO := Lib.hid hO
  have HE := Lib.hid hE
  have HL := Lib.hid hL
  have HZ := Lib.hid hZ
  have HN := Lib.hid hN
  have HZL := Lib.hid zl
  have HZ0 := Lib.hid z0
  have HSS := Lib.hid hS
  clear hP hT hO hE hL hZ hN hsl hs hsz hle htk hm zl z0
  generalize 8 * s.size - sizeP l = L at *
  go_enter Try.func5, Try.ntmps5
  go_wp2_with (go_at_call 8; (with_reducible refine (HSh.out _).mono ?_); rintro e w1 ⟨rfl, hb1⟩)
  (with_reducible refine (HP.out _ (hS.below hb1)).mono ?_)
  rintro e w2 ⟨rfl, hb2⟩
  have c2 := hb1.trans (hb2.mono hb1.size)
  clear hb1 hb2 hS
  go_wp2_with fail
  (with_reducible refine (HN.out _).mono ?_)
  rintro e w3 ⟨rfl, hw3⟩
  subst hw3
  have k1 := Blk.new w2 58 (rdr s 0)
  have kb := c2.alloc c2.size (.cells (rdr s 0).toArray 58)
  have hz := c2.size
  clear c2
  go_wp2_with fail
  generalize World.alloc w2 _ = w3 at *
  generalize w2.heap.size = Z at *
  rw [← HZ0.out] at k1
  go_loopw [6] (fun i wr => ∃ j : Nat, j ≤ l.length ∧ i = .int .i64 (j : Int) ∧ Blk wr Z 58 (rdr s (sizeP (l.take j))) ∧ Below w.heap.size w wr) (fun i _ => l.length - (intOf i).toNat)
  case atStart => exact ⟨0, by omega, rfl, k1, kb⟩
  case round =>
    obtain ⟨j, hj, rfl, gR, gb⟩ := hrel
    clear k1 kb
    by_cases hlt : j < l.length
    · have d1 : (j : Int) < (l.length : Int) := by omega
      have hcell : ∀ wx, Below w.heap.size w wx → ∃ a : Addr, p = some a ∧ wx.cell? (a.add (j * 2)) = some (.int .u32 (l[j].1 : Int)) ∧ wx.cell? ⟨(a.add (j * 2)).block, (a.add (j * 2)).off + 1, none⟩ = some (.int .i64 l[j].2) := fun wx h => by
        obtain ⟨a, e, hc⟩ := (HSS.out.below h).row (rowsP_at hlt)
        exact ⟨a, e, by have := hc 0 _ rfl; rwa [show (a.add (j * 2)).add 0 = a.add (j * 2) from rfl] at this, hc 1 _ rfl⟩
      obtain ⟨a, rfl, _, _⟩ := hcell wr gb
      have hc0 : ∀ wx, Below w.heap.size w wx → wx.cell? (a.add (j * 2)) = some (.int .u32 (l[j].1 : Int)) := fun wx h => by
        obtain ⟨a', e, h1, _⟩ := hcell wx h
        cases e; exact h1
      have hc1 : ∀ wx, Below w.heap.size w wx → wx.cell? ⟨(a.add (j * 2)).block, (a.add (j * 2)).off + 1, none⟩ = some (.int .i64 l[j].2) := fun wx h => by
        obtain ⟨a', e, _, h1⟩ := hcell wx h
        cases e; exact h1
      have hTj := fun R w h => HT.out R j w hlt h
      have HC0 := Lib.hid hc0
      have HC1 := Lib.hid hc1
      have HTJ := Lib.hid hTj
      clear hcell hc0 hc1 hTj
      generalize l[j] = q at *
      obtain ⟨n, x⟩ := q
      have c1 := HC1.out wr gb
      go_wp2_with fail
      (with_reducible refine (HTJ.out _ _ gR).mono ?_)
      rintro e w4 ⟨rfl, t4⟩
      have b4 := t4.below gb gb.size hz
      have f4 := t4.2
      clear t4 gR gb c1
      have c0 := HC0.out w4 b4
      go_wp2
      go_roundw
      case rel => exact ⟨j + 1, by omega, by go_num, f4, b4⟩
      case measure => simp [intOf]; omega
    · obtain rfl : j = l.length := by omega
      rw [HZL.out] at gR
      go_wp2_with fail
      (with_reducible refine (HO.out _ _ gR).mono ?_)
      rintro e w4 ⟨rfl, t4⟩
      have b4 := t4.below gb gb.size hz
      have f4 := t4.2
      clear t4 gR gb
      go_wp2_with fail
      (with_reducible refine (HE.out _ _ f4).mono ?_)
      rintro e w5 ⟨rfl, hb5⟩
      have b5 := b4.trans (hb5.mono b4.size)
      have f5 := f4.below hb5 f4.lt
      clear b4 f4 hb5
      go_wp2_with fail
      (with_reducible refine (HL.out _ _ f5).mono ?_)
      rintro e w6 ⟨rfl, nq, hw6⟩
      subst hw6
      have b6 := below_drewN b5 nq
      clear b5 f5
      generalize World.drewN w5 nq = w6 at *
      have d9 : (L : Int) < 8 := by omega
      have d10 : decide (L < 8) = true := by simp; omega
      go_wp2_with fail
      (with_reducible refine (HZ.out _ (HSS.out.below b6)).mono ?_)
      rintro e w7 ⟨rfl, hb7⟩
      have b7 := b6.trans (hb7.mono b6.size)
      go_wp2
      go_ret
      exact ⟨rfl, b7⟩

set_option maxRecDepth 100000 in
theorem lifted (os : Os) (started : os.Started) (H : Type) (enc : TypeId × Value → H) :
    ReturnsInHanded {} Try.checked os 5 .any (Rows.bitioBackSpec.pre6 enc Try.prog Try.f5 Rows.bitioBackRow.domain false) (Rows.bitioBackSpec.post enc Try.prog Try.f5 false true false false) := by
  refine returnsInHanded_of_change (C := Try.checked) own started (by kernel_rfl) Try.func5
    (ChangeSpec.witness6 (enc := enc) (C := Try.checked) false ⟨#[], #[.slice none 0 0], []⟩ 8 (by kernel_rfl) (by kernel_rfl) (by kernel_rfl) (by kernel_rfl)) ?_
  intro W base args ds gs before hval0 hW hcnd _
  have hval : ∀ (j : Nat) t v, Try.f5.params[j]? = some t → args[j]? = some v → Value.okWide Try.prog W .any base t v := hval0
  have hW' := hW
  obtain ⟨p, q, hA0, hV, rfl, hfz, hnd⟩ := hW
  have hA : DataW.TrodAll enc Try.prog W 0 (fun _ => true) true Try.f5.params.toList args.toList ds p := hA0
  rw [Try.params5] at hA hval
  obtain ⟨v0, vs0, d0, ds0, p0, q0, hargs, rfl, rfl, h0, r0⟩ := trodAll_cons hA
  obtain ⟨rfl, rfl, rfl⟩ := trodAll_nil r0
  obtain rfl : args = #[v0] := by cases args; simp_all
  obtain ⟨rfl, rfl⟩ := trodVars_none hV
  have k0 := h0
  have lt0 : ∀ x ∈ p0, x.block < W.heap.size := by obtain ⟨m, hm⟩ := k0; exact DataW.trod_lt m _ _ _ hm
  obtain ⟨a0, m0, c0, rfl⟩ := Go.WideShapes.okWide_slice Try.underlying22 (hval 0 22 v0 rfl rfl)
  obtain ⟨l0, rfl, S0, n0⟩ := open_pieces h0
  clear hA0 hval0
  simp only [List.append_nil] at hW'
  refine (walk l0 a0 c0 n0 W S0).mono fun e W' ⟨he, bel⟩ => ?_
  subst he
  exact ⟨_, rfl, _, _, _, [], _, [], hW', trodAll_mk1 (shut_bool Try.underlying4 _), (trodAll_cons_mk (Below.trod laidOut (by kernel_rfl) (of_decide_eq_true (by kernel_rfl)) k0 bel lt0) trodAll_mk0), rfl, bel.frame _, fun h => by cases h⟩

theorem over : Rows.bitioBackRow.holds Try.pinned (OpenSpec.ofChange Rows.bitioBackSpec) :=
  OpenClaim.holds_of_wide 5 Try.f5 rfl rfl rfl rfl rfl rfl rfl ⟨rfl, rfl, rfl, rfl, rfl⟩ rfl rfl rfl rfl rfl (by kernel_rfl) Try.func5 (by kernel_rfl)
    (of_decide_eq_true (by kernel_rfl)) (by unfold Func.isWrapper; first | (rw [if_pos (by decide +kernel)]; kernel_rfl) | (rw [if_neg (by decide +kernel)]; exact ⟨rfl, rfl⟩))
    (fun os started H enc _ => lifted os started H enc)

theorem proved : Rows.BitioBackSaid :=
  over
#print axioms proved
end Go.Proofs.Ytpjfafefgmjmfaa.bitioBack
