/-
  For all lengths and bits: which symbols they are is the document's, or its error, and so many bits are taken. Longer lists and strings than the bounds are answered by the case shown alone. No condition.
-/
import Derived.Test.YtpjdlkbpnodcdaaRows
import Derived.Test.YtpjdlkbpnodcdaaPRNx
import Derived.ShutString
import Derived.ChangeOld
namespace Go.Proofs.Ytpjdlkbpnodcdaa.prefixNext
open Go.ChangeShapes Go.WideShapes Go.ChangeAt Go.RowKit
open Go.ChangeMaps (open_string shut_string)
set_option linter.unusedVariables false

theorem told_le {L s : List Nat} {p : Nat} : ∀ d w, 1 ≤ w → p + (w - 1) ≤ 8 * s.length → (toldW L s p d w).2.2 ≤ 8 * s.length
  | 0, w, h1, h => h
  | d + 1, w, h1, h => by
    unfold toldW
    split
    · exact h
    · split
      · show p + w ≤ _; omega
      · split
        · exact told_le d (w + 1) (by omega) (by rw [Nat.add_sub_cancel]; omega)
        · show p + w ≤ _; omega
/-- both the program's and the reference's tell the same -/
theorem both (l : List Int) (p : Option Addr) (cap : Nat) (s : ByteArray) (w : World) (hl : l.length ≤ 310) (hs : s.size ≤ 1000) (hS : Sl w 1 (.slice p l.length cap) (rowsI l)) :
    ∃ N : Nat → Nat × Nat × Nat, (∀ q, q ≤ 8 * s.size → (N q).2.2 ≤ 8 * s.size) ∧
      (∀ R wr q, q ≤ 8 * s.size → Below w.heap.size w wr → w.heap.size ≤ R → Blk wr R 72 (rdr s q) → Calls Try.prog 19 #[.pointer (some ⟨R, 0, none⟩), .slice p l.length cap] wr fun e w' => e = .returned (.tuple #[.int .i64 ((N q).1 : Int), .int .i64 ((N q).2.1 : Int)]) ∧ Turned wr w' R 72 (rdr s (N q).2.2)) ∧
      (∀ R wr q, q ≤ 8 * s.size → Below w.heap.size w wr → w.heap.size ≤ R → Blk wr R 44 (rdr s q) → Calls Try.prog 20 #[.pointer (some ⟨R, 0, none⟩), .slice p l.length cap] wr fun e w' => e = .returned (.tuple #[.int .i64 ((N q).1 : Int), .int .i64 ((N q).2.1 : Int)]) ∧ Turned wr w' R 44 (rdr s (N q).2.2)) := by
  by_cases hR : RightI l
  · obtain ⟨L, hL, hN⟩ := hR.nat
    have hLl : L.length = l.length := by rw [hL, nn_length]
    have hSN : ∀ w', Below w.heap.size w w' → Sl w' 1 (.slice p L.length cap) (rowsN L) := fun w' h => by
      have := hS.below h
      rw [hL, rowsI_nn, nn_length] at this
      exact this
    have hL0 : 0 < L.length := by
      have h1 := hN.some
      have h2 := lgN_le L 1
      omega
    have hpb : ∀ a, p = some a → a.block < w.heap.size := fun a ha => by
      obtain ⟨_, p', c', e, h3⟩ := hSN w (Below.refl _ _)
      injection e with e1 _ _
      subst e1
      obtain ⟨a', e', q2, _⟩ := h3 0 _ (rowsN_at hL0)
      rw [ha] at e'
      cases e'
      exact q2
    refine ⟨fun q => toldW L (sl s) q 15 1, fun q hq => ?_, fun R wr q hq hb hwR hB => ?_, fun R wr q hq hb hwR hB => ?_⟩
    · have := told_le (L := L) (s := sl s) (p := q) 15 1 (by omega) (by rw [sl_len]; omega)
      rwa [sl_len] at this
    · have := p_Next_yes L p cap R s q wr hN (hSN wr hb) hB hq (by omega) (fun a ha => by have := hpb a ha; omega)
      rw [hLl] at this
      exact this
    · have := r_Next_yes L p cap R s q wr hN (hSN wr hb) hB hq (by omega)
      rw [hLl] at this
      exact this
  · refine ⟨fun q => (0, 70, q), fun q hq => hq, fun R wr q hq hb hwR hB => ?_, fun R wr q hq hb hwR hB => ?_⟩
    · exact (p_Next_no l p cap R wr hl (hS.below hb) hR).mono fun e w' ⟨h1, h2⟩ => ⟨h1, Turned.of_below h2 hB⟩
    · exact (r_Next_no l p cap R wr hl (hS.below hb) hR).mono fun e w' ⟨h1, h2⟩ => ⟨h1, by subst h2; exact Turned.refl hB⟩
set_option maxHeartbeats 4000000 in
set_option maxRecDepth 100000 in
theorem walk (l : List Int) (p : Option Addr) (cap : Nat) (s : ByteArray) (hu : (∀ q ∈ l, (Lit.int .i64 q).wf = true) ∧ (Value.slice p l.length cap = .slice none 0 0 ∨ ∃ ad n c, Value.slice p l.length cap = .slice (some ad) n c)) (hm : s.size ≤ maxLen) (w : World) (hS : Sl w 1 (.slice p l.length cap) (rowsI l)) :
    Calls Try.prog 5 #[.slice p l.length cap, .string s] w fun e w' => e = .returned (.bool true) ∧ Below w.heap.size w w' := by
  have hSh := fun w => l7_shown w
  have HSh := Lib.hid hSh
  have HS := Lib.hid hS
  clear hSh hS hu hm
  by_cases h1 : 310 < l.length
  · have g1 : (310 : Int) < (l.length : Int) := by omega
    go_enter Try.func5, Try.ntmps5
    go_wp2_with (go_at_call 10; (with_reducible refine (HSh.out _).mono ?_); rintro e w1 ⟨rfl, hb1⟩)
    go_ret
    exact ⟨rfl, hb1⟩
  have g1 : ¬ (310 : Int) < (l.length : Int) := by omega
  by_cases h2 : 200 < s.size
  · have g2 : (200 : Int) < (s.size : Int) := by omega
    go_enter Try.func5, Try.ntmps5
    go_wp2_with (go_at_call 10; (with_reducible refine (HSh.out _).mono ?_); rintro e w1 ⟨rfl, hb1⟩)
    go_ret
    exact ⟨rfl, hb1⟩
  have g2 : ¬ (200 : Int) < (s.size : Int) := by omega
  obtain ⟨N, hN1, hN2, hN3⟩ := both l p cap s w (by omega) (by omega) HS.out
  have hL := fun R p w h (hp : p ≤ 8 * s.size) => i_Left R s p w h hp (by omega)
  have hRL := fun R p w h (hp : p ≤ 8 * s.size) => r_rLeft R s p w h hp (by omega)
  have hN := fun w => i_New s w
  have HN1 := Lib.hid hN1
  have HN2 := Lib.hid hN2
  have HN3 := Lib.hid hN3
  have HL := Lib.hid hL
  have HRL := Lib.hid hRL
  have HN := Lib.hid hN
  clear hN1 hN2 hN3 hL hRL hN HS h1 h2
  go_enter Try.func5, Try.ntmps5
  go_wp2_with (go_at_call 10; (with_reducible refine (HSh.out _).mono ?_); rintro e w1 ⟨rfl, hb1⟩)
  (with_reducible refine (HN.out _).mono ?_)
  rintro e w2 ⟨rfl, hw2⟩
  subst hw2
  have k1 := (Blk.new w1 72 (rdr s 0)).alloc (.cells #[.string s, .int .i64 0] 44)
  have k2 : Blk ((w1.alloc (.cells (rdr s 0).toArray 72)).alloc (.cells #[.string s, .int .i64 0] 44)) (w1.heap.size + 1) 44 (rdr s 0) := Blk.newAt _ _ (by simp) _ _ rfl
  have kb := (hb1.alloc hb1.size (.cells (rdr s 0).toArray 72)).alloc (by have := hb1.size; simp; omega) (.cells #[.string s, .int .i64 0] 44)
  have hz := hb1.size
  clear hb1
  go_wp2_with fail
  generalize World.alloc (World.alloc w1 _) _ = w3 at *
  generalize w1.heap.size = Z at *
  have K1 := Lib.hid k1
  have K2 := Lib.hid k2
  have KB := Lib.hid kb
  clear k1 k2 kb
  go_loopw [7, 8, 9, 10, 11] (fun i _ _ _ _ wr => ∃ j q : Nat, j ≤ 40 ∧ q ≤ 8 * s.size ∧ i = .int .i64 (j : Int) ∧ Blk wr Z 72 (rdr s q) ∧ Blk wr (Z + 1) 44 (rdr s q) ∧ Below w.heap.size w wr) (fun i _ _ _ _ _ => 40 - (intOf i).toNat)
  case atStart => exact ⟨0, 0, by omega, by omega, rfl, K1.out, K2.out, KB.out⟩
  case round =>
    obtain ⟨j, q, hj, hq, rfl, g1', g2', gb⟩ := hrel
    clear K1 K2 KB
    by_cases hlt : j < 40
    · have d1 : (j : Int) < 40 := by omega
      have hq' := HN1.out q hq
      have hA := HN2.out Z wr q hq gb hz g1'
      have hB := fun wx (h : Below w.heap.size w wx) hk => HN3.out (Z + 1) wx q hq h (by omega) hk
      obtain ⟨n, er, q', hN⟩ : ∃ n er q', N q = (n, er, q') := ⟨_, _, _, rfl⟩
      rw [hN] at hq' hA hB
      have hq'' : q' ≤ 8 * s.size := hq'
      have hA' : Calls Try.prog 19 #[.pointer (some ⟨Z, 0, none⟩), .slice p l.length cap] wr fun e w' => e = .returned (.tuple #[.int .i64 (n : Int), .int .i64 (er : Int)]) ∧ Turned wr w' Z 72 (rdr s q') := hA
      have hB' : ∀ wx, Below w.heap.size w wx → Blk wx (Z + 1) 44 (rdr s q) → Calls Try.prog 20 #[.pointer (some ⟨Z + 1, 0, none⟩), .slice p l.length cap] wx fun e w' => e = .returned (.tuple #[.int .i64 (n : Int), .int .i64 (er : Int)]) ∧ Turned wx w' (Z + 1) 44 (rdr s q') := fun wx h hk => hB wx h hk
      have HA := Lib.hid hA'
      have HB := Lib.hid hB'
      have GB := Lib.hid gb
      have G2 := Lib.hid g2'
      have hw1 : w.heap.size ≤ Z + 1 := by omega
      clear hA hB hA' hB' hN hq' gb g1' g2' hq
      go_wp2_with fail
      (with_reducible refine HA.out.mono ?_)
      rintro e w4 ⟨rfl, t4⟩
      have b4 := t4.below GB.out GB.out.size hz
      have r4 := t4.other G2.out (by omega)
      have f4 := Lib.hid t4.2
      have hB4 := Lib.hid (HB.out w4 b4 r4)
      have B4 := Lib.hid b4
      clear t4 b4 r4 HB HA GB G2
      go_wp2_with fail
      (with_reducible refine hB4.out.mono ?_)
      rintro e w5 ⟨rfl, t5⟩
      have b5 := Lib.hid (t5.below B4.out B4.out.size hw1)
      have f5 := Lib.hid (t5.other f4.out (by omega))
      have r5 := Lib.hid t5.2
      clear t5 B4 f4 hB4
      by_cases her : er = 0
      · subst her
        go_wp2_with fail
        (with_reducible refine (HL.out _ _ _ f5.out hq'').mono ?_)
        rintro e w6 ⟨rfl, nq, rfl⟩
        go_wp2_with fail
        (with_reducible refine (HRL.out _ _ _ (r5.out.drewN nq) hq'').mono ?_)
        rintro e w7 ⟨rfl, nq2, rfl⟩
        go_wp2
        go_roundw
        case rel => exact ⟨j + 1, q', by omega, hq'', by go_num, f5.out.drewN _, r5.out.drewN _, below_drewN b5.out _⟩
        case measure => simp [intOf]; omega
      · have e0 : ((er : Int) != 0) = true := by rw [bne_iff_ne]; omega
        have e1 : ((er : Int) != (er : Int)) = false := by simp
        go_wp2_with fail
        (with_reducible refine (HL.out _ _ _ f5.out hq'').mono ?_)
        rintro e w6 ⟨rfl, nq, rfl⟩
        go_wp2_with fail
        (with_reducible refine (HRL.out _ _ _ (r5.out.drewN nq) hq'').mono ?_)
        rintro e w7 ⟨rfl, nq2, rfl⟩
        clear her
        go_wp2
        go_ret
        exact ⟨rfl, below_drewN b5.out _⟩
    · obtain rfl : j = 40 := by omega
      have GB := Lib.hid gb
      clear gb g1' g2' hlt
      go_wp2
      go_ret
      exact ⟨rfl, GB.out⟩

set_option maxRecDepth 100000 in
theorem lifted (os : Os) (started : os.Started) (H : Type) (enc : TypeId × Value → H) :
    ReturnsInHanded {} Try.checked os 5 .any (Rows.prefixNextSpec.pre6 enc Try.prog Try.f5 Rows.prefixNextRow.domain false) (Rows.prefixNextSpec.post enc Try.prog Try.f5 false true false false) := by
  refine returnsInHanded_of_change (C := Try.checked) own started (by kernel_rfl) Try.func5
    (ChangeSpec.witness6 (enc := enc) (C := Try.checked) false ⟨#[], #[.slice none 0 0, .string ByteArray.empty], []⟩ 8 (by kernel_rfl) (by kernel_rfl) (by kernel_rfl) (by kernel_rfl)) ?_
  intro W base args ds gs before hval0 hW hcnd _
  have hval : ∀ (j : Nat) t v, Try.f5.params[j]? = some t → args[j]? = some v → Value.okWide Try.prog W .any base t v := hval0
  have hW' := hW
  obtain ⟨p, q, hA0, hV, rfl, hfz, hnd⟩ := hW
  have hA : DataW.TrodAll enc Try.prog W 0 (fun _ => true) true Try.f5.params.toList args.toList ds p := hA0
  rw [Try.params5] at hA hval
  obtain ⟨v0, vs0, d0, ds0, p0, q0, hargs, rfl, rfl, h0, r0⟩ := trodAll_cons hA
  obtain ⟨v1, vs1, d1, ds1, p1, q1, rfl, rfl, rfl, h1, r1⟩ := trodAll_cons r0
  obtain ⟨rfl, rfl, rfl⟩ := trodAll_nil r1
  obtain rfl : args = #[v0, v1] := by cases args; simp_all
  obtain ⟨rfl, rfl⟩ := trodVars_none hV
  have k0 := h0
  have lt0 : ∀ x ∈ p0, x.block < W.heap.size := by obtain ⟨m, hm⟩ := k0; exact DataW.trod_lt m _ _ _ hm
  obtain ⟨a0, m0, c0, rfl⟩ := Go.WideShapes.okWide_slice Try.underlying22 (hval 0 22 v0 rfl rfl)
  obtain ⟨l0, rfl, S0, n0⟩ := open_ilist2 h0
  obtain ⟨l1, rfl, rfl, rfl, n1⟩ := open_string Try.underlying9 (hval 1 9 v1 rfl rfl) h1
  clear hA0 hval0
  simp only [List.append_nil] at hW'
  refine (walk l0 a0 c0 l1 n0 n1 W S0).mono fun e W' ⟨he, bel⟩ => ?_
  subst he
  exact ⟨_, rfl, _, _, _, [], _, [], hW', trodAll_mk1 (shut_bool Try.underlying4 _), (trodAll_cons_mk (Below.trod laidOut (by kernel_rfl) (of_decide_eq_true (by kernel_rfl)) k0 bel lt0) (trodAll_cons_mk (shut_string Try.underlying9 n1) trodAll_mk0)), rfl, bel.frame _, fun h => by cases h⟩

theorem over : Rows.prefixNextRow.holds Try.pinned (OpenSpec.ofChange Rows.prefixNextSpec) :=
  OpenClaim.holds_of_wide 5 Try.f5 rfl rfl rfl rfl rfl rfl rfl ⟨rfl, rfl, rfl, rfl, rfl⟩ rfl rfl rfl rfl rfl (by kernel_rfl) Try.func5 (by kernel_rfl)
    (of_decide_eq_true (by kernel_rfl)) (by unfold Func.isWrapper; first | (rw [if_pos (by decide +kernel)]; kernel_rfl) | (rw [if_neg (by decide +kernel)]; exact ⟨rfl, rfl⟩))
    (fun os started H enc _ => lifted os started H enc)

theorem proved : Rows.PrefixNextSaid :=
  over
#print axioms proved
end Go.Proofs.Ytpjdlkbpnodcdaa.prefixNext
