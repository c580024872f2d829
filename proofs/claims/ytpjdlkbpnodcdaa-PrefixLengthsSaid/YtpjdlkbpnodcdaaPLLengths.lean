/-
  For all frequencies and bounds: the lengths are the document's, or its error. Longer lists than the bound are answered by the case shown alone. No condition.
-/
import Derived.Test.YtpjdlkbpnodcdaaRows
import Derived.Test.YtpjdlkbpnodcdaaPRLe
import Derived.ShutString
import Derived.ChangeOld
namespace Go.Proofs.Ytpjdlkbpnodcdaa.prefixLengths
open Go.ChangeShapes Go.WideShapes Go.ChangeAt Go.RowKit
open Go.ChangeMaps (open_string shut_string)
set_option linter.unusedVariables false

theorem r_Len (l : List Int) (x : Int) (p : Option Addr) (cap : Nat) (w : World) (hS : Sl w 1 (.slice p l.length cap) (rowsI l)) :
    Calls Try.prog 12 #[.slice p l.length cap, .int .i64 x] w (LRet l x w) := by
  by_cases h : 300 < l.length ∨ x < 1 ∨ 15 < x
  · exact r_Lengths_arg l x p cap w h
  · obtain ⟨lim, rfl⟩ : ∃ lim : Nat, x = (lim : Int) := ⟨x.toNat, by omega⟩
    exact r_Lengths_in l lim p cap w (by omega) (by omega) (by omega) hS
set_option maxHeartbeats 4000000 in
set_option maxRecDepth 100000 in
theorem walk (l : List Int) (p : Option Addr) (cap : Nat) (x : Int) (hu : (∀ q ∈ l, (Lit.int .i64 q).wf = true) ∧ (Value.slice p l.length cap = .slice none 0 0 ∨ ∃ ad n c, Value.slice p l.length cap = .slice (some ad) n c)) (hx : (Lit.int .i64 x).wf = true) (w : World) (hS : Sl w 1 (.slice p l.length cap) (rowsI l)) :
    Calls Try.prog 3 #[.slice p l.length cap, .int .i64 x] w fun e w' => e = .returned (.bool true) ∧ Below w.heap.size w w' := by
  have hSh := fun w => l7_shown w
  have HSh := Lib.hid hSh
  have HS := Lib.hid hS
  clear hSh hS
  by_cases h1 : 310 < l.length
  · have g1 : (310 : Int) < (l.length : Int) := by omega
    clear hu hx
    go_enter Try.func3, Try.ntmps3
    go_wp2_with (go_at_call 10; (with_reducible refine (HSh.out _).mono ?_); rintro e w1 ⟨rfl, hb1⟩)
    go_ret
    exact ⟨rfl, hb1⟩
  have g1 : ¬ (310 : Int) < (l.length : Int) := by omega
  have hRL := fun w' (h : Below w.heap.size w w') => r_Len l x p cap w' (HS.out.below h)
  by_cases hok : OkL l x
  case neg =>
    have HC := Lib.hid (fun w' (h : Below w.heap.size w w') => p_Lengths_no l x p cap w' (by omega) (HS.out.below h) hok)
    have HD : Hid (∀ w', Below w.heap.size w w' → Calls Try.prog 12 #[.slice p l.length cap, .int .i64 x] w' fun e w'' => e = .returned (.tuple #[.slice none 0 0, .int .i64 1]) ∧ Below w'.heap.size w' w'') := Lib.hid (fun w' h => (hRL w' h).mono fun e w'' hh => by
      rcases hh with ⟨_, h1, h2⟩ | ⟨h1, _⟩
      · exact ⟨h1, h2⟩
      · exact absurd h1 hok)
    have HQ := Lib.hid (fun w' => l7_same [] [] none none 0 0 w' (by decide) (by decide) (Sl.none 1) (Sl.none 1) true (.inl ⟨rfl, rfl⟩))
    clear hok h1 hRL hu hx
    go_enter Try.func3, Try.ntmps3
    go_wp2_with (go_at_call 10; (with_reducible refine (HSh.out _).mono ?_); rintro e w1 ⟨rfl, hb1⟩)
    (with_reducible refine (HC.out _ hb1).mono ?_)
    rintro e w2 ⟨rfl, hb2⟩
    have hb3 := hb1.trans (hb2.mono hb1.size)
    clear hb1 hb2
    go_wp2_with fail
    (with_reducible refine (HD.out _ hb3).mono ?_)
    rintro e w3 ⟨rfl, hb4⟩
    have hb5 := hb3.trans (hb4.mono hb3.size)
    clear hb3 hb4
    go_wp2_with fail
    refine (HQ.out _).mono ?_
    rintro e w4 ⟨rfl, hb6⟩
    have hb7 := hb5.trans (hb6.mono hb5.size)
    go_wp2
    go_ret
    exact ⟨rfl, hb7⟩
  case pos =>
  obtain ⟨x1, x15, hmc⟩ := hok
  obtain ⟨lim, rfl⟩ : ∃ lim : Nat, x = (lim : Int) := ⟨x.toNat, by omega⟩
  have hln : (lim : Int).toNat = lim := by omega
  rw [hln] at hmc
  obtain ⟨fr, hfr⟩ : ∃ fr, l.map Int.toNat = fr := ⟨_, rfl⟩
  have hnf : nn fr = l := by
    rw [← hfr]
    unfold nn
    rw [List.map_map]
    conv => rhs; rw [← List.map_id l]
    refine List.map_congr_left fun y hy => ?_
    have := (hmc.2.1 y hy).1
    show ((y.toNat : Nat) : Int) = y
    omega
  have hlen := lensF_len lim 20 fr
  have hfl : fr.length = l.length := by rw [← hfr, List.length_map]
  rw [hfl] at hlen
  have hP := fun w' (h : Below w.heap.size w w') => p_Lengths_yes fr lim (.slice p l.length cap) w' (by omega) (by omega) (by rw [hnf]; exact hmc) (by have := HS.out.below h; rw [← hnf, rowsI_nn, nn_length, hfl] at this; exact this) hu.2
  have hD : ∀ w', Below w.heap.size w w' → Calls Try.prog 12 #[.slice p l.length cap, .int .i64 (lim : Int)] w' fun e w'' => ∃ v, e = .returned (.tuple #[v, .int .i64 0]) ∧ OwnR w'' w'.heap.size 3 1 v (rowsN (lensF lim 20 fr)) ∧ Below w'.heap.size w' w'' := fun w' h => (hRL w' h).mono fun e w'' hh => by
    rcases hh with ⟨h1, _⟩ | ⟨_, h2⟩
    · exact absurd ⟨x1, x15, by rw [hln]; exact hmc⟩ h1
    · rw [hln, hfr] at h2; exact h2
  obtain ⟨L, hL⟩ : ∃ L, lensF lim 20 fr = L := ⟨_, rfl⟩
  rw [hL] at hP hD hlen
  unfold IntsRet2 at hP
  rw [hlen] at hP
  have HP := Lib.hid hP
  have HD := Lib.hid hD
  have HLN := Lib.hid hlen
  clear hP hD hlen hL hRL hu hx hmc hnf hfr hfl h1 hln
  go_enter Try.func3, Try.ntmps3
  go_wp2_with (go_at_call 10; (with_reducible refine (HSh.out _).mono ?_); rintro e w1 ⟨rfl, hb1⟩)
  (with_reducible refine (HP.out _ hb1).mono ?_)
  rintro e w2 ⟨g, rfl, hg, hsz, hb2⟩
  have hb3 := hb1.trans (hb2.mono hb1.size)
  have hsl := hg.slN l.length
  rw [HLN.out] at hsl
  have HSL := Lib.hid hsl
  clear hb1 hb2 hg hsz hsl
  go_wp2_with fail
  (with_reducible refine (HD.out _ hb3).mono ?_)
  rintro e w3 ⟨v, rfl, ho, hb4⟩
  have hb5 := hb3.trans (hb4.mono hb3.size)
  have hs2 := ho.sl
  obtain ⟨p2, c2, e2⟩ := ho.isSlice
  rw [rowsN_len, HLN.out] at e2
  subst e2
  have hs1 := HSL.out.below hb4
  have hQ := l7_same (nn L) (nn L) (some ⟨g, 0, none⟩) p2 l.length c2 w3 (by rw [nn_length, HLN.out]; omega) (by rw [nn_length, HLN.out]; omega) (by rw [nn_length, HLN.out, rowsI_nn]; exact hs1) (by rw [nn_length, HLN.out, rowsI_nn]; exact hs2) true (.inl ⟨rfl, rfl⟩)
  rw [nn_length, HLN.out] at hQ
  have HQ := Lib.hid hQ
  have HB5 := Lib.hid hb5
  clear hb3 hb4 ho hs1 hs2 hQ hb5
  go_wp2_with fail
  (with_reducible refine HQ.out.mono ?_)
  rintro e w4 ⟨rfl, hb6⟩
  have hb7 := HB5.out.trans (hb6.mono HB5.out.size)
  go_wp2
  go_ret
  exact ⟨rfl, hb7⟩

set_option maxRecDepth 100000 in
theorem lifted (os : Os) (started : os.Started) (H : Type) (enc : TypeId × Value → H) :
    ReturnsInHanded {} Try.checked os 3 .any (Rows.prefixLengthsSpec.pre6 enc Try.prog Try.f3 Rows.prefixLengthsRow.domain false) (Rows.prefixLengthsSpec.post enc Try.prog Try.f3 false true false false) := by
  refine returnsInHanded_of_change (C := Try.checked) own started (by kernel_rfl) Try.func3
    (ChangeSpec.witness6 (enc := enc) (C := Try.checked) false ⟨#[], #[.slice none 0 0, .int .i64 0], []⟩ 8 (by kernel_rfl) (by kernel_rfl) (by kernel_rfl) (by kernel_rfl)) ?_
  intro W base args ds gs before hval0 hW hcnd _
  have hval : ∀ (j : Nat) t v, Try.f3.params[j]? = some t → args[j]? = some v → Value.okWide Try.prog W .any base t v := hval0
  have hW' := hW
  obtain ⟨p, q, hA0, hV, rfl, hfz, hnd⟩ := hW
  have hA : DataW.TrodAll enc Try.prog W 0 (fun _ => true) true Try.f3.params.toList args.toList ds p := hA0
  rw [Try.params3] at hA hval
  obtain ⟨v0, vs0, d0, ds0, p0, q0, hargs, rfl, rfl, h0, r0⟩ := trodAll_cons hA
  obtain ⟨v1, vs1, d1, ds1, p1, q1, rfl, rfl, rfl, h1, r1⟩ := trodAll_cons r0
  obtain ⟨rfl, rfl, rfl⟩ := trodAll_nil r1
  obtain rfl : args = #[v0, v1] := by cases args; simp_all
  obtain ⟨rfl, rfl⟩ := trodVars_none hV
  have k0 := h0
  have lt0 : ∀ x ∈ p0, x.block < W.heap.size := by obtain ⟨m, hm⟩ := k0; exact DataW.trod_lt m _ _ _ hm
  obtain ⟨a0, m0, c0, rfl⟩ := Go.WideShapes.okWide_slice Try.underlying22 (hval 0 22 v0 rfl rfl)
  obtain ⟨l0, rfl, S0, n0⟩ := open_ilist2 h0
  obtain ⟨l1, rfl, rfl, rfl, n1⟩ := open_int Try.underlying3 (hval 1 3 v1 rfl rfl) h1
  clear hA0 hval0
  simp only [List.append_nil] at hW'
  refine (walk l0 a0 c0 l1 n0 n1 W S0).mono fun e W' ⟨he, bel⟩ => ?_
  subst he
  exact ⟨_, rfl, _, _, _, [], _, [], hW', trodAll_mk1 (shut_bool Try.underlying4 _), (trodAll_cons_mk (Below.trod laidOut (by kernel_rfl) (of_decide_eq_true (by kernel_rfl)) k0 bel lt0) (trodAll_cons_mk (shut_int Try.underlying3 n1) trodAll_mk0)), rfl, bel.frame _, fun h => by cases h⟩

theorem over : Rows.prefixLengthsRow.holds Try.pinned (OpenSpec.ofChange Rows.prefixLengthsSpec) :=
  OpenClaim.holds_of_wide 3 Try.f3 rfl rfl rfl rfl rfl rfl rfl ⟨rfl, rfl, rfl, rfl, rfl⟩ rfl rfl rfl rfl rfl (by kernel_rfl) Try.func3 (by kernel_rfl)
    (of_decide_eq_true (by kernel_rfl)) (by unfold Func.isWrapper; first | (rw [if_pos (by decide +kernel)]; kernel_rfl) | (rw [if_neg (by decide +kernel)]; exact ⟨rfl, rfl⟩))
    (fun os started H enc _ => lifted os started H enc)

theorem proved : Rows.PrefixLengthsSaid :=
  over
#print axioms proved
end Go.Proofs.Ytpjdlkbpnodcdaa.prefixLengths
