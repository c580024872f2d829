/-
  For all names, all sizes and every text: the files that they make of it, or the error, are the document's. What is beyond the bound is answered by the case shown alone. No condition.
-/
import Derived.Test.YtgjbnpghhelpoaaRows
import Derived.Test.YtgjbnpghhelpoaaFC
import Derived.Test.YtgjbnpghhelpoaaFD
import Derived.Test.YtgjbnpghhelpoaaFB
import Derived.ShutString
import Derived.ChangeOld
namespace Go.Proofs.Ytgjbnpghhelpoaa.filesParts
open Go.ChangeShapes Go.WideShapes Go.ChangeAt Go.RowKit
open Go.ChangeMaps (open_string shut_string)
set_option linter.unusedVariables false

theorem partF_most : ∀ {ns : List (List Nat)} {zs : List Int} {s : List Nat} {m : List (List Nat × List Nat)}, partF ns zs s = some m → m.length = ns.length := fun h => (part_lens h).2
theorem partR_len (ns : List (List Nat)) (zs : List Int) (s : List Nat) : (partR ns zs s).1.length ≤ ns.length := by
  unfold partR
  cases h : partF ns zs s with
  | none => exact Nat.zero_le _
  | some m =>
    have := partF_most h
    simp only
    split
    · simp only; omega
    · exact Nat.zero_le _
set_option maxHeartbeats 2000000 in
set_option maxRecDepth 100000 in
theorem walk (ns : List (List Nat)) (p : Option Addr) (c : Nat) (zs : List Int) (q : Option Addr) (d : Nat) (s : ByteArray) (h0 : (∀ x ∈ ns, Bys x) ∧ (Value.slice p ns.length c = .slice none 0 0 ∨ ∃ ad n cc, Value.slice p ns.length c = .slice (some ad) n cc) ∧ ns.length ≤ c ∧ c ≤ maxLen) (h1 : (∀ x ∈ zs, (Lit.int .i64 x).wf = true) ∧ zs.length ≤ maxLen) (n2 : s.size ≤ maxLen) (w : World)
    (hN : Sl w 1 (.slice p ns.length c) (rowsS ns)) (hZ : Sl w 1 (.slice q zs.length d) (rowsZ zs)) :
    Calls Try.prog 4 #[.slice p ns.length c, .slice q zs.length d, .string s] w fun e w' => e = .returned (.bool true) ∧ Below w.heap.size w w' := by
  have HSh := Lib.hid (fun w => l11_shown w)
  have HN := Lib.hid hN
  have HZ := Lib.hid hZ
  have HY := Lib.hid h0.1
  clear hN hZ h0 h1
  by_cases c0 : 30 < ns.length
  · have g0 : (30 : Int) < (ns.length : Int) := by omega
    go_enter Try.func4, Try.ntmps4
    go_wp2_with (go_at_call 9; (with_reducible refine (HSh.out _).mono ?_); rintro e w1 ⟨rfl, hb1⟩)
    go_ret
    exact ⟨rfl, hb1⟩
  have g0 : ¬ (30 : Int) < (ns.length : Int) := by omega
  by_cases c1 : 30 < zs.length
  · have g1 : (30 : Int) < (zs.length : Int) := by omega
    go_enter Try.func4, Try.ntmps4
    go_wp2_with (go_at_call 9; (with_reducible refine (HSh.out _).mono ?_); rintro e w1 ⟨rfl, hb1⟩)
    go_ret
    exact ⟨rfl, hb1⟩
  have g1 : ¬ (30 : Int) < (zs.length : Int) := by omega
  by_cases c2 : 2000 < s.size
  · have g2 : (2000 : Int) < (s.size : Int) := by omega
    go_enter Try.func4, Try.ntmps4
    go_wp2_with (go_at_call 9; (with_reducible refine (HSh.out _).mono ?_); rintro e w1 ⟨rfl, hb1⟩)
    go_ret
    exact ⟨rfl, hb1⟩
  have g2 : ¬ (2000 : Int) < (s.size : Int) := by omega
  obtain ⟨r, hr⟩ : ∃ r, partR ns zs (sl s) = r := ⟨_, rfl⟩
  have hrl : r.1.length ≤ 1000000 := by have := partR_len ns zs (sl s); rw [hr] at this; omega
  have HRL := Lib.hid hrl
  have HP := Lib.hid (fun (wx : World) (h : Below w.heap.size w wx) => f_Part ns zs s p q c d wx r hr (by omega) (by omega) HY.out (HN.out.below h) (HZ.out.below h))
  have HQ := Lib.hid (fun (wx : World) (h : Below w.heap.size w wx) => fr_Part ns zs s p q c d wx r hr (by omega) (by omega) HY.out (HN.out.below h) (HZ.out.below h))
  clear hr hrl c0 c1 c2
  obtain ⟨m, n⟩ := r
  unfold PartRet at HP HQ
  dsimp only at HP HQ HRL
  go_enter Try.func4, Try.ntmps4
  go_wp2_with (first | (go_at_call 9; (with_reducible refine (HSh.out _).mono ?_); rintro e w1 ⟨rfl, hb1⟩; have HB1 := Lib.hid hb1; clear hb1) | (go_at_call 19; refine (HP.out _ HB1.out).mono ?_; rintro e w2 ⟨p2, c2, rfl, s2, hb2⟩; have S2 := Lib.hid s2; have HB2 := Lib.hid (HB1.out.trans (hb2.mono HB1.out.size)); clear s2 hb2) | (go_at_call 20; refine (HQ.out _ HB2.out).mono ?_; rintro e w3 ⟨p3, c3, rfl, s3, hb3⟩; have S2' := Lib.hid (S2.out.below hb3); have S3 := Lib.hid s3; have HB3 := Lib.hid (HB2.out.trans (hb3.mono HB2.out.size)); clear s3 hb3) | (go_at_call 21; refine (fr_Same m p2 p3 c2 c3 w3 HRL.out S2'.out S3.out).mono ?_; rintro e w4 ⟨rfl, hb4⟩; have HB4 := Lib.hid (HB3.out.trans (hb4.mono HB3.out.size)); clear hb4))
  go_ret
  exact ⟨rfl, HB4.out⟩

set_option maxRecDepth 100000 in
theorem lifted (os : Os) (started : os.Started) (H : Type) (enc : TypeId × Value → H) :
    ReturnsInHanded {} Try.checked os 4 .any (Rows.filesPartsSpec.pre6 enc Try.prog Try.f4 Rows.filesPartsRow.domain false) (Rows.filesPartsSpec.post enc Try.prog Try.f4 false true false false) := by
  refine returnsInHanded_of_change (C := Try.checked) own started (by kernel_rfl) Try.func4
    (ChangeSpec.witness6 (enc := enc) (C := Try.checked) false ⟨#[], #[.slice none 0 0, .slice none 0 0, .string ByteArray.empty], []⟩ 8 (by kernel_rfl) (by kernel_rfl) (by kernel_rfl) (by kernel_rfl)) ?_
  intro W base args ds gs before hval0 hW hcnd _
  have hval : ∀ (j : Nat) t v, Try.f4.params[j]? = some t → args[j]? = some v → Value.okWide Try.prog W .any base t v := hval0
  have hW' := hW
  obtain ⟨p, q, hA0, hV, rfl, hfz, hnd⟩ := hW
  have hA : DataW.TrodAll enc Try.prog W 0 (fun _ => true) true Try.f4.params.toList args.toList ds p := hA0
  rw [Try.params4] at hA hval
  obtain ⟨v0, vs0, d0, ds0, p0, q0, hargs, rfl, rfl, h0, r0⟩ := trodAll_cons hA
  obtain ⟨v1, vs1, d1, ds1, p1, q1, rfl, rfl, rfl, h1, r1⟩ := trodAll_cons r0
  obtain ⟨v2, vs2, d2, ds2, p2, q2, rfl, rfl, rfl, h2, r2⟩ := trodAll_cons r1
  obtain ⟨rfl, rfl, rfl⟩ := trodAll_nil r2
  obtain rfl : args = #[v0, v1, v2] := by cases args; simp_all
  obtain ⟨rfl, rfl⟩ := trodVars_none hV
  have k0 := h0
  have lt0 : ∀ x ∈ p0, x.block < W.heap.size := by obtain ⟨m, hm⟩ := k0; exact DataW.trod_lt m _ _ _ hm
  obtain ⟨a0, m0, c0, rfl⟩ := Go.WideShapes.okWide_slice Try.underlying25 (hval 0 25 v0 rfl rfl)
  obtain ⟨l0, rfl, S0, n0⟩ := open_texts h0
  have k1 := h1
  have lt1 : ∀ x ∈ p1, x.block < W.heap.size := by obtain ⟨m, hm⟩ := k1; exact DataW.trod_lt m _ _ _ hm
  obtain ⟨a1, m1, c1, rfl⟩ := Go.WideShapes.okWide_slice Try.underlying26 (hval 1 26 v1 rfl rfl)
  obtain ⟨l1, rfl, S1, n1⟩ := open_sizes h1
  obtain ⟨l2, rfl, rfl, rfl, n2⟩ := open_string Try.underlying9 (hval 2 9 v2 rfl rfl) h2
  clear hA0 hval0
  simp only [List.append_nil] at hW'
  refine (walk l0 a0 c0 l1 a1 c1 l2 n0 n1 n2 W S0 S1).mono fun e W' ⟨he, bel⟩ => ?_
  subst he
  exact ⟨_, rfl, _, _, _, [], _, [], hW', trodAll_mk1 (shut_bool Try.underlying4 _), (trodAll_cons_mk (Below.trod laidOut (by kernel_rfl) (of_decide_eq_true (by kernel_rfl)) k0 bel lt0) (trodAll_cons_mk (Below.trod laidOut (by kernel_rfl) (of_decide_eq_true (by kernel_rfl)) k1 bel lt1) (trodAll_cons_mk (shut_string Try.underlying9 n2) trodAll_mk0))), rfl, bel.frame _, fun h => by cases h⟩

theorem over : Rows.filesPartsRow.holds Try.pinned (OpenSpec.ofChange Rows.filesPartsSpec) :=
  OpenClaim.holds_of_wide 4 Try.f4 rfl rfl rfl rfl rfl rfl rfl ⟨rfl, rfl, rfl, rfl, rfl⟩ rfl rfl rfl rfl rfl (by kernel_rfl) Try.func4 (by kernel_rfl)
    (of_decide_eq_true (by kernel_rfl)) (by unfold Func.isWrapper; first | (rw [if_pos (by decide +kernel)]; kernel_rfl) | (rw [if_neg (by decide +kernel)]; exact ⟨rfl, rfl⟩))
    (fun os started H enc _ => lifted os started H enc)

theorem proved : Rows.FilesPartsSaid :=
  over
#print axioms proved
end Go.Proofs.Ytgjbnpghhelpoaa.filesParts
