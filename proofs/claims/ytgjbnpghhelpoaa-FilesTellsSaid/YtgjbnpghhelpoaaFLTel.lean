/-
  For every list of files and every text: whether they may be, their data as one, their names and sizes, and the text's pieces, are the document's. What is beyond the bound is answered by the case shown alone. No condition.
-/
import Derived.Test.YtgjbnpghhelpoaaRows
import Derived.Test.YtgjbnpghhelpoaaFC
import Derived.Test.YtgjbnpghhelpoaaFB
import Derived.ShutString
import Derived.ChangeOld
namespace Go.Proofs.Ytgjbnpghhelpoaa.filesTells
open Go.ChangeShapes Go.WideShapes Go.ChangeAt Go.RowKit
open Go.ChangeMaps (open_string shut_string)
set_option linter.unusedVariables false

set_option maxHeartbeats 4000000 in
set_option maxRecDepth 100000 in
theorem walk (l : List (List Nat × List Nat)) (p : Option Addr) (cap : Nat) (s : ByteArray) (hx : (∀ f ∈ l, Bys f.1 ∧ Bys f.2) ∧ (Value.slice p l.length cap = .slice none 0 0 ∨ ∃ ad n c, Value.slice p l.length cap = .slice (some ad) n c) ∧ l.length ≤ cap ∧ cap ≤ maxLen) (n1 : s.size ≤ maxLen) (w : World) (hS : Sl w 2 (.slice p l.length cap) (rowsF l)) :
    Calls Try.prog 3 #[.slice p l.length cap, .string s] w fun e w' => e = .returned (.bool true) ∧ Below w.heap.size w w' := by
  have HSh := Lib.hid (fun w => l11_shown w)
  have HS := Lib.hid hS
  obtain ⟨b, hb⟩ : ∃ b, heavyF l = b := ⟨_, rfl⟩
  have HV := Lib.hid (f_heavy l p cap b w hb hS)
  have HY := Lib.hid hx.1
  clear hS hx
  cases b with
  | true =>
    clear hb
    go_enter Try.func3, Try.ntmps3
    go_wp2_with (first | (go_at_call 9; (with_reducible refine (HSh.out _).mono ?_); rintro e w1 ⟨rfl, hb1⟩) | (go_at_call 8; (with_reducible refine HV.out.mono ?_); rintro e w0 ⟨rfl, hb0⟩))
    go_ret
    exact ⟨rfl, hb0.trans (hb1.mono hb0.size)⟩
  | false =>
    obtain ⟨h30, hlight⟩ := heavy_no.1 hb
    clear hb
    by_cases c1 : 2000 < s.size
    · have g1 : (2000 : Int) < (s.size : Int) := by omega
      clear h30 hlight
      go_enter Try.func3, Try.ntmps3
      go_wp2_with (first | (go_at_call 9; (with_reducible refine (HSh.out _).mono ?_); rintro e w1 ⟨rfl, hb1⟩) | (go_at_call 8; (with_reducible refine HV.out.mono ?_); rintro e w0 ⟨rfl, hb0⟩))
      go_ret
      exact ⟨rfl, hb0.trans (hb1.mono hb0.size)⟩
    have g1 : ¬ (2000 : Int) < (s.size : Int) := by omega
    have hd : ∀ f ∈ l, f.2.length ≤ 100000 := fun f hf => by have := ((lightF_iff f).1 (hlight f hf)).2; omega
    obtain ⟨n, hn⟩ : ∃ n, checkF l = n := ⟨_, rfl⟩
    have HNm := Lib.hid (fun (wx : World) (h : Below w.heap.size w wx) => f_Names l p cap wx (by omega) (HS.out.below h))
    have HNr := Lib.hid (fun (wx : World) (h : Below w.heap.size w wx) => fr_Names l p cap wx (by omega) (HS.out.below h))
    have HC := Lib.hid (fun (wx : World) (h : Below w.heap.size w wx) => f_Check l p cap n wx hn (fun f hf => (HY.out f hf).1) (by omega) (HS.out.below h))
    have HCr := Lib.hid (fun (wx : World) (h : Below w.heap.size w wx) => fr_Check l p cap n wx hn (fun f hf => (HY.out f hf).1) (by omega) (HS.out.below h))
    have HSo := Lib.hid (fun (wx : World) (h : Below w.heap.size w wx) => f_Solid l p cap wx (by omega) hd (fun f hf => (HY.out f hf).2) (HS.out.below h))
    have HSr := Lib.hid (fun (wx : World) (h : Below w.heap.size w wx) => fr_Solid l p cap wx (by omega) hd (HS.out.below h))
    have HCu := Lib.hid (fun w => f_Cut s w (by omega))
    have HCur := Lib.hid (fun w => fr_Cut s w (by omega))
    have hcl : (cutF (sl s)).length ≤ 1000000 := by rw [cut_len, sl_len]; omega
    have HCL := Lib.hid hcl
    have hnl := names_len l
    have hzl := sizes_len l
    have t1 := txt_same (tx (solidF l))
    generalize tx (solidF l) = SOL at *
    unfold NamesP at HNm
    unfold NamesRet at HNr
    unfold OwnRetR at HCu HCur
    clear hd hlight hn hcl c1
    go_enter Try.func3, Try.ntmps3
    go_wp2_with (first | (go_at_call 9; (with_reducible refine (HSh.out _).mono ?_); rintro e w1 ⟨rfl, hb1⟩; have HB1 := Lib.hid (hb0.trans (hb1.mono hb0.size)); clear hb0 hb1) | (go_at_call 8; (with_reducible refine HV.out.mono ?_); rintro e w0 ⟨rfl, hb0⟩) | (go_at_call 10; refine (HNm.out _ HB1.out).mono ?_; rintro e w2 ⟨p2, q2, rfl, sn2, sz2, hb2⟩; have SN2 := Lib.hid sn2; have SZ2 := Lib.hid sz2; have HB2 := Lib.hid (HB1.out.trans (hb2.mono HB1.out.size)); clear sn2 sz2 hb2) | (go_at_call 11; refine (HNr.out _ HB2.out).mono ?_; rintro e w3 ⟨v3, u3, rfl, on3, oz3, hb3⟩; have sn3 := on3.sl; have sz3 := oz3.sl; obtain ⟨p3, c3, rfl⟩ := on3.isSlice; obtain ⟨q3, d3, rfl⟩ := oz3.isSlice; rw [rowsS_len, hnl] at sn3 ⊢; rw [rowsZ_len, hzl] at sz3 ⊢; have SN3 := Lib.hid sn3; have SZ3 := Lib.hid sz3; have SN2' := Lib.hid (SN2.out.below hb3); have SZ2' := Lib.hid (SZ2.out.below hb3); have HB3 := Lib.hid (HB2.out.trans (hb3.mono HB2.out.size)); clear sn3 sz3 on3 oz3 hb3))
    clear HSh HV HNm HNr SN2 SZ2 HB1 HB2
    go_loopw [9] (fun i wr => ∃ k : Nat, k ≤ l.length ∧ i = .int .i64 (k : Int) ∧ Below w3.heap.size w3 wr) (fun i _ => l.length - (intOf i).toNat)
    case atStart => exact ⟨0, by omega, rfl, Below.refl _ _⟩
    case round =>
      obtain ⟨k, hk, rfl, gb⟩ := hrel
      by_cases hlt : k < l.length
      · obtain ⟨a, rfl, c1⟩ := SlZ.cell (SZ2'.out.below gb) (j := k) (by rw [hzl]; exact hlt)
        obtain ⟨b, rfl, c2⟩ := SlZ.cell (SZ3.out.below gb) (j := k) (by rw [hzl]; exact hlt)
        have d1 : (k : Int) < (l.length : Int) := by omega
        generalize (sizesF l).getD k 0 = z at *
        have e1 : (z != z) = false := by simp
        go_wp2
        go_quiet (fail)
        go_wp2
        go_roundw
        case rel => exact ⟨k + 1, by omega, by go_num, below_drewN gb _⟩
        case measure => simp [intOf]; omega
      · obtain rfl : k = l.length := by omega
        have HB5 := Lib.hid (HB3.out.trans (gb.mono HB3.out.size))
        have SA := Lib.hid (SN2'.out.below gb)
        have SB := Lib.hid (SN3.out.below gb)
        clear gb hlt hk SN2' SZ2' SN3 SZ3 HB3
        go_wp2_with fail
        refine (HC.out _ HB5.out).mono ?_
        rintro e w6 ⟨rfl, hb6⟩
        have HB6 := Lib.hid (HB5.out.trans (hb6.mono HB5.out.size))
        have SA6 := Lib.hid (SA.out.below hb6)
        have SB6 := Lib.hid (SB.out.below hb6)
        clear hb6
        go_wp2_with fail
        refine (HCr.out _ HB6.out).mono ?_
        rintro e w7 ⟨rfl, hb7⟩
        have HB7 := Lib.hid (HB6.out.trans (hb7.mono HB6.out.size))
        have SA7 := Lib.hid (SA6.out.below hb7)
        have SB7 := Lib.hid (SB6.out.below hb7)
        clear hb7
        go_wp2_with fail
        refine (HSo.out _ HB7.out).mono ?_
        rintro e w8 ⟨rfl, hb8⟩
        have HB8 := Lib.hid (HB7.out.trans (hb8.mono HB7.out.size))
        have SA8 := Lib.hid (SA7.out.below hb8)
        have SB8 := Lib.hid (SB7.out.below hb8)
        clear hb8
        go_wp2_with fail
        refine (HSr.out _ HB8.out).mono ?_
        rintro e w9 ⟨rfl, hb9⟩
        have HB9 := Lib.hid (HB8.out.trans (hb9.mono HB8.out.size))
        have SA9 := Lib.hid (SA8.out.below hb9)
        have SB9 := Lib.hid (SB8.out.below hb9)
        clear hb9 SA SB SA6 SB6 SA7 SB7 SA8 SB8
        go_wp2_with fail
        refine (HCu.out _).mono ?_
        rintro e w10 ⟨v10, rfl, o10, hb10⟩
        have s10 := o10.sl
        obtain ⟨p10, c10, rfl⟩ := o10.isSlice
        rw [rowsS_len] at s10 ⊢
        have S10 := Lib.hid s10
        have HB10 := Lib.hid (HB9.out.trans (hb10.mono HB9.out.size))
        have SA10 := Lib.hid (SA9.out.below hb10)
        have SB10 := Lib.hid (SB9.out.below hb10)
        clear hb10 s10 o10
        go_wp2_with fail
        refine (HCur.out _).mono ?_
        rintro e w11 ⟨v11, rfl, o11, hb11⟩
        have s11 := o11.sl
        obtain ⟨p11, c11, rfl⟩ := o11.isSlice
        rw [rowsS_len] at s11 ⊢
        have S11 := Lib.hid s11
        have HB11 := Lib.hid (HB10.out.trans (hb11.mono HB10.out.size))
        have SA11 := Lib.hid (SA10.out.below hb11)
        have SB11 := Lib.hid (SB10.out.below hb11)
        have S10' := Lib.hid (S10.out.below hb11)
        clear hb11 s11 o11 SA9 SB9 SA10 SB10 S10
        go_wp2_with fail
        refine (kr_Same (cutF (sl s)) p10 p11 c10 c11 w11 HCL.out S10'.out S11.out).mono ?_
        rintro e w12 ⟨rfl, hb12⟩
        have HB12 := Lib.hid (HB11.out.trans (hb12.mono HB11.out.size))
        have SA12 := Lib.hid (SA11.out.below hb12)
        have SB12 := Lib.hid (SB11.out.below hb12)
        clear hb12
        go_wp2_with fail
        have hks := kr_Same (namesF l) p2 p3 l.length c3 w12 (by rw [hnl]; omega) (by rw [hnl]; exact SA12.out) (by rw [hnl]; exact SB12.out)
        rw [hnl] at hks
        refine hks.mono ?_
        rintro e w13 ⟨rfl, hb13⟩
        have HB13 := Lib.hid (HB12.out.trans (hb13.mono HB12.out.size))
        clear hb13 hks
        go_wp2
        go_ret
        exact ⟨rfl, HB13.out⟩

set_option maxRecDepth 100000 in
theorem lifted (os : Os) (started : os.Started) (H : Type) (enc : TypeId × Value → H) :
    ReturnsInHanded {} Try.checked os 3 .any (Rows.filesTellsSpec.pre6 enc Try.prog Try.f3 Rows.filesTellsRow.domain false) (Rows.filesTellsSpec.post enc Try.prog Try.f3 false true false false) := by
  refine returnsInHanded_of_change (C := Try.checked) own started (by kernel_rfl) Try.func3
    (ChangeSpec.witness6 (enc := enc) (C := Try.checked) false ⟨#[], #[.slice none 0 0, .string ByteArray.empty], []⟩ 8 (by kernel_rfl) (by kernel_rfl) (by kernel_rfl) (by kernel_rfl)) ?_
  intro W base args ds gs before hval0 hW hcnd _
  have hval : ∀ (j : Nat) t v, Try.f3.params[j]? = some t → args[j]? = some v → Value.okWide Try.prog W .any base t v := hval0
  have hW' := hW
  obtain ⟨p, q, hA0, hV, rfl, hfz, hnd⟩ := hW
  have hA : DataW.TrodAll enc Try.prog W 0 (fun _ => true) true Try.f3.params.toList args.toList ds p := hA0
  rw [Try.params3] at hA hval
  obtain ⟨v0, vs0, d0, ds0, p0, q0, hargs, rfl, rfl, h0, r0⟩ := trodAll_cons hA
  obtain ⟨v1, vs1, d1, ds1, p1, q1, rfl, rfl, rfl, h1, r1⟩ := trodAll_cons r0
  obtain ⟨rfl, rfl, rfl⟩ := trodAll_nil r1
  obtain rfl : args = #[v0, v1] := by cases args; simp_all
  obtain ⟨rfl, rfl⟩ := trodVars_none hV
  have k0 := h0
  have lt0 : ∀ x ∈ p0, x.block < W.heap.size := by obtain ⟨m, hm⟩ := k0; exact DataW.trod_lt m _ _ _ hm
  obtain ⟨a0, m0, c0, rfl⟩ := Go.WideShapes.okWide_slice Try.underlying22 (hval 0 22 v0 rfl rfl)
  obtain ⟨l0, rfl, S0, n0⟩ := open_files h0
  obtain ⟨l1, rfl, rfl, rfl, n1⟩ := open_string Try.underlying9 (hval 1 9 v1 rfl rfl) h1
  clear hA0 hval0
  simp only [List.append_nil] at hW'
  refine (walk l0 a0 c0 l1 n0 n1 W S0).mono fun e W' ⟨he, bel⟩ => ?_
  subst he
  exact ⟨_, rfl, _, _, _, [], _, [], hW', trodAll_mk1 (shut_bool Try.underlying4 _), (trodAll_cons_mk (Below.trod laidOut (by kernel_rfl) (of_decide_eq_true (by kernel_rfl)) k0 bel lt0) (trodAll_cons_mk (shut_string Try.underlying9 n1) trodAll_mk0)), rfl, bel.frame _, fun h => by cases h⟩

theorem over : Rows.filesTellsRow.holds Try.pinned (OpenSpec.ofChange Rows.filesTellsSpec) :=
  OpenClaim.holds_of_wide 3 Try.f3 rfl rfl rfl rfl rfl rfl rfl ⟨rfl, rfl, rfl, rfl, rfl⟩ rfl rfl rfl rfl rfl (by kernel_rfl) Try.func3 (by kernel_rfl)
    (of_decide_eq_true (by kernel_rfl)) (by unfold Func.isWrapper; first | (rw [if_pos (by decide +kernel)]; kernel_rfl) | (rw [if_neg (by decide +kernel)]; exact ⟨rfl, rfl⟩))
    (fun os started H enc _ => lifted os started H enc)

theorem proved : Rows.FilesTellsSaid :=
  over
#print axioms proved
end Go.Proofs.Ytgjbnpghhelpoaa.filesTells
