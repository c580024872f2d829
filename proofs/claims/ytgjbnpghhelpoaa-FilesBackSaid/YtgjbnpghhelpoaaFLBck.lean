/-
  For every list of files: what they are cut to comes in pieces of a block's size, and is parted to the files again where they may be; else the error is theirs. Lists beyond the bound are answered by the case shown alone. No condition.
-/
import Derived.Test.YtgjbnpghhelpoaaRows
import Derived.Test.YtgjbnpghhelpoaaFC
import Derived.Test.YtgjbnpghhelpoaaFD
import Derived.Test.YtgjbnpghhelpoaaFB
import Derived.ShutString
import Derived.ChangeOld
namespace Go.Proofs.Ytgjbnpghhelpoaa.filesBack
open Go.ChangeShapes Go.WideShapes Go.ChangeAt Go.RowKit
open Go.ChangeMaps (open_string shut_string)
set_option linter.unusedVariables false

theorem first_k (s : List Nat) (k : Nat) : (pcL s k).flatten = s.take (256 * k) := cut_first s k
theorem join_snoc (s : List Nat) (k : Nat) : tx (s.take (256 * (k + 1))) = tx (s.take (256 * k)) ++ tx (pieceF s k) := by
  rw [← tx_app, ← first_k, ← first_k, pcL_snoc, List.flatten_append, List.flatten_singleton]
theorem cut_get (s : List Nat) {j : Nat} (h : j < pcs s) : (cutF s).getD j [] = pieceF s j := by
  rw [List.getD_eq_getElem?_getD, cut_at s h]; rfl
set_option maxHeartbeats 4000000 in
set_option maxRecDepth 100000 in
theorem walk (l : List (List Nat × List Nat)) (p : Option Addr) (cap : Nat) (hx : (∀ f ∈ l, Bys f.1 ∧ Bys f.2) ∧ (Value.slice p l.length cap = .slice none 0 0 ∨ ∃ ad n c, Value.slice p l.length cap = .slice (some ad) n c) ∧ l.length ≤ cap ∧ cap ≤ maxLen) (w : World) (hS : Sl w 2 (.slice p l.length cap) (rowsF l)) :
    Calls Try.prog 5 #[.slice p l.length cap] w fun e w' => e = .returned (.bool true) ∧ Below w.heap.size w w' := by
  have HSh := Lib.hid (fun w => l11_shown w)
  have HS := Lib.hid hS
  obtain ⟨b, hb⟩ : ∃ b, heavyF l = b := ⟨_, rfl⟩
  have HV := Lib.hid (f_heavy l p cap b w hb hS)
  have HY := Lib.hid hx.1
  clear hS hx
  cases b with
  | true =>
    clear hb
    go_enter Try.func5, Try.ntmps5
    go_wp2_with (first | (go_at_call 9; (with_reducible refine (HSh.out _).mono ?_); rintro e w1 ⟨rfl, hb1⟩) | (go_at_call 8; (with_reducible refine HV.out.mono ?_); rintro e w0 ⟨rfl, hb0⟩))
    go_ret
    exact ⟨rfl, hb0.trans (hb1.mono hb0.size)⟩
  | false =>
    obtain ⟨h30, hlight⟩ := heavy_no.1 hb
    clear hb
    have hd : ∀ f ∈ l, f.2.length ≤ 400 := fun f hf => ((lightF_iff f).1 (hlight f hf)).2
    have hd2 : ∀ f ∈ l, f.2.length ≤ 100000 := fun f hf => by have := hd f hf; omega
    have hsl := solid_len (l := l) hd
    have HNm := Lib.hid (fun (wx : World) (h : Below w.heap.size w wx) => f_Names l p cap wx (by omega) (HS.out.below h))
    have HSo := Lib.hid (fun (wx : World) (h : Below w.heap.size w wx) => f_Solid l p cap wx (by omega) hd2 (fun f hf => (HY.out f hf).2) (HS.out.below h))
    have hso : (solidF l).length ≤ 12000 := by have : 400 * l.length ≤ 400 * 30 := Nat.mul_le_mul_left _ h30; omega
    have hsb : Bys (solidF l) := solid_bys fun f hf => (HY.out f hf).2
    obtain ⟨n, hn⟩ : ∃ n, checkF l = n := ⟨_, rfl⟩
    have HC := Lib.hid (fun (wx : World) (h : Below w.heap.size w wx) => f_Check l p cap n wx hn (fun f hf => (HY.out f hf).1) (by omega) (HS.out.below h))
    have HPB := Lib.hid (partR_back l)
    have HNY : Hid (∀ x ∈ namesF l, Bys x) := Lib.hid fun x hx => by
      unfold namesF at hx
      obtain ⟨f, hf, rfl⟩ := List.mem_map.1 hx
      exact (HY.out f hf).1
    rw [hn] at HPB
    obtain ⟨s, hs⟩ : ∃ s, tx (solidF l) = s := ⟨_, rfl⟩
    have hss : sl s = solidF l := by rw [← hs, sl_tx hsb]
    have hsz : s.size ≤ 12000 := by rw [← hs, tx_size]; exact hso
    simp only [hs] at HSo
    rw [← hss] at HPB
    have HCu := Lib.hid (fun w => f_Cut s w (by omega))
    have hcl : (cutF (sl s)).length = pcs (sl s) := cut_len _
    have HCL := Lib.hid hcl
    have hpz : pcs (sl s) = (s.size + 255) / 256 := by unfold pcs; rw [sl_len]
    have HPZ := Lib.hid hpz
    have HSZ := Lib.hid hsz
    unfold NamesP at HNm
    unfold OwnRetR at HCu
    clear hd hd2 hlight hsl hso hsb hn hss hs hcl hpz hsz
    go_enter Try.func5, Try.ntmps5
    go_wp2_with (first | (go_at_call 9; (with_reducible refine (HSh.out _).mono ?_); rintro e w1 ⟨rfl, hb1⟩; have HB1 := Lib.hid (hb0.trans (hb1.mono hb0.size)); clear hb0 hb1) | (go_at_call 8; (with_reducible refine HV.out.mono ?_); rintro e w0 ⟨rfl, hb0⟩) | (go_at_call 10; refine (HNm.out _ HB1.out).mono ?_; rintro e w2 ⟨p2, q2, rfl, sn2, sz2, hb2⟩; have SN2 := Lib.hid sn2; have SZ2 := Lib.hid sz2; have HB2 := Lib.hid (HB1.out.trans (hb2.mono HB1.out.size)); clear sn2 sz2 hb2) | (go_at_call 14; refine (HSo.out _ HB2.out).mono ?_; rintro e w3 ⟨rfl, hb3⟩; have SN3 := Lib.hid (SN2.out.below hb3); have SZ3 := Lib.hid (SZ2.out.below hb3); have HB3 := Lib.hid (HB2.out.trans (hb3.mono HB2.out.size)); clear hb3) | (go_at_call 17; refine (HCu.out _).mono ?_; rintro e w4 ⟨v4, rfl, ho4, hb4⟩; have s4 := ho4.sl; obtain ⟨p4, c4, rfl⟩ := ho4.isSlice; have S4 := Lib.hid s4; have SN4 := Lib.hid (SN3.out.below hb4); have SZ4 := Lib.hid (SZ3.out.below hb4); have HB4 := Lib.hid (HB3.out.trans (hb4.mono HB3.out.size)); clear s4 ho4 hb4))
    rw [rowsS_len, HCL.out] at S4 ⊢
    clear HSh HV HNm HSo HCu SN2 SZ2 SN3 SZ3 HB1 HB2 HB3
    go_loopw [5, 7] (fun u i wr => ∃ k : Nat, k ≤ pcs (sl s) ∧ i = .int .i64 (k : Int) ∧ u = .string (tx ((sl s).take (256 * k))) ∧ Below w4.heap.size w4 wr) (fun _ i _ => pcs (sl s) - (intOf i).toNat)
    case atStart => exact ⟨0, by omega, rfl, rfl, Below.refl _ _⟩
    case round =>
      obtain ⟨k, hk, rfl, rfl, gb⟩ := hrel
      have hc : pcs (sl s) ≤ 4000 := by have := HPZ.out; have := HSZ.out; omega
      by_cases hlt : k < pcs (sl s)
      · have hS' : Sl wr 1 (.slice p4 (pcs (sl s)) c4) (rowsS (cutF (sl s))) := S4.out.below gb
        obtain ⟨a, rfl, c1⟩ := SlS.cell hS' (j := k) (by rw [HCL.out]; exact hlt)
        rw [cut_get _ hlt] at c1
        have d1 : (k : Int) < (pcs (sl s) : Int) := by omega
        have hp0 := piece_some (sl s) hlt
        have hjn := join_snoc (sl s) k
        have hpl := piece_len (sl s) k
        have hpf : k + 1 < pcs (sl s) → (pieceF (sl s) k).length = 256 := fun h => piece_full (sl s) h
        rw [← tx_size] at hp0 hpl hpf
        have htl : (tx ((sl s).take (256 * k))).size ≤ 12000 := by rw [tx_size, List.length_take, sl_len]; have := HSZ.out; omega
        have HJN := Lib.hid hjn
        clear hjn hS'
        generalize tx ((sl s).take (256 * k)) = U at *
        generalize tx (pieceF (sl s) k) = X at *
        have hxl : X.size ≤ 256 := by omega
        have hadd := fun w' => run_string_add_sum (P := Try.prog) w' U X (by omega)
        have e0 : ((X.size : Int) == 0) = false := by rw [beq_eq_false_iff_ne]; omega
        have e0' : (X.size : Int) ≠ 0 := by omega
        have e1 : ¬ (256 : Int) < (X.size : Int) := by omega
        generalize hQ : pcs (sl s) = Q at *
        by_cases hl : k + 1 < Q
        · have x1 := hpf hl
          have t1 : (k : Int) < (Q : Int) - 1 := by omega
          have x2 : (X.size : Int) = 256 := by omega
          clear hpl hp0 hpf htl
          go_wp2
          go_roundw
          case rel => exact ⟨k + 1, by omega, by go_num, by rw [HJN.out], gb⟩
          case measure => simp [intOf]; omega
        · have t1 : ¬ (k : Int) < (Q : Int) - 1 := by omega
          clear hpl hp0 hpf htl
          go_wp2
          go_roundw
          case rel => exact ⟨k + 1, by omega, by go_num, by rw [HJN.out], gb⟩
          case measure => simp [intOf]; omega
      · obtain rfl : k = pcs (sl s) := by omega
        have hall : tx ((sl s).take (256 * pcs (sl s))) = s := by
          rw [← first_k, pcL_all, cut_join, tx_sl]
        rw [hall]
        have HP := Lib.hid (f_Part (namesF l) (sizesF l) s p2 q2 l.length l.length wr (if n = 0 then (l, 0) else ([], n)) HPB.out (by rw [names_len]; omega) (by rw [sizes_len]; omega) HNY.out (by rw [names_len]; exact SN4.out.below gb) (by rw [sizes_len]; exact SZ4.out.below gb))
        rw [names_len, sizes_len] at HP
        have HB5 := Lib.hid (HB4.out.trans (gb.mono HB4.out.size))
        generalize pcs (sl s) = Q at *
        clear hall gb hlt hk SN4 SZ4 S4
        by_cases hn0 : n = 0
        · subst hn0
          rw [if_pos rfl] at HP
          unfold PartRet at HP
          dsimp only at HP
          go_wp2_with fail
          refine HP.out.mono ?_
          rintro e w6 ⟨p6, c6, rfl, s6, hb6⟩
          have S6 := Lib.hid s6
          have HB6 := Lib.hid (HB5.out.trans (hb6.mono HB5.out.size))
          clear s6 hb6
          go_wp2_with fail
          refine (HC.out _ HB6.out).mono ?_
          rintro e w7 ⟨rfl, hb7⟩
          have S7 := Lib.hid (S6.out.below hb7)
          have HB7 := Lib.hid (HB6.out.trans (hb7.mono HB6.out.size))
          clear hb7
          go_wp2_with fail
          refine (fr_Same l p6 p c6 cap w7 (by omega) S7.out (HS.out.below HB7.out)).mono ?_
          rintro e w8 ⟨rfl, hb8⟩
          have HB8 := Lib.hid (HB7.out.trans (hb8.mono HB7.out.size))
          clear hb8
          go_wp2
          go_ret
          exact ⟨rfl, HB8.out⟩
        · rw [if_neg hn0] at HP
          unfold PartRet at HP
          dsimp only at HP
          have g1 : ((n : Int) != 0) = true := by rw [bne_iff_ne]; omega
          have g1' : (n : Int) ≠ 0 := by omega
          go_wp2_with fail
          refine HP.out.mono ?_
          rintro e w6 ⟨p6, c6, rfl, s6, hb6⟩
          have HB6 := Lib.hid (HB5.out.trans (hb6.mono HB5.out.size))
          clear s6 hb6
          go_wp2_with fail
          refine (HC.out _ HB6.out).mono ?_
          rintro e w7 ⟨rfl, hb7⟩
          have HB7 := Lib.hid (HB6.out.trans (hb7.mono HB6.out.size))
          clear hb7
          go_wp2
          go_ret
          exact ⟨rfl, HB7.out⟩

set_option maxRecDepth 100000 in
theorem lifted (os : Os) (started : os.Started) (H : Type) (enc : TypeId × Value → H) :
    ReturnsInHanded {} Try.checked os 5 .any (Rows.filesBackSpec.pre6 enc Try.prog Try.f5 Rows.filesBackRow.domain false) (Rows.filesBackSpec.post enc Try.prog Try.f5 false true false false) := by
  refine returnsInHanded_of_change (C := Try.checked) own started (by kernel_rfl) Try.func5
    (ChangeSpec.witness6 (enc := enc) (C := Try.checked) false ⟨#[], #[.slice none 0 0], []⟩ 8 (by kernel_rfl) (by kernel_rfl) (by kernel_rfl) (by kernel_rfl)) ?_
  intro W base args ds gs before hval0 hW hcnd _
  have hval : ∀ (j : Nat) t v, Try.f5.params[j]? = some t → args[j]? = some v → Value.okWide Try.prog W .any base t v := hval0
  have hW' := hW
  obtain ⟨p, q, hA0, hV, rfl, hfz, hnd⟩ := hW
  have hA : DataW.TrodAll enc Try.prog W 0 (fun _ => true) true Try.f5.params.toList args.toList ds p := hA0
  rw [Try.params5] at hA hval
  obtain ⟨v0, vs0, d0, ds0, p0, q0, hargs, rfl, rfl, h0, r0⟩ := trodAll_cons hA
  obtain ⟨rfl, rfl, rfl⟩ := trodAll_nil r0
  obtain rfl : args = #[v0] := by cases args; simp_all
  obtain ⟨rfl, rfl⟩ := trodVars_none hV
  have k0 := h0
  have lt0 : ∀ x ∈ p0, x.block < W.heap.size := by obtain ⟨m, hm⟩ := k0; exact DataW.trod_lt m _ _ _ hm
  obtain ⟨a0, m0, c0, rfl⟩ := Go.WideShapes.okWide_slice Try.underlying22 (hval 0 22 v0 rfl rfl)
  obtain ⟨l0, rfl, S0, n0⟩ := open_files h0
  clear hA0 hval0
  simp only [List.append_nil] at hW'
  refine (walk l0 a0 c0 n0 W S0).mono fun e W' ⟨he, bel⟩ => ?_
  subst he
  exact ⟨_, rfl, _, _, _, [], _, [], hW', trodAll_mk1 (shut_bool Try.underlying4 _), (trodAll_cons_mk (Below.trod laidOut (by kernel_rfl) (of_decide_eq_true (by kernel_rfl)) k0 bel lt0) trodAll_mk0), rfl, bel.frame _, fun h => by cases h⟩

theorem over : Rows.filesBackRow.holds Try.pinned (OpenSpec.ofChange Rows.filesBackSpec) :=
  OpenClaim.holds_of_wide 5 Try.f5 rfl rfl rfl rfl rfl rfl rfl ⟨rfl, rfl, rfl, rfl, rfl⟩ rfl rfl rfl rfl rfl (by kernel_rfl) Try.func5 (by kernel_rfl)
    (of_decide_eq_true (by kernel_rfl)) (by unfold Func.isWrapper; first | (rw [if_pos (by decide +kernel)]; kernel_rfl) | (rw [if_neg (by decide +kernel)]; exact ⟨rfl, rfl⟩))
    (fun os started H enc _ => lifted os started H enc)

theorem proved : Rows.FilesBackSaid :=
  over
#print axioms proved
end Go.Proofs.Ytgjbnpghhelpoaa.filesBack
