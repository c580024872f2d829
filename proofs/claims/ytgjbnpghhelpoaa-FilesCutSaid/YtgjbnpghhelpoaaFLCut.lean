/-
  For every text: its pieces come to it, each of a block's size but the last one, and are as many as they must be. Longer texts than the bound are answered by the case shown alone. No condition.
-/
import Derived.Test.YtgjbnpghhelpoaaRows
import Derived.Test.YtgjbnpghhelpoaaFC
import Derived.ShutString
import Derived.ChangeOld
namespace Go.Proofs.Ytgjbnpghhelpoaa.filesCut
open Go.ChangeShapes Go.WideShapes Go.ChangeAt Go.RowKit
open Go.ChangeMaps (open_string shut_string)
set_option linter.unusedVariables false

theorem first_k (s : List Nat) (k : Nat) : (pcL s k).flatten = s.take (256 * k) := cut_first s k
theorem join_snoc (s : List Nat) (k : Nat) : tx (s.take (256 * (k + 1))) = tx (s.take (256 * k)) ++ tx (pieceF s k) := by
  rw [← tx_app, ← first_k, ← first_k, pcL_snoc, List.flatten_append, List.flatten_singleton]
theorem cut_get (s : List Nat) {j : Nat} (h : j < pcs s) : (cutF s).getD j [] = pieceF s j := by
  rw [List.getD_eq_getElem?_getD, cut_at s h]; rfl
set_option maxHeartbeats 2000000 in
set_option maxRecDepth 100000 in
theorem walk (s : ByteArray) (n0 : s.size ≤ maxLen) (w : World) :
    Calls Try.prog 7 #[.string s] w fun e w' => e = .returned (.bool true) ∧ Below w.heap.size w w' := by
  have HS := Lib.hid (fun w => l11_shown w)
  by_cases h1 : 3000 < s.size
  · have g1 : (3000 : Int) < (s.size : Int) := by omega
    go_enter Try.func7, Try.ntmps7
    go_wp2_with (go_at_call 9; (with_reducible refine (HS.out _).mono ?_); rintro e w1 ⟨rfl, hb1⟩)
    go_ret
    exact ⟨rfl, hb1⟩
  have g1 : ¬ (3000 : Int) < (s.size : Int) := by omega
  have HC := Lib.hid (fun w => f_Cut s w (by omega))
  have hz := sl_len s
  have hcl : (cutF (sl s)).length = pcs (sl s) := cut_len _
  have HCL := Lib.hid hcl
  have hpz : pcs (sl s) = (s.size + 255) / 256 := by unfold pcs; rw [hz]
  have HPZ := Lib.hid hpz
  clear hcl hpz
  go_enter Try.func7, Try.ntmps7
  go_wp2_with (first | (go_at_call 9; (with_reducible refine (HS.out _).mono ?_); rintro e w1 ⟨rfl, hb1⟩) | (go_at_call 17; (with_reducible refine (HC.out _).mono ?_); rintro e w2 ⟨v2, rfl, ho2, hb2⟩; have s2 := ho2.sl; obtain ⟨p2, c2, rfl⟩ := ho2.isSlice; have S2 := Lib.hid s2; clear s2 ho2))
  have hb0 := hb1.trans (hb2.mono hb1.size)
  have HB0 := Lib.hid hb0
  rw [rowsS_len, HCL.out] at S2 ⊢
  clear hb0 hb1 hb2 HS HC
  go_loopw [4, 5] (fun u i wr => ∃ k : Nat, k ≤ pcs (sl s) ∧ i = .int .i64 (k : Int) ∧ u = .string (tx ((sl s).take (256 * k))) ∧ Below w2.heap.size w2 wr) (fun _ i _ => pcs (sl s) - (intOf i).toNat)
  case atStart => exact ⟨0, by omega, rfl, rfl, Below.refl _ _⟩
  case round =>
    obtain ⟨k, hk, rfl, rfl, gb⟩ := hrel
    have hc : pcs (sl s) ≤ 4000 := by have := HPZ.out; omega
    by_cases hlt : k < pcs (sl s)
    · have hS' : Sl wr 1 (.slice p2 (pcs (sl s)) c2) (rowsS (cutF (sl s))) := S2.out.below gb
      obtain ⟨a, rfl, c1⟩ := SlS.cell hS' (j := k) (by rw [HCL.out]; exact hlt)
      rw [cut_get _ hlt] at c1
      have d1 : (k : Int) < (pcs (sl s) : Int) := by omega
      have hp0 := piece_some (sl s) hlt
      have hjn := join_snoc (sl s) k
      have hpl := piece_len (sl s) k
      have hpf : k + 1 < pcs (sl s) → (pieceF (sl s) k).length = 256 := fun h => piece_full (sl s) h
      rw [← tx_size] at hp0 hpl hpf
      have htl : (tx ((sl s).take (256 * k))).size ≤ 3000 := by rw [tx_size, List.length_take, hz]; omega
      have HJN := Lib.hid hjn
      clear hjn hS'
      generalize tx ((sl s).take (256 * k)) = U at *
      generalize tx (pieceF (sl s) k) = X at *
      have hxl : X.size ≤ 256 := by omega
      have hadd := fun w' => run_string_add_sum (P := Try.prog) w' U X (by omega)
      have e0 : ((X.size : Int) == 0) = false := by rw [beq_eq_false_iff_ne]; omega
      have e0' : (X.size : Int) ≠ 0 := by omega
      generalize hQ : pcs (sl s) = Q at *
      by_cases hl : k + 1 < Q
      · have x1 := hpf hl
        have t1 : (k : Int) < (Q : Int) - 1 := by omega
        have x2 : (X.size : Int) = 256 := by omega
        clear hpl hp0 hpf htl
        go_wp2
        go_roundw
        case rel => exact ⟨k + 1, by omega, by go_num, by rw [HJN.out], gb⟩
        case measure => simp [intOf]; omega
      · have t1 : ¬ (k : Int) < (Q : Int) - 1 := by omega
        clear hpl hp0 hpf htl
        go_wp2
        go_roundw
        case rel => exact ⟨k + 1, by omega, by go_num, by rw [HJN.out], gb⟩
        case measure => simp [intOf]; omega
    · obtain rfl : k = pcs (sl s) := by omega
      have hall : tx ((sl s).take (256 * pcs (sl s))) = s := by
        rw [← first_k, pcL_all, cut_join, tx_sl]
      have h2 : ((pcs (sl s) : Nat) : Int) = ((s.size : Int) + 255) / 256 := by have := HPZ.out; omega
      have t1 := txt_same s
      rw [hall]
      generalize pcs (sl s) = Q at *
      clear hall
      have GB := Lib.hid (HB0.out.trans (gb.mono HB0.out.size))
      clear gb hlt hk
      go_wp2
      go_ret
      exact ⟨rfl, GB.out⟩

set_option maxRecDepth 100000 in
theorem lifted (os : Os) (started : os.Started) (H : Type) (enc : TypeId × Value → H) :
    ReturnsInHanded {} Try.checked os 7 .any (Rows.filesCutSpec.pre6 enc Try.prog Try.f7 Rows.filesCutRow.domain false) (Rows.filesCutSpec.post enc Try.prog Try.f7 false true false false) := by
  refine returnsInHanded_of_change (C := Try.checked) own started (by kernel_rfl) Try.func7
    (ChangeSpec.witness6 (enc := enc) (C := Try.checked) false ⟨#[], #[.string ByteArray.empty], []⟩ 8 (by kernel_rfl) (by kernel_rfl) (by kernel_rfl) (by kernel_rfl)) ?_
  intro W base args ds gs before hval0 hW hcnd _
  have hval : ∀ (j : Nat) t v, Try.f7.params[j]? = some t → args[j]? = some v → Value.okWide Try.prog W .any base t v := hval0
  have hW' := hW
  obtain ⟨p, q, hA0, hV, rfl, hfz, hnd⟩ := hW
  have hA : DataW.TrodAll enc Try.prog W 0 (fun _ => true) true Try.f7.params.toList args.toList ds p := hA0
  rw [Try.params7] at hA hval
  obtain ⟨v0, vs0, d0, ds0, p0, q0, hargs, rfl, rfl, h0, r0⟩ := trodAll_cons hA
  obtain ⟨rfl, rfl, rfl⟩ := trodAll_nil r0
  obtain rfl : args = #[v0] := by cases args; simp_all
  obtain ⟨rfl, rfl⟩ := trodVars_none hV
  obtain ⟨l0, rfl, rfl, rfl, n0⟩ := open_string Try.underlying9 (hval 0 9 v0 rfl rfl) h0
  clear hA0 hval0
  simp only [List.append_nil] at hW'
  refine (walk l0 n0 W).mono fun e W' ⟨he, bel⟩ => ?_
  subst he
  exact ⟨_, rfl, _, _, _, [], _, [], hW', trodAll_mk1 (shut_bool Try.underlying4 _), (trodAll_cons_mk (shut_string Try.underlying9 n0) trodAll_mk0), rfl, bel.frame _, fun h => by cases h⟩

theorem over : Rows.filesCutRow.holds Try.pinned (OpenSpec.ofChange Rows.filesCutSpec) :=
  OpenClaim.holds_of_wide 7 Try.f7 rfl rfl rfl rfl rfl rfl rfl ⟨rfl, rfl, rfl, rfl, rfl⟩ rfl rfl rfl rfl rfl (by kernel_rfl) Try.func7 (by kernel_rfl)
    (of_decide_eq_true (by kernel_rfl)) (by unfold Func.isWrapper; first | (rw [if_pos (by decide +kernel)]; kernel_rfl) | (rw [if_neg (by decide +kernel)]; exact ⟨rfl, rfl⟩))
    (fun os started H enc _ => lifted os started H enc)

theorem proved : Rows.FilesCutSaid :=
  over
#print axioms proved
end Go.Proofs.Ytgjbnpghhelpoaa.filesCut
