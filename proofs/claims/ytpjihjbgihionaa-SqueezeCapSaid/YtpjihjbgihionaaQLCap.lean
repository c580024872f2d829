/-
  For all numbers and bytes: a run of as many bytes is squeezed to fewer, or is told to be too long. No condition.
-/
import Derived.Test.YtpjihjbgihionaaRows
import Derived.Test.YtpjihjbgihionaaQC
import Derived.ChangeOld
namespace Go.Proofs.Ytpjihjbgihionaa.squeezeCap
open Go.ChangeShapes Go.WideShapes Go.ChangeAt Go.RowKit
set_option linter.unusedVariables false

theorem rows_rep (c j : Nat) : rowsBy (List.replicate (j + 1) c) = rowsBy (List.replicate j c) ++ [[.int .u8 (c : Int)]] := by
  rw [List.replicate_succ', rowsBy_app]
  rfl
theorem rep_bys {c : Nat} (hc : c < 256) (n : Nat) : Bys (List.replicate n c) := Bys.of fun x hx => by rw [(List.mem_replicate.1 hx).2]; exact hc
set_option maxHeartbeats 4000000 in
set_option maxRecDepth 100000 in
theorem walk (x y : Int) (hw : (Lit.int .u16 x).wf = true) (hv : (Lit.int .u8 y).wf = true) (w : World) :
    Calls Try.prog 6 #[.int .u16 x, .int .u8 y] w fun e w' => e = .returned (.bool true) ∧ Below w.heap.size w w' := by
  have HS := Lib.hid (fun w => l9_shown w)
  obtain ⟨n, rfl, hn⟩ := nat_u16 x hw
  obtain ⟨c, rfl, hc⟩ := nat_u8 y hv
  obtain ⟨i0, hi0, hz0, hz1, hz2⟩ := info_parts2 info_u8
  clear hw hv
  obtain ⟨m, hm1, hm4⟩ : ∃ m : Nat, n % 200 = m ∧ m < 200 := ⟨_, rfl, Nat.mod_lt _ (by decide)⟩
  have e1 : (n : Int) % 200 = (m : Int) := by omega
  have e1t : (n : Int).tmod 200 = (m : Int) := by rw [Int.tmod_eq_emod_of_nonneg (by omega)]; exact e1
  have e0 : IntKind.i64.wrap (n : Int) = (n : Int) := IntWalk.i64_in _ (by omega)
  clear hm1 hn
  have k0 := OwnR.empty w w.heap.size 5 1 (Nat.le_refl _)
  have kb := (Below.refl w.heap.size w).alloc (Nat.le_refl _) (.cells #[] 5)
  have K0 := Lib.hid k0
  have KB := Lib.hid kb
  clear k0 kb
  go_enter Try.func6, Try.ntmps6
  go_wp2_with fail
  go_loopw [5, 6] (fun l i wr => ∃ (j : Nat) (lv : Value), lv = l ∧ i = .int .i64 (j : Int) ∧ j ≤ 4000 + m ∧ OwnR wr w.heap.size 5 1 lv (rowsBy (List.replicate j c)) ∧ Below w.heap.size w wr) (fun _ i _ => 4000 + m - (intOf i).toNat)
  case atStart => exact ⟨0, _, rfl, rfl, by omega, K0.out, KB.out⟩
  case round =>
    obtain ⟨j, lv, rfl, rfl, hj, gO, gb⟩ := hrel
    clear K0 KB
    by_cases hlt : j < 4000 + m
    · have d1 : (j : Int) < 4000 + (m : Int) := by omega
      have k6 := Blk.new' wr 5 (c := #[.int .u8 (c : Int)]) [.int .u8 (c : Int)] rfl
      have hb6 := (Below.refl wr.heap.size wr).alloc (Nat.le_refl _) (.cells #[.int .u8 (c : Int)] 5)
      have hlo := gO.lt
      have hO6 := gO.keep hb6
      have hB6 := gb.trans (hb6.mono gb.size)
      have hnews := sl_one k6
      have hone : ∀ r ∈ [[Value.int .u8 (c : Int)]], ∀ u ∈ r, u.oneCell' = true := by simp [Value.oneCell']
      have hlen : (rowsBy (List.replicate j c)).length + [[Value.int .u8 (c : Int)]].length ≤ maxLen := by rw [rowsBy_len, List.length_replicate, List.length_singleton]; unfold maxLen; omega
      have hby : ((rowsBy (List.replicate j c)).length + [[Value.int .u8 (c : Int)]].length) * 1 ≤ 140737488355328 := by rw [rowsBy_len, List.length_replicate, List.length_singleton]; omega
      have hrr := rows_rep c j
      have HO := Lib.hid hO6
      have HB6 := Lib.hid hB6
      have HNW := Lib.hid hnews
      have HLO := Lib.hid hlo
      have HONE := Lib.hid hone
      have HLEN := Lib.hid hlen
      have HBY := Lib.hid hby
      have HBA := Lib.hid hB6.size
      have HRR := Lib.hid hrr
      clear gO gb k6 hb6 hlo hO6 hB6 hnews hone hlen hby hrr
      go_wp2_with (first | (refine wpList_append_rows rfl _ _ 40 rfl w.heap.size 5 i0 (.int .u8 0) 1 1 Try.underlying40 hi0 hz0 hz1 hz2 rfl (by decide) _ (rowsBy (List.replicate j c)) rfl HO.out (.slice (some ⟨wr.heap.size, 0, none⟩) 1 1) [[.int .u8 (c : Int)]] rfl HNW.out HONE.out HLEN.out HBY.out HBA.out (.inr ⟨_, _, _, rfl⟩) ?_; intro v7 w7 ho7 hg7 hv7))
      go_roundw
      case rel => exact ⟨j + 1, v7, rfl, by go_num, by omega, by rw [HRR.out]; exact ho7, HB6.out.grown hg7 HBA.out (fun k e => (HLO.out k e).1)⟩
      case measure => (simp [intOf]; try omega)
    · obtain rfl : j = 4000 + m := by omega
      have d1 : ¬ ((4000 + m : Nat) : Int) < 4000 + (m : Int) := by omega
      obtain ⟨L, hL⟩ : ∃ L, List.replicate (4000 + m) c = L := ⟨_, rfl⟩
      have hLl : L.length = 4000 + m := by rw [← hL, List.length_replicate]
      have hLb : Bys L := by rw [← hL]; exact rep_bys hc _
      have hsh : L.length ≤ 4096 → (sqzW L).length < L.length := fun h => by
        have := run_short (c := c) (n := 4000 + m) hc (by omega) (by omega)
        rw [hL] at this
        rw [hLl]
        unfold sqzW
        rw [hLl]
        exact this
      rw [hL] at gO
      have HOW := Lib.hid (own_bytes gO)
      obtain ⟨pa, ca, hv⟩ := gO.isSlice
      obtain ⟨N, hN⟩ : ∃ N, 4000 + m = N := ⟨_, rfl⟩
      rw [rowsBy_len, hLl, hN] at hv
      rw [hN] at hLl d1 ⊢
      subst hv
      have GB := Lib.hid gb
      clear gO gb hL
      by_cases h4 : 4096 < N
      · have hA := fun w => q_Squeeze_cap (tx L) w (by rw [tx_size, hLl]; exact h4) (by rw [tx_size, hLl]; unfold maxLen; omega)
        have HA := Lib.hid hA
        have g4 : (4096 : Int) < (N : Int) := by omega
        clear hA hsh hLb hLl
        generalize hn : nn L = l at *
        have htl : bs l = tx L := by rw [← hn]; rfl
        have HTL := Lib.hid htl
        clear hn htl
        go_wp2_with (first | (refine wpList_string_own rfl 40 9 5 _ rfl w.heap.size _ l rfl Try.underlying40 Try.underlying5 Try.underlying9 HOW.out ?_; rw [HTL.out]) | (go_at_call 10; (with_reducible refine (HA.out _).mono ?_); rintro e w3 ⟨rfl, hb3⟩) | (go_at_call 9; (with_reducible refine (HS.out _).mono ?_); rintro e w4 ⟨rfl, hb4⟩))
        go_ret
        have a3 := GB.out.trans (hb3.mono GB.out.size)
        exact ⟨rfl, a3.trans (hb4.mono a3.size)⟩
      · have hA := fun w => q_Squeeze (tx L) w (by rw [tx_size, hLl]; omega)
        have hzs : (tx (sqzW (sl (tx L)))).size < N := by rw [tx_size, sl_tx hLb]; have := hsh (by omega); omega
        generalize tx (sqzW (sl (tx L))) = z at *
        have HA := Lib.hid hA
        have g4 : ¬ (4096 : Int) < (N : Int) := by omega
        have g5 : (z.size : Int) < (N : Int) := by omega
        clear hA hsh hLb hLl
        generalize hn : nn L = l at *
        have htl : bs l = tx L := by rw [← hn]; rfl
        have HTL := Lib.hid htl
        clear hn htl
        go_wp2_with (first | (refine wpList_string_own rfl 40 9 5 _ rfl w.heap.size _ l rfl Try.underlying40 Try.underlying5 Try.underlying9 HOW.out ?_; rw [HTL.out]) | (go_at_call 10; (with_reducible refine (HA.out _).mono ?_); rintro e w3 ⟨rfl, hb3⟩) | (go_at_call 9; (with_reducible refine (HS.out _).mono ?_); rintro e w4 ⟨rfl, hb4⟩))
        go_ret
        have a3 := GB.out.trans (hb3.mono GB.out.size)
        exact ⟨rfl, a3.trans (hb4.mono a3.size)⟩

set_option maxRecDepth 100000 in
theorem lifted (os : Os) (started : os.Started) (H : Type) (enc : TypeId × Value → H) :
    ReturnsInHanded {} Try.checked os 6 .any (Rows.squeezeCapSpec.pre6 enc Try.prog Try.f6 Rows.squeezeCapRow.domain false) (Rows.squeezeCapSpec.post enc Try.prog Try.f6 false true false false) := by
  refine returnsInHanded_of_change (C := Try.checked) own started (by kernel_rfl) Try.func6
    (ChangeSpec.witness6 (enc := enc) (C := Try.checked) false ⟨#[], #[.int .u16 0, .int .u8 0], []⟩ 8 (by kernel_rfl) (by kernel_rfl) (by kernel_rfl) (by kernel_rfl)) ?_
  intro W base args ds gs before hval0 hW hcnd _
  have hval : ∀ (j : Nat) t v, Try.f6.params[j]? = some t → args[j]? = some v → Value.okWide Try.prog W .any base t v := hval0
  have hW' := hW
  obtain ⟨p, q, hA0, hV, rfl, hfz, hnd⟩ := hW
  have hA : DataW.TrodAll enc Try.prog W 0 (fun _ => true) true Try.f6.params.toList args.toList ds p := hA0
  rw [Try.params6] at hA hval
  obtain ⟨v0, vs0, d0, ds0, p0, q0, hargs, rfl, rfl, h0, r0⟩ := trodAll_cons hA
  obtain ⟨v1, vs1, d1, ds1, p1, q1, rfl, rfl, rfl, h1, r1⟩ := trodAll_cons r0
  obtain ⟨rfl, rfl, rfl⟩ := trodAll_nil r1
  obtain rfl : args = #[v0, v1] := by cases args; simp_all
  obtain ⟨rfl, rfl⟩ := trodVars_none hV
  obtain ⟨l0, rfl, rfl, rfl, n0⟩ := open_int Try.underlying27 (hval 0 27 v0 rfl rfl) h0
  obtain ⟨l1, rfl, rfl, rfl, n1⟩ := open_int Try.underlying5 (hval 1 5 v1 rfl rfl) h1
  clear hA0 hval0
  simp only [List.append_nil] at hW'
  refine (walk l0 l1 n0 n1 W).mono fun e W' ⟨he, bel⟩ => ?_
  subst he
  exact ⟨_, rfl, _, _, _, [], _, [], hW', trodAll_mk1 (shut_bool Try.underlying4 _), (trodAll_cons_mk (shut_int Try.underlying27 n0) (trodAll_cons_mk (shut_int Try.underlying5 n1) trodAll_mk0)), rfl, bel.frame _, fun h => by cases h⟩

theorem over : Rows.squeezeCapRow.holds Try.pinned (OpenSpec.ofChange Rows.squeezeCapSpec) :=
  OpenClaim.holds_of_wide 6 Try.f6 rfl rfl rfl rfl rfl rfl rfl ⟨rfl, rfl, rfl, rfl, rfl⟩ rfl rfl rfl rfl rfl (by kernel_rfl) Try.func6 (by kernel_rfl)
    (of_decide_eq_true (by kernel_rfl)) (by unfold Func.isWrapper; first | (rw [if_pos (by decide +kernel)]; kernel_rfl) | (rw [if_neg (by decide +kernel)]; exact ⟨rfl, rfl⟩))
    (fun os started H enc _ => lifted os started H enc)

theorem proved : Rows.SqueezeCapSaid :=
  over
#print axioms proved
end Go.Proofs.Ytpjihjbgihionaa.squeezeCap
