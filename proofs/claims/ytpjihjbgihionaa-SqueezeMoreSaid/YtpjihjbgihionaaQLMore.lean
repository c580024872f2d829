/-
  For all texts, bytes and numbers: what was squeezed, with bytes behind, is refused. Longer texts than the bound are answered by the case shown alone. No condition.
-/
import Derived.Test.YtpjihjbgihionaaRows
import Derived.Test.YtpjihjbgihionaaQC
import Derived.ShutString
import Derived.ChangeOld
namespace Go.Proofs.Ytpjihjbgihionaa.squeezeMore
open Go.ChangeShapes Go.WideShapes Go.ChangeAt Go.RowKit
open Go.ChangeMaps (open_string shut_string)
set_option linter.unusedVariables false

set_option maxHeartbeats 4000000 in
set_option maxRecDepth 100000 in
theorem walk (s : ByteArray) (x y : Int) (hm : s.size ≤ maxLen) (hw : (Lit.int .u8 x).wf = true) (hv : (Lit.int .u8 y).wf = true) (w : World) :
    Calls Try.prog 8 #[.string s, .int .u8 x, .int .u8 y] w fun e w' => e = .returned (.bool true) ∧ Below w.heap.size w w' := by
  have HS := Lib.hid (fun w => l9_shown w)
  obtain ⟨c, rfl, hc⟩ := nat_u8 x hw
  obtain ⟨n, rfl, hn⟩ := nat_u8 y hv
  clear hw hv
  by_cases h1 : 1000 < s.size
  · have g1 : (1000 : Int) < (s.size : Int) := by omega
    go_enter Try.func8, Try.ntmps8
    go_wp2_with (go_at_call 9; (with_reducible refine (HS.out _).mono ?_); rintro e w1 ⟨rfl, hb1⟩)
    go_ret
    exact ⟨rfl, hb1⟩
  have g1 : ¬ (1000 : Int) < (s.size : Int) := by omega
  have i0 : (s.size : Int) ≤ 1000 := by omega
  have hzl := sqz_len (sl_bys s) (by rw [sl_len]; omega)
  have hA := fun w => q_Squeeze s w (by omega)
  obtain ⟨m, hm1, hm4⟩ : ∃ m : Nat, n % 4 = m ∧ m < 4 := ⟨_, rfl, Nat.mod_lt _ (by decide)⟩
  have e1 : (n : Int) % 4 = (m : Int) := by omega
  have e1t : (n : Int).tmod 4 = (m : Int) := by rw [Int.tmod_eq_emod_of_nonneg (by omega)]; exact e1
  have hX : ∀ (X : List Nat), X.length = m + 1 → Bys X → ∀ w, Calls Try.prog 12 #[.string (tx (sqzW (sl s)) ++ tx X), .int .i64 (s.size : Int)] w (fun e w' => e = .returned (.tuple #[.string ⟨#[]⟩, .int .i64 42]) ∧ Below w.heap.size w w') := fun X hXl hXb w =>
    q_Expand (tx (sqzW (sl s)) ++ tx X) (s.size : Int) w (by rw [ByteArray.size_append, tx_size, tx_size]; omega) (by omega) (by omega) [] 42 (by
      rw [sl_app, sl_tx (sqz_bys _), sl_tx hXb]
      have := sqz_more (x := X) (sl_bys s) (by rw [sl_len]; omega) (by omega)
      rw [sl_len] at this
      exact this)
  have hzs : (tx (sqzW (sl s))).size = (sqzW (sl s)).length := tx_size _
  rw [← hzs] at hzl
  generalize tx (sqzW (sl s)) = z at *
  have HA := Lib.hid hA
  have HX := Lib.hid hX
  have HM := Lib.hid hm1
  have e0 : IntKind.i64.wrap (n : Int) = (n : Int) := IntWalk.i64_in _ (by omega)
  have hB0 : Bys [] := Bys.of fun x hx => by cases hx
  clear hA hX hm1 hzs hn
  go_enter Try.func8, Try.ntmps8
  go_wp2_with (first | (go_at_call 9; (with_reducible refine (HS.out _).mono ?_); rintro e w1 ⟨rfl, hb1⟩) | (go_at_call 10; (with_reducible refine (HA.out _).mono ?_); rintro e w2 ⟨rfl, hb2⟩))
  have HB2 := Lib.hid (hb1.trans (hb2.mono hb1.size))
  clear hb1 hb2
  go_loopw [7, 9] (fun t i wr => ∃ (j : Nat) (X : List Nat) (tt : ByteArray), j ≤ m + 1 ∧ i = .int .i64 (j : Int) ∧ t = .string tt ∧ tt = z ++ tx X ∧ X.length = j ∧ Bys X ∧ Below w.heap.size w wr) (fun _ i _ => m + 1 - (intOf i).toNat)
  case atStart => exact ⟨0, [], z, by omega, rfl, rfl, by rw [show tx [] = ByteArray.empty from rfl, ByteArray.append_empty], rfl, hB0, HB2.out⟩
  case round =>
    obtain ⟨j, X, tt, hj, rfl, rfl, ht, hX, hXb, gb⟩ := hrel
    clear HB2
    by_cases hlt : j < m + 1
    · have d1 : (j : Int) < 1 + (m : Int) := by omega
      have k := Blk.new' wr 5 (c := #[.int .u8 (c : Int)]) (ints .u8 [(c : Int)]) rfl
      have hsz : tt.size ≤ 20010 := by rw [ht, ByteArray.size_append, tx_size]; omega
      have hadd : ∀ w, (Op.stringOp .add tt (bs [(c : Int)])).run Try.prog w = .ok (.string (tt ++ bs [(c : Int)])) w := fun w => run_string_add_sum _ _ _ (by rw [bs_size]; simp; omega)
      have hnew : tt ++ bs [(c : Int)] = z ++ tx (X ++ [c]) := by
        rw [tx_app, ← ByteArray.append_assoc, ← ht]
        rfl
      have hbn : Bys (X ++ [c]) := hXb.app (Bys.of fun x hx => by rw [List.mem_singleton.1 hx]; exact hc)
      have HR := Lib.hid k.whole
      have HNEW := Lib.hid hnew
      have HBN := Lib.hid hbn
      have GB := Lib.hid (gb.alloc gb.size (.cells #[.int .u8 (c : Int)] 5))
      have HXL := Lib.hid hX
      clear k hnew hbn gb ht hXb hX hsz
      go_wp2_with (refine wpList_bytes_string rfl 40 9 5 _ rfl wr.heap.size 1 1 [(c : Int)] rfl Try.underlying40 Try.underlying5 Try.underlying9 HR.out rfl ?_)
      go_roundw
      case rel => exact ⟨j + 1, X ++ [c], _, by omega, by go_num, rfl, HNEW.out, by rw [List.length_append, HXL.out]; rfl, HBN.out, GB.out⟩
      case measure => (simp [intOf]; try omega)
    · obtain rfl : j = m + 1 := by omega
      have d1 : ¬ ((m + 1 : Nat) : Int) < 1 + (m : Int) := by omega
      have hE := HX.out X hX hXb
      rw [← ht] at hE
      have HE := Lib.hid hE
      have GB := Lib.hid gb
      clear hE gb ht hX hXb
      go_wp2_with (go_at_call 12; (with_reducible refine (HE.out _).mono ?_); rintro e w3 ⟨rfl, hb3⟩)
      go_ret
      exact ⟨rfl, GB.out.trans (hb3.mono GB.out.size)⟩

set_option maxRecDepth 100000 in
theorem lifted (os : Os) (started : os.Started) (H : Type) (enc : TypeId × Value → H) :
    ReturnsInHanded {} Try.checked os 8 .any (Rows.squeezeMoreSpec.pre6 enc Try.prog Try.f8 Rows.squeezeMoreRow.domain false) (Rows.squeezeMoreSpec.post enc Try.prog Try.f8 false true false false) := by
  refine returnsInHanded_of_change (C := Try.checked) own started (by kernel_rfl) Try.func8
    (ChangeSpec.witness6 (enc := enc) (C := Try.checked) false ⟨#[], #[.string ByteArray.empty, .int .u8 0, .int .u8 0], []⟩ 8 (by kernel_rfl) (by kernel_rfl) (by kernel_rfl) (by kernel_rfl)) ?_
  intro W base args ds gs before hval0 hW hcnd _
  have hval : ∀ (j : Nat) t v, Try.f8.params[j]? = some t → args[j]? = some v → Value.okWide Try.prog W .any base t v := hval0
  have hW' := hW
  obtain ⟨p, q, hA0, hV, rfl, hfz, hnd⟩ := hW
  have hA : DataW.TrodAll enc Try.prog W 0 (fun _ => true) true Try.f8.params.toList args.toList ds p := hA0
  rw [Try.params8] at hA hval
  obtain ⟨v0, vs0, d0, ds0, p0, q0, hargs, rfl, rfl, h0, r0⟩ := trodAll_cons hA
  obtain ⟨v1, vs1, d1, ds1, p1, q1, rfl, rfl, rfl, h1, r1⟩ := trodAll_cons r0
  obtain ⟨v2, vs2, d2, ds2, p2, q2, rfl, rfl, rfl, h2, r2⟩ := trodAll_cons r1
  obtain ⟨rfl, rfl, rfl⟩ := trodAll_nil r2
  obtain rfl : args = #[v0, v1, v2] := by cases args; simp_all
  obtain ⟨rfl, rfl⟩ := trodVars_none hV
  obtain ⟨l0, rfl, rfl, rfl, n0⟩ := open_string Try.underlying9 (hval 0 9 v0 rfl rfl) h0
  obtain ⟨l1, rfl, rfl, rfl, n1⟩ := open_int Try.underlying5 (hval 1 5 v1 rfl rfl) h1
  obtain ⟨l2, rfl, rfl, rfl, n2⟩ := open_int Try.underlying5 (hval 2 5 v2 rfl rfl) h2
  clear hA0 hval0
  simp only [List.append_nil] at hW'
  refine (walk l0 l1 l2 n0 n1 n2 W).mono fun e W' ⟨he, bel⟩ => ?_
  subst he
  exact ⟨_, rfl, _, _, _, [], _, [], hW', trodAll_mk1 (shut_bool Try.underlying4 _), (trodAll_cons_mk (shut_string Try.underlying9 n0) (trodAll_cons_mk (shut_int Try.underlying5 n1) (trodAll_cons_mk (shut_int Try.underlying5 n2) trodAll_mk0))), rfl, bel.frame _, fun h => by cases h⟩

theorem over : Rows.squeezeMoreRow.holds Try.pinned (OpenSpec.ofChange Rows.squeezeMoreSpec) :=
  OpenClaim.holds_of_wide 8 Try.f8 rfl rfl rfl rfl rfl rfl rfl ⟨rfl, rfl, rfl, rfl, rfl⟩ rfl rfl rfl rfl rfl (by kernel_rfl) Try.func8 (by kernel_rfl)
    (of_decide_eq_true (by kernel_rfl)) (by unfold Func.isWrapper; first | (rw [if_pos (by decide +kernel)]; kernel_rfl) | (rw [if_neg (by decide +kernel)]; exact ⟨rfl, rfl⟩))
    (fun os started H enc _ => lifted os started H enc)

theorem proved : Rows.SqueezeMoreSaid :=
  over
#print axioms proved
end Go.Proofs.Ytpjihjbgihionaa.squeezeMore
