/-
  For all numbers and all texts behind: a number's text with a byte more than it need have is too long, and so are ten bytes of 255. Longer texts than the bound are answered by the case shown alone. No condition.
-/
import Derived.Test.YtkpabnpdpjcmdaaRows
import Derived.Test.YtkpabnpdpjcmdaaVShown
import Derived.Test.YtkpabnpdpjcmdaaOwnS
import Derived.Test.YtkpabnpdpjcmdaaQTail
import Derived.ShutString
import Derived.ChangeOld
namespace Go.Proofs.Ytkpabnpdpjcmdaa.varintLong
open Go.ChangeShapes Go.WideShapes Go.ChangeAt Go.RowKit
open Go.ChangeMaps (open_string shut_string)
set_option linter.unusedVariables false

def ff : ByteArray := ⟨#[255, 255, 255, 255, 255, 255, 255, 255, 255, 255]⟩
theorem sl_ff : sl ff = List.replicate 10 255 := by decide
set_option maxHeartbeats 1000000 in
set_option maxRecDepth 100000 in
theorem walk (x0 : Int) (s : ByteArray) (n0 : (Lit.int .u64 x0).wf = true) (n1 : s.size ≤ maxLen) (w : World) :
    Calls Try.prog 7 #[.int .u64 x0, .string s] w fun e w' => e = .returned (.bool true) ∧ Below w.heap.size w w' := by
  obtain ⟨n, rfl, hn⟩ := nat_u64 x0 n0
  have hS := fun w => l4_shown w
  have HS := Lib.hid hS
  clear hS n0
  by_cases h1 : 200 < s.size
  · have g1 : (200 : Int) < (s.size : Int) := by omega
    go_enter Try.func7, Try.ntmps7
    go_wp2_with (go_at_call 8; (with_reducible refine (HS.out _).mono ?_); rintro e w1 ⟨rfl, hb1⟩)
    go_ret
    exact ⟨rfl, hb1⟩
  · have g1 : ¬ (200 : Int) < (s.size : Int) := by omega
    obtain ⟨hi, x, hp, hh, hx, hl⟩ := put_shape hn
    have hP := fun w => v_Put n w hn
    have hpad := get_padded hn hi x hp hh hx hl (sl s)
    have hbi : Bys (hi ++ [x + 128] ++ [0]) := Bys.of fun y hy => by
      simp only [List.mem_append, List.mem_singleton] at hy
      rcases hy with (hy | hy) | hy
      · exact (hh y hy).2
      · omega
      · omega
    have hb1' : Bys (hi ++ [x + 128]) := by have := hbi.take (hi.length + 1); rwa [List.take_left' (by simp)] at this
    have hs2 : sl (tx (hi ++ [x + 128] ++ [0]) ++ s) = hi ++ [x + 128] ++ [0] ++ sl s := by rw [sl_app, sl_tx hbi]
    have hz1 : (tx (hi ++ [x + 128])).size = hi.length + 1 := by rw [tx_size]; simp
    have hz2 : (tx (hi ++ [x + 128] ++ [0])).size = hi.length + 2 := by rw [tx_size]; simp
    have hG1 := fun w => v_Get (tx (hi ++ [x + 128] ++ [0]) ++ s) w (by rw [ByteArray.size_append]; omega) 0 _ 41 _ (by rw [hs2]; exact hpad) rfl
    have hten : getL (sl (ff ++ s)) = (0, (sl (ff ++ s)).length, 41) := by
      rw [sl_app, sl_ff]
      refine get_ten _ (fun j hj => ?_) (by simp)
      rw [getD_app, if_pos (by simpa using hj), List.getD_eq_getElem?_getD, List.getElem?_replicate, if_pos hj]
      decide
    have hff : ff.size = 10 := by decide
    have hG2 := fun w => v_Get (ff ++ s) w (by rw [ByteArray.size_append]; omega) 0 _ 41 _ hten rfl
    have hadd1 : ∀ w, (Op.stringOp .add (tx (hi ++ [x + 128])) ⟨#[0]⟩).run Try.prog w = .ok (.string (tx (hi ++ [x + 128] ++ [0]))) w := fun w => by
      rw [run_string_add_sum _ _ _ (by rw [hz1]; show hi.length + 1 + 1 ≤ _; omega), tx_app (hi ++ [x + 128])]
      rfl
    have hadd2 : ∀ w, (Op.stringOp .add (tx (hi ++ [x + 128] ++ [0])) s).run Try.prog w = .ok (.string (tx (hi ++ [x + 128] ++ [0]) ++ s)) w := fun w => run_string_add_sum _ _ _ (by omega)
    have hadd3 : ∀ w, (Op.stringOp .add ff s).run Try.prog w = .ok (.string (ff ++ s)) w := fun w => run_string_add_sum _ _ _ (by omega)
    have hlen : (putL n).length = hi.length + 1 := by rw [hp]; simp
    have hset : (nn (putL n)).set hi.length ((x + 128 : Nat) : Int) = nn (hi ++ [x + 128]) := by rw [hp, nn_set]; congr 1; simp
    have hget : (nn (putL n)).getD hi.length 0 = (x : Int) := by rw [nn_getD, hp, getD_app, if_neg (by omega)]; simp
    have hisp : is (tx (putL n)) = nn (putL n) := by rw [is_sl, sl_tx (put_bys hn)]
    have hps := tx_size (putL n)
    rw [hlen] at hps
    have hbx : bs (nn (hi ++ [x + 128])) = tx (hi ++ [x + 128]) := rfl
    generalize tx (hi ++ [x + 128] ++ [0]) ++ s = t2 at *
    generalize tx (hi ++ [x + 128] ++ [0]) = t1 at *
    generalize tx (hi ++ [x + 128]) = t0 at *
    generalize ff ++ s = t3 at *
    have hadd3' : ∀ w, (Op.stringOp .add ⟨#[255, 255, 255, 255, 255, 255, 255, 255, 255, 255]⟩ s).run Try.prog w = .ok (.string t3) w := hadd3
    have HP := Lib.hid hP
    have HG1 := Lib.hid hG1
    have HG2 := Lib.hid hG2
    have HSET := Lib.hid hset
    have HGET := Lib.hid hget
    have HBX := Lib.hid hbx
    have hnl : (nn (putL n)).length = hi.length + 1 := by rw [nn_length, hlen]
    have HNL := Lib.hid hnl
    have HIS := Lib.hid hisp
    have hm : (tx (putL n)).size ≤ maxLen := by rw [hps]; simp [maxLen]; omega
    have HPS := Lib.hid hps
    clear hP hG1 hG2 hpad hbi hb1' hs2 hz1 hz2 hten hff hadd3 hlen hset hget hp hh hbx hnl hisp hps
    generalize tx (putL n) = t at *
    generalize putL n = p at *
    have i1 : (0 : Int) ≤ (hi.length : Int) := by omega
    have i2 : (hi.length : Int) < 10 := by omega
    have i3 : (x : Int) < 128 := by omega
    generalize hi.length = k at *
    go_enter Try.func7, Try.ntmps7
    go_wp2_with fail
    refine (HS.out _).mono ?_
    rintro e w1 ⟨rfl, hb1⟩
    go_wp2_with fail
    refine (HP.out _).mono ?_
    rintro e w2 ⟨rfl, hb2⟩
    have c2 := hb1.trans (hb2.mono hb1.size)
    have j2 : ((k : Int) + 1 - 1).toNat = k := by omega
    have hk1 : k < (nn p).length := by rw [HNL.out]; omega
    have Hk1 := Lib.hid hk1
    have HC2 := Lib.hid c2
    have HZ2 := Lib.hid hb2.size
    clear hk1 c2
    go_wp2_with (first | (refine wpList_bytes_at rfl 9 37 5 _ rfl w.heap.size t rfl Try.underlying9 Try.underlying37 Try.underlying5 HC2.out.size hm ?_; intro cap w3 how hb3; rw [HIS.out, HPS.out] at how; rw [HPS.out]; have co := how.cell Hk1.out; have cf := how.free Hk1.out; rw [HGET.out] at co; have hw3 := how.set Hk1.out (((x + 128 : Nat) : Int)); rw [HSET.out] at hw3; have HW3 := Lib.hid hw3; clear hw3 how) | (refine wpList_string_ownM rfl 37 9 5 _ rfl w.heap.size _ _ rfl Try.underlying37 Try.underlying5 Try.underlying9 HW3.out ?_; rw [HBX.out]) | (go_at_call 9; first | ((with_reducible refine (HG1.out _).mono ?_); rintro e w5 ⟨rfl, hb5⟩) | ((with_reducible refine (HG2.out _).mono ?_); rintro e w6 ⟨rfl, hb6⟩)))
    go_ret
    have c3 := HC2.out.trans (hb3.mono HC2.out.size)
    have c4 := c3.setCell (p := ⟨w2.heap.size, k, none⟩) HC2.out.size (.int .u8 ((x + 128 : Nat) : Int))
    have c5 := c4.trans (hb5.mono c4.size)
    exact ⟨rfl, c5.trans (hb6.mono c5.size)⟩

set_option maxRecDepth 100000 in
theorem lifted (os : Os) (started : os.Started) (H : Type) (enc : TypeId × Value → H) :
    ReturnsInHanded {} Try.checked os 7 .any (Rows.varintLongSpec.pre6 enc Try.prog Try.f7 Rows.varintLongRow.domain false) (Rows.varintLongSpec.post enc Try.prog Try.f7 false true false false) := by
  refine returnsInHanded_of_change (C := Try.checked) own started (by kernel_rfl) Try.func7
    (ChangeSpec.witness6 (enc := enc) (C := Try.checked) false ⟨#[], #[.int .u64 0, .string ByteArray.empty], []⟩ 8 (by kernel_rfl) (by kernel_rfl) (by kernel_rfl) (by kernel_rfl)) ?_
  intro W base args ds gs before hval0 hW hcnd _
  have hval : ∀ (j : Nat) t v, Try.f7.params[j]? = some t → args[j]? = some v → Value.okWide Try.prog W .any base t v := hval0
  have hW' := hW
  obtain ⟨p, q, hA0, hV, rfl, hfz, hnd⟩ := hW
  have hA : DataW.TrodAll enc Try.prog W 0 (fun _ => true) true Try.f7.params.toList args.toList ds p := hA0
  rw [Try.params7] at hA hval
  obtain ⟨v0, vs0, d0, ds0, p0, q0, hargs, rfl, rfl, h0, r0⟩ := trodAll_cons hA
  obtain ⟨v1, vs1, d1, ds1, p1, q1, rfl, rfl, rfl, h1, r1⟩ := trodAll_cons r0
  obtain ⟨rfl, rfl, rfl⟩ := trodAll_nil r1
  obtain rfl : args = #[v0, v1] := by cases args; simp_all
  obtain ⟨rfl, rfl⟩ := trodVars_none hV
  obtain ⟨l0, rfl, rfl, rfl, n0⟩ := open_int Try.underlying22 (hval 0 22 v0 rfl rfl) h0
  obtain ⟨l1, rfl, rfl, rfl, n1⟩ := open_string Try.underlying9 (hval 1 9 v1 rfl rfl) h1
  clear hA0 hval0
  simp only [List.append_nil] at hW'
  refine (walk l0 l1 n0 n1 W).mono fun e W' ⟨he, bel⟩ => ?_
  subst he
  exact ⟨_, rfl, _, _, _, [], _, [], hW', trodAll_mk1 (shut_bool Try.underlying4 _), (trodAll_cons_mk (shut_int Try.underlying22 n0) (trodAll_cons_mk (shut_string Try.underlying9 n1) trodAll_mk0)), rfl, bel.frame _, fun h => by cases h⟩

theorem over : Rows.varintLongRow.holds Try.pinned (OpenSpec.ofChange Rows.varintLongSpec) :=
  OpenClaim.holds_of_wide 7 Try.f7 rfl rfl rfl rfl rfl rfl rfl ⟨rfl, rfl, rfl, rfl, rfl⟩ rfl rfl rfl rfl rfl (by kernel_rfl) Try.func7 (by kernel_rfl)
    (of_decide_eq_true (by kernel_rfl)) (by unfold Func.isWrapper; first | (rw [if_pos (by decide +kernel)]; kernel_rfl) | (rw [if_neg (by decide +kernel)]; exact ⟨rfl, rfl⟩))
    (fun os started H enc _ => lifted os started H enc)

theorem proved : Rows.VarintLongSaid :=
  over
#print axioms proved
end Go.Proofs.Ytkpabnpdpjcmdaa.varintLong
