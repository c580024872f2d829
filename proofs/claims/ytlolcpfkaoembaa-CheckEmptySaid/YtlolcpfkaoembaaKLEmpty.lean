/-
  For all numbers: bytes 0, as many as the number modulo 1100, are no frame; they are framed if they are 1024 at most, to six bytes more, and to nothing else. No condition.
-/
import Derived.Test.YtlolcpfkaoembaaRows
import Derived.Test.YtlolcpfkaoembaaKB
import Derived.Test.YtlolcpfkaoembaaKA
import Derived.Test.YtlolcpfkaoembaaG1
import Derived.Maps.AppendAt
import Derived.ShutString
import Derived.ChangeOld
namespace Go.Proofs.Ytlolcpfkaoembaa.checkEmpty
open Go.ChangeShapes Go.WideShapes Go.ChangeAt Go.RowKit
open Go.ChangeMaps (open_string shut_string)
set_option linter.unusedVariables false

theorem nat_u16 (x : Int) (h : (Lit.int .u16 x).wf = true) : ∃ n : Nat, x = (n : Int) ∧ n < 65536 := by
  have := bounds_u16 h
  exact ⟨x.toNat, by omega, by omega⟩
theorem zer_bys (n : Nat) : Bys (zerN n) := Bys.of fun x hx => by
  unfold zerN at hx
  rw [List.eq_of_mem_replicate hx]
  decide
set_option maxHeartbeats 4000000 in
set_option maxRecDepth 100000 in
theorem walk_of (n m er fe : Nat) (F : ByteArray) (hm : n % 1100 = m) (hn : n < 65536)
    (hG : ∀ w : World, Calls Try.prog 12 #[.string (tx (zerN m))] w fun e w' => e = .returned (.tuple #[.string ⟨#[]⟩, .string ⟨#[]⟩, .int .i64 (er : Int)]) ∧ Below w.heap.size w w')
    (hF : ∀ w : World, Calls Try.prog 10 #[.string (tx (zerN m))] w fun e w' => e = .returned (.tuple #[.string F, .int .i64 (fe : Int)]) ∧ Below w.heap.size w w')
    (hce : (m = 0 ∧ er = 3) ∨ (0 < m ∧ m < 6 ∧ er = 40) ∨ (6 ≤ m ∧ er = 100)) (hcf : (m ≤ 1024 ∧ fe = 0 ∧ F.size = m + 6) ∨ (1024 < m ∧ fe = 90 ∧ F = ⟨#[]⟩)) (w : World) :
    Calls Try.prog 7 #[.int .u16 (n : Int)] w fun e w' => e = .returned (.bool true) ∧ Below w.heap.size w w' := by
  have HS := Lib.hid (fun w => k_shown w)
  have hm1 : m < 1100 := by rw [← hm]; exact Nat.mod_lt _ (by decide)
  have e1 : (n : Int) % 1100 = (m : Int) := by rw [← hm]; simp
  have e2 : (n : Int).tmod 1100 = (m : Int) := by rw [Int.tmod_eq_emod_of_nonneg (by omega)]; exact e1
  obtain ⟨i0, hi0, hz0, hz1, hz2⟩ := info_parts info_u8
  have HG := Lib.hid hG
  have HF := Lib.hid hF
  have HCE := Lib.hid hce
  have HCF := Lib.hid hcf
  clear hm hG hF hce hcf
  have qe := Blk.new' w 5 (c := #[]) (ints .u8 (nn [] ++ [])) rfl
  have qo := OwnB.ofBlk (base := w.heap.size) (cap := 0) [] qe (Nat.le_refl _) rfl (Nat.zero_le _)
  have qb := (Below.refl w.heap.size w).alloc (Nat.le_refl _) (.cells #[] 5)
  clear qe
  go_enter Try.func7, Try.ntmps7
  go_wp2
  generalize World.alloc w (.cells #[] 5) = w3 at *
  go_loopw [3, 4] (fun v i wr => ∃ (j : Nat) (p : Option Addr) (cap : Nat), i = .int .i64 (j : Int) ∧ v = .slice p j cap ∧ OwnB wr w.heap.size 5 (.slice p j cap) (nn (zerN j)) ∧ j ≤ m ∧ Below w.heap.size w wr) (fun _ i _ => m - (intOf i).toNat)
  case atStart => exact ⟨0, _, 0, rfl, rfl, qo, by omega, qb⟩
  case round =>
    obtain ⟨j, p, cap, rfl, rfl, go, hj, gb⟩ := hrel
    clear qo qb
    by_cases hlt : j < m
    · have d1 : (j : Int) < (m : Int) := by omega
      have hsn : zerN (j + 1) = zerN j ++ [0] := by unfold zerN; rw [List.replicate_succ']
      have hll : (nn (zerN j)).length = j := by rw [nn_length, zerN_len]
      have hrow : (wr.alloc (.cells #[.int .u8 0] 5)).ownsRow w.heap.size 5 1 (.slice p j cap) j (ints .u8 (nn (zerN j))) := by
        have := go.alloc (.cells #[.int .u8 0] 5)
        unfold OwnB at this
        rw [hll] at this
        exact this
      have hnew : ∀ jj u, [Value.int .u8 0][jj]? = some u → (wr.alloc (.cells #[.int .u8 0] 5)).cell? ((⟨wr.heap.size, 0, none⟩ : Addr).add jj) = some u := fun jj u h => by
        rw [Addr.add_mid]
        exact (Blk.new' wr 5 [Value.int .u8 0] rfl).whole jj u h
      have hone : ∀ u ∈ [Value.int .u8 0], u.oneCell' = true := by simp [Value.oneCell']
      have h63 : j + 1 ≤ maxLen := by simp [maxLen]; omega
      have hbyy : (j + 1) * 1 ≤ 140737488355328 := by omega
      have hbs := gb.size
      have hbase : w.heap.size ≤ (wr.alloc (.cells #[.int .u8 0] 5)).heap.size := by simp; omega
      have hgl := fun i hi => (go.lt i hi).1
      have kw := gb.alloc hbs (.cells #[.int .u8 0] 5)
      have HRow := Lib.hid hrow
      have HNew := Lib.hid hnew
      have HOne := Lib.hid hone
      have H63 := Lib.hid h63
      have HBY := Lib.hid hbyy
      have HBS := Lib.hid hbase
      have HLL := Lib.hid hll
      have HSN := Lib.hid hsn
      have Hgl := Lib.hid hgl
      clear hrow hnew hone h63 hbyy hbase hll gb hgl hsn
      generalize zerN j = LJ at *
      go_wp2_with (at_builtin; refine wpList_append_own_at _ rfl _ _ 38 rfl w.heap.size 5 i0 (.int .u8 0) 1 1 Try.underlying38 hi0 hz0 hz1 hz2 rfl (by decide) _ j _ rfl HRow.out ⟨wr.heap.size, 0, none⟩ 1 1 [.int .u8 0] rfl rfl HNew.out HOne.out H63.out HBY.out HBS.out ?_; intro v5 w5 hown5 hg5 hnil5 hat5; obtain ⟨p5, cap5, rfl⟩ := own_slice hown5)
      go_roundw
      case rel =>
        have o5 : OwnB w5 w.heap.size 5 (.slice p5 (j + 1) cap5) (nn (zerN (j + 1))) := by
          rw [HSN.out]
          unfold OwnB
          rw [show nn (LJ ++ [0]) = nn LJ ++ [(0 : Int)] by simp [nn], List.length_append, HLL.out, ints_app]
          exact hown5
        exact ⟨j + 1, p5, cap5, by go_num, rfl, o5, by omega, kw.grown hg5 kw.size (fun i hi => Hgl.out i hi)⟩
      case measure => simp [intOf]; omega
    · obtain rfl : j = m := by omega
      have HOW := Lib.hid go
      have HTL : Hid (bs (nn (zerN j)) = tx (zerN j)) := Lib.hid rfl
      have GB := Lib.hid gb
      clear go gb hlt hj
      generalize nn (zerN j) = L at *
      generalize tx (zerN j) = t at *
      rcases HCE.out with ⟨q1, rfl⟩ | ⟨q0, q1, rfl⟩ | ⟨q1, rfl⟩
      · obtain ⟨f1, rfl, f2⟩ : j ≤ 1024 ∧ fe = 0 ∧ F.size = j + 6 := by
          rcases HCF.out with h | ⟨h, _⟩
          · exact h
          · omega
        have d4 : (j : Int) < 6 := by omega
        have d5 : ((j : Int) == 0) = true := by rw [beq_iff_eq]; omega
        have d2 : (j : Int) ≤ 1024 := by omega
        have d3 : ((F.size : Int) == (j : Int) + 6) = true := by rw [beq_iff_eq]; omega
        clear f2 q1
        go_wp2_with (first | (refine wpList_string_own rfl 38 9 5 _ rfl w.heap.size _ L rfl Try.underlying38 Try.underlying5 Try.underlying9 HOW.out ?_; rw [HTL.out]) | (refine wpList_string_own rfl 38 9 5 _ rfl w.heap.size _ L rfl Try.underlying38 Try.underlying5 Try.underlying9 HOW1.out ?_; rw [HTL.out]) | (go_at_call 12; (with_reducible refine (HG.out _).mono ?_); rintro e w1 ⟨rfl, hb1⟩; have HOW1 := Lib.hid (HOW.out.below hb1 (fun k hk => (HOW.out.lt k hk).2))) | (go_at_call 10; (with_reducible refine (HF.out _).mono ?_); rintro e w2 ⟨rfl, hb2⟩) | (go_at_call 9; (with_reducible refine (HS.out _).mono ?_); rintro e w4 ⟨rfl, hb4⟩))
        go_ret
        have a1 := GB.out.trans (hb1.mono GB.out.size)
        have a2 := a1.trans (hb2.mono a1.size)
        exact ⟨rfl, a2.trans (hb4.mono a2.size)⟩
      · obtain ⟨f1, rfl, f2⟩ : j ≤ 1024 ∧ fe = 0 ∧ F.size = j + 6 := by
          rcases HCF.out with h | ⟨h, _⟩
          · exact h
          · omega
        have d4 : (j : Int) < 6 := by omega
        have d5 : ((j : Int) == 0) = false := by rw [beq_eq_false_iff_ne]; omega
        have d2 : (j : Int) ≤ 1024 := by omega
        have d3 : ((F.size : Int) == (j : Int) + 6) = true := by rw [beq_iff_eq]; omega
        clear f2
        go_wp2_with (first | (refine wpList_string_own rfl 38 9 5 _ rfl w.heap.size _ L rfl Try.underlying38 Try.underlying5 Try.underlying9 HOW.out ?_; rw [HTL.out]) | (refine wpList_string_own rfl 38 9 5 _ rfl w.heap.size _ L rfl Try.underlying38 Try.underlying5 Try.underlying9 HOW1.out ?_; rw [HTL.out]) | (go_at_call 12; (with_reducible refine (HG.out _).mono ?_); rintro e w1 ⟨rfl, hb1⟩; have HOW1 := Lib.hid (HOW.out.below hb1 (fun k hk => (HOW.out.lt k hk).2))) | (go_at_call 10; (with_reducible refine (HF.out _).mono ?_); rintro e w2 ⟨rfl, hb2⟩) | (go_at_call 9; (with_reducible refine (HS.out _).mono ?_); rintro e w4 ⟨rfl, hb4⟩))
        go_ret
        have a1 := GB.out.trans (hb1.mono GB.out.size)
        have a2 := a1.trans (hb2.mono a1.size)
        exact ⟨rfl, a2.trans (hb4.mono a2.size)⟩
      · have d4 : ¬ (j : Int) < 6 := by omega
        have d5 : ((j : Int) == 0) = false := by rw [beq_eq_false_iff_ne]; omega
        rcases HCF.out with ⟨f1, rfl, f2⟩ | ⟨f1, rfl, rfl⟩
        · have d2 : (j : Int) ≤ 1024 := by omega
          have d3 : ((F.size : Int) == (j : Int) + 6) = true := by rw [beq_iff_eq]; omega
          clear f2
          go_wp2_with (first | (refine wpList_string_own rfl 38 9 5 _ rfl w.heap.size _ L rfl Try.underlying38 Try.underlying5 Try.underlying9 HOW.out ?_; rw [HTL.out]) | (refine wpList_string_own rfl 38 9 5 _ rfl w.heap.size _ L rfl Try.underlying38 Try.underlying5 Try.underlying9 HOW1.out ?_; rw [HTL.out]) | (go_at_call 12; (with_reducible refine (HG.out _).mono ?_); rintro e w1 ⟨rfl, hb1⟩; have HOW1 := Lib.hid (HOW.out.below hb1 (fun k hk => (HOW.out.lt k hk).2))) | (go_at_call 10; (with_reducible refine (HF.out _).mono ?_); rintro e w2 ⟨rfl, hb2⟩) | (go_at_call 9; (with_reducible refine (HS.out _).mono ?_); rintro e w4 ⟨rfl, hb4⟩))
          go_ret
          have a1 := GB.out.trans (hb1.mono GB.out.size)
          have a2 := a1.trans (hb2.mono a1.size)
          exact ⟨rfl, a2.trans (hb4.mono a2.size)⟩
        · have d2 : decide ((j : Int) ≤ 1024) = false := by rw [decide_eq_false_iff_not]; omega
          go_wp2_with (first | (refine wpList_string_own rfl 38 9 5 _ rfl w.heap.size _ L rfl Try.underlying38 Try.underlying5 Try.underlying9 HOW.out ?_; rw [HTL.out]) | (refine wpList_string_own rfl 38 9 5 _ rfl w.heap.size _ L rfl Try.underlying38 Try.underlying5 Try.underlying9 HOW1.out ?_; rw [HTL.out]) | (go_at_call 12; (with_reducible refine (HG.out _).mono ?_); rintro e w1 ⟨rfl, hb1⟩; have HOW1 := Lib.hid (HOW.out.below hb1 (fun k hk => (HOW.out.lt k hk).2))) | (go_at_call 10; (with_reducible refine (HF.out _).mono ?_); rintro e w2 ⟨rfl, hb2⟩) | (go_at_call 9; (with_reducible refine (HS.out _).mono ?_); rintro e w4 ⟨rfl, hb4⟩))
          go_ret
          have a1 := GB.out.trans (hb1.mono GB.out.size)
          have a2 := a1.trans (hb2.mono a1.size)
          exact ⟨rfl, a2.trans (hb4.mono a2.size)⟩
theorem walk (x : Int) (n0 : (Lit.int .u16 x).wf = true) (w : World) :
    Calls Try.prog 7 #[.int .u16 x] w fun e w' => e = .returned (.bool true) ∧ Below w.heap.size w w' := by
  obtain ⟨n, rfl, hn⟩ := nat_u16 x n0
  obtain ⟨m, hm⟩ : ∃ m, n % 1100 = m := ⟨_, rfl⟩
  have hm1 : m < 1100 := by rw [← hm]; exact Nat.mod_lt _ (by decide)
  have hz := sl_tx (zer_bys m)
  have htz : (tx (zerN m)).size = m := by rw [tx_size, zerN_len]
  have hf := first_zeros m
  obtain ⟨er, her, hce⟩ : ∃ er, firstK (zerN m) = ([], [], er) ∧ ((m = 0 ∧ er = 3) ∨ (0 < m ∧ m < 6 ∧ er = 40) ∨ (6 ≤ m ∧ er = 100)) := by
    refine ⟨_, hf, ?_⟩
    by_cases h0 : m = 0
    · exact .inl ⟨h0, by rw [if_pos h0]⟩
    · by_cases h6 : m < 6
      · exact .inr (.inl ⟨by omega, h6, by rw [if_neg h0, if_pos h6]⟩)
      · exact .inr (.inr ⟨by omega, by rw [if_neg h0, if_neg h6]⟩)
  have hG : ∀ w : World, Calls Try.prog 12 #[.string (tx (zerN m))] w fun e w' => e = .returned (.tuple #[.string ⟨#[]⟩, .string ⟨#[]⟩, .int .i64 (er : Int)]) ∧ Below w.heap.size w w' := fun w => by
    have := k_First (tx (zerN m)) w (by omega)
    unfold FirstRet at this
    rw [hz, her] at this
    exact this
  by_cases hc : m ≤ 1024
  · refine walk_of n m er 0 (tx (frameK (zerN m))) hm hn hG (fun w => k_Frame _ w (by omega) _ (by rw [hz])) hce (.inl ⟨hc, rfl, by rw [tx_size, frame_len, zerN_len]; omega⟩) w
  · refine walk_of n m er 90 ⟨#[]⟩ hm hn hG (fun w => (k_Frame_no _ w (by omega)).mono fun e w' ⟨h1, h2⟩ => ⟨h1, by rw [← h2]; exact Below.refl _ _⟩) hce (.inr ⟨by omega, rfl, rfl⟩) w

set_option maxRecDepth 100000 in
theorem lifted (os : Os) (started : os.Started) (H : Type) (enc : TypeId × Value → H) :
    ReturnsInHanded {} Try.checked os 7 .any (Rows.checkEmptySpec.pre6 enc Try.prog Try.f7 Rows.checkEmptyRow.domain false) (Rows.checkEmptySpec.post enc Try.prog Try.f7 false true false false) := by
  refine returnsInHanded_of_change (C := Try.checked) own started (by kernel_rfl) Try.func7
    (ChangeSpec.witness6 (enc := enc) (C := Try.checked) false ⟨#[], #[.int .u16 0], []⟩ 8 (by kernel_rfl) (by kernel_rfl) (by kernel_rfl) (by kernel_rfl)) ?_
  intro W base args ds gs before hval0 hW hcnd _
  have hval : ∀ (j : Nat) t v, Try.f7.params[j]? = some t → args[j]? = some v → Value.okWide Try.prog W .any base t v := hval0
  have hW' := hW
  obtain ⟨p, q, hA0, hV, rfl, hfz, hnd⟩ := hW
  have hA : DataW.TrodAll enc Try.prog W 0 (fun _ => true) true Try.f7.params.toList args.toList ds p := hA0
  rw [Try.params7] at hA hval
  obtain ⟨v0, vs0, d0, ds0, p0, q0, hargs, rfl, rfl, h0, r0⟩ := trodAll_cons hA
  obtain ⟨rfl, rfl, rfl⟩ := trodAll_nil r0
  obtain rfl : args = #[v0] := by cases args; simp_all
  obtain ⟨rfl, rfl⟩ := trodVars_none hV
  obtain ⟨l0, rfl, rfl, rfl, n0⟩ := open_int Try.underlying35 (hval 0 35 v0 rfl rfl) h0
  clear hA0 hval0
  simp only [List.append_nil] at hW'
  refine (walk l0 n0 W).mono fun e W' ⟨he, bel⟩ => ?_
  subst he
  exact ⟨_, rfl, _, _, _, [], _, [], hW', trodAll_mk1 (shut_bool Try.underlying4 _), (trodAll_cons_mk (shut_int Try.underlying35 n0) trodAll_mk0), rfl, bel.frame _, fun h => by cases h⟩

theorem over : Rows.checkEmptyRow.holds Try.pinned (OpenSpec.ofChange Rows.checkEmptySpec) :=
  OpenClaim.holds_of_wide 7 Try.f7 rfl rfl rfl rfl rfl rfl rfl ⟨rfl, rfl, rfl, rfl, rfl⟩ rfl rfl rfl rfl rfl (by kernel_rfl) Try.func7 (by kernel_rfl)
    (of_decide_eq_true (by kernel_rfl)) (by unfold Func.isWrapper; first | (rw [if_pos (by decide +kernel)]; kernel_rfl) | (rw [if_neg (by decide +kernel)]; exact ⟨rfl, rfl⟩))
    (fun os started H enc _ => lifted os started H enc)

theorem proved : Rows.CheckEmptySaid :=
  over
#print axioms proved
end Go.Proofs.Ytlolcpfkaoembaa.checkEmpty
