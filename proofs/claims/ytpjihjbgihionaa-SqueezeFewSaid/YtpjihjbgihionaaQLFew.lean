/-
  For all bytes and numbers: a run of as many bytes is squeezed to fewer bytes and expanded to itself; nothing is expanded to nothing. No condition.
-/
import Derived.Test.YtpjihjbgihionaaRows
import Derived.Test.YtpjihjbgihionaaQC
import Derived.ChangeOld
namespace Go.Proofs.Ytpjihjbgihionaa.squeezeFew
open Go.ChangeShapes Go.WideShapes Go.ChangeAt Go.RowKit
set_option linter.unusedVariables false

section
variable {P : Program} {ops : Array Oper} {rest : List Oper} {o : Oper} {a : Act} {w : World} {Q : Exit → Act → World → Prop}
/-- the text of own bytes, under whatever guard that holds -/
theorem wpList_string_ownG (hgd : Region.wanted o (yielded ops a.tmps) = true) (src dst e : TypeId) (x : Operand) (ho : o.op = .convert src dst x) (base : Nat) (v : Value) (l : List Int)
    (hx : a.eval x = v) (hs : P.underlying src = some (.slice e)) (he : P.underlying e = some (.int .u8)) (hd : P.underlying dst = some .string)
    (hown : OwnB w base e v l) (h : wpList P ops Q rest (a.put o.dst (.string (bs l))) w) : wpList P ops Q (o :: rest) a w := by
  unfold wpList
  rw [if_pos hgd]
  refine .inl ?_
  unfold Oper.wp execOp
  simp only [ho, hx, Sem.run_bind, run_string_own (P := P) (w := w) src dst e base v l hs he hd hown, Result.andThen_ok]
  exact h
end
theorem rows_rep (c j : Nat) : rowsBy (List.replicate (j + 1) c) = rowsBy (List.replicate j c) ++ [[.int .u8 (c : Int)]] := by
  rw [List.replicate_succ', rowsBy_app]
  rfl
theorem rep_bys {c : Nat} (hc : c < 256) (n : Nat) : Bys (List.replicate n c) := Bys.of fun x hx => by rw [(List.mem_replicate.1 hx).2]; exact hc
set_option maxHeartbeats 4000000 in
set_option maxRecDepth 100000 in
theorem walk (y x : Int) (hv : (Lit.int .u8 y).wf = true) (hw : (Lit.int .u16 x).wf = true) (w : World) :
    Calls Try.prog 7 #[.int .u8 y, .int .u16 x] w fun e w' => e = .returned (.bool true) ∧ Below w.heap.size w w' := by
  have HS := Lib.hid (fun w => l9_shown w)
  obtain ⟨n, rfl, hn⟩ := nat_u16 x hw
  obtain ⟨c, rfl, hc⟩ := nat_u8 y hv
  obtain ⟨i0, hi0, hz0, hz1, hz2⟩ := info_parts2 info_u8
  clear hw hv
  obtain ⟨m, hm1, hm4⟩ : ∃ m : Nat, n % 900 = m ∧ m < 900 := ⟨_, rfl, Nat.mod_lt _ (by decide)⟩
  have e1 : (n : Int) % 900 = (m : Int) := by omega
  have e1t : (n : Int).tmod 900 = (m : Int) := by rw [Int.tmod_eq_emod_of_nonneg (by omega)]; exact e1
  have e0 : IntKind.i64.wrap (n : Int) = (n : Int) := IntWalk.i64_in _ (by omega)
  clear hm1 hn
  have k0 := OwnR.empty w w.heap.size 5 1 (Nat.le_refl _)
  have kb := (Below.refl w.heap.size w).alloc (Nat.le_refl _) (.cells #[] 5)
  have K0 := Lib.hid k0
  have KB := Lib.hid kb
  clear k0 kb
  go_enter Try.func7, Try.ntmps7
  go_wp2_with fail
  go_loopw [5, 6] (fun l i wr => ∃ (j : Nat) (lv : Value), lv = l ∧ i = .int .i64 (j : Int) ∧ j ≤ 100 + m ∧ OwnR wr w.heap.size 5 1 lv (rowsBy (List.replicate j c)) ∧ Below w.heap.size w wr) (fun _ i _ => 100 + m - (intOf i).toNat)
  case atStart => exact ⟨0, _, rfl, rfl, by omega, K0.out, KB.out⟩
  case round =>
    obtain ⟨j, lv, rfl, rfl, hj, gO, gb⟩ := hrel
    clear K0 KB
    by_cases hlt : j < 100 + m
    · have d1 : (j : Int) < 100 + (m : Int) := by omega
      have k6 := Blk.new' wr 5 (c := #[.int .u8 (c : Int)]) [.int .u8 (c : Int)] rfl
      have hb6 := (Below.refl wr.heap.size wr).alloc (Nat.le_refl _) (.cells #[.int .u8 (c : Int)] 5)
      have hlo := gO.lt
      have hO6 := gO.keep hb6
      have hB6 := gb.trans (hb6.mono gb.size)
      have hnews := sl_one k6
      have hone : ∀ r ∈ [[Value.int .u8 (c : Int)]], ∀ u ∈ r, u.oneCell' = true := by simp [Value.oneCell']
      have hlen : (rowsBy (List.replicate j c)).length + [[Value.int .u8 (c : Int)]].length ≤ maxLen := by rw [rowsBy_len, List.length_replicate, List.length_singleton]; unfold maxLen; omega
      have hby : ((rowsBy (List.replicate j c)).length + [[Value.int .u8 (c : Int)]].length) * 1 ≤ 140737488355328 := by rw [rowsBy_len, List.length_replicate, List.length_singleton]; omega
      have hrr := rows_rep c j
      have HO := Lib.hid hO6
      have HB6 := Lib.hid hB6
      have HNW := Lib.hid hnews
      have HLO := Lib.hid hlo
      have HONE := Lib.hid hone
      have HLEN := Lib.hid hlen
      have HBY := Lib.hid hby
      have HBA := Lib.hid hB6.size
      have HRR := Lib.hid hrr
      clear gO gb k6 hb6 hlo hO6 hB6 hnews hone hlen hby hrr
      go_wp2_with (first | (refine wpList_append_rows rfl _ _ 40 rfl w.heap.size 5 i0 (.int .u8 0) 1 1 Try.underlying40 hi0 hz0 hz1 hz2 rfl (by decide) _ (rowsBy (List.replicate j c)) rfl HO.out (.slice (some ⟨wr.heap.size, 0, none⟩) 1 1) [[.int .u8 (c : Int)]] rfl HNW.out HONE.out HLEN.out HBY.out HBA.out (.inr ⟨_, _, _, rfl⟩) ?_; intro v7 w7 ho7 hg7 hv7))
      go_roundw
      case rel => exact ⟨j + 1, v7, rfl, by go_num, by omega, by rw [HRR.out]; exact ho7, HB6.out.grown hg7 HBA.out (fun k e => (HLO.out k e).1)⟩
      case measure => (simp [intOf]; try omega)
    · obtain rfl : j = 100 + m := by omega
      have d1 : ¬ ((100 + m : Nat) : Int) < 100 + (m : Int) := by omega
      obtain ⟨L, hL⟩ : ∃ L, List.replicate (100 + m) c = L := ⟨_, rfl⟩
      have hLl : L.length = 100 + m := by rw [← hL, List.length_replicate]
      have hLb : Bys L := by rw [← hL]; exact rep_bys hc _
      have hsh : (sqzW L).length < L.length := by
        have := run_short (c := c) (n := 100 + m) hc (by omega) (by omega)
        rw [hL] at this
        rw [hLl]
        unfold sqzW
        rw [hLl]
        exact this
      rw [hL] at gO
      have HLT0 := Lib.hid (fun b e => (gO.lt b e).2)
      have HOW := Lib.hid (own_bytes gO)
      obtain ⟨pa, ca, hv⟩ := gO.isSlice
      obtain ⟨N, hN⟩ : ∃ N, 100 + m = N := ⟨_, rfl⟩
      rw [rowsBy_len, hLl, hN] at hv
      rw [hN] at hLl d1 ⊢
      subst hv
      have HLT : Hid (∀ b, (Value.slice pa N ca).ownBlock = some b → b < wr.heap.size) := HLT0
      have GB := Lib.hid gb
      clear gO gb hL
      have hA := fun w => q_Squeeze (tx L) w (by rw [tx_size, hLl]; omega)
      have hB := fun w => q_back (tx L) (N : Int) w (by rw [tx_size, hLl]; omega) (by rw [tx_size, hLl]; omega) (by omega)
      have hC := fun w => q_Squeeze ⟨#[]⟩ w (by decide)
      have hD := fun w => q_back ⟨#[]⟩ 0 w (by decide) (by decide) (by decide)
      have hzs : (tx (sqzW (sl (tx L)))).size < N := by rw [tx_size, sl_tx hLb]; omega
      generalize tx (sqzW (sl (tx L))) = z at *
      generalize tx (sqzW (sl ⟨#[]⟩)) = z0 at *
      have HA := Lib.hid hA
      have HB := Lib.hid hB
      have HC := Lib.hid hC
      have HD := Lib.hid hD
      have g5 : (z.size : Int) < (N : Int) := by omega
      clear hA hB hC hD hsh hLb hLl
      generalize hn : nn L = l at *
      have htl : bs l = tx L := by rw [← hn]; rfl
      generalize tx L = tt at *
      have HTL := Lib.hid htl
      have htx := txt_same tt
      clear hn htl
      go_wp2_with (first | (refine wpList_string_own rfl 40 9 5 _ rfl w.heap.size _ l rfl Try.underlying40 Try.underlying5 Try.underlying9 HOW.out ?_; rw [HTL.out]) | (go_at_call 10; (with_reducible refine (HA.out _).mono ?_); rintro e w3 ⟨rfl, hb3⟩) | (go_at_call 12; (with_reducible refine (HB.out _).mono ?_); rintro e w4 ⟨rfl, hb4⟩) | (go_at_call 10; (with_reducible refine (HC.out _).mono ?_); rintro e w5 ⟨rfl, hb5⟩) | (go_at_call 12; (with_reducible refine (HD.out _).mono ?_); rintro e w6 ⟨rfl, hb6⟩; have a3 := GB.out.trans (hb3.mono GB.out.size); have a4 := a3.trans (hb4.mono a3.size); have a5 := a4.trans (hb5.mono a4.size); have GB6 := Lib.hid (a5.trans (hb6.mono a5.size)); have hlt : ∀ b, (Value.slice pa N ca).ownBlock = some b → b < wr.heap.size := (fun b e => (HLT.out b e)); have HOW6 := Lib.hid ((((HOW.out.below hb3 hlt).below hb4 (fun b e => Nat.lt_of_lt_of_le (hlt b e) hb3.size)).below hb5 (fun b e => Nat.lt_of_lt_of_le (hlt b e) (Nat.le_trans hb3.size hb4.size))).below hb6 (fun b e => Nat.lt_of_lt_of_le (hlt b e) (Nat.le_trans hb3.size (Nat.le_trans hb4.size hb5.size)))); clear a3 a4 a5 hb3 hb4 hb5 hb6 hlt) | (go_at_call 9; (with_reducible refine (HS.out _).mono ?_); rintro e w7 ⟨rfl, hb7⟩) | (refine wpList_string_ownG rfl 40 9 5 _ rfl w.heap.size _ l rfl Try.underlying40 Try.underlying5 Try.underlying9 HOW6.out ?_; rw [HTL.out]))
      go_ret
      exact ⟨rfl, GB6.out.trans (hb7.mono GB6.out.size)⟩

set_option maxRecDepth 100000 in
theorem lifted (os : Os) (started : os.Started) (H : Type) (enc : TypeId × Value → H) :
    ReturnsInHanded {} Try.checked os 7 .any (Rows.squeezeFewSpec.pre6 enc Try.prog Try.f7 Rows.squeezeFewRow.domain false) (Rows.squeezeFewSpec.post enc Try.prog Try.f7 false true false false) := by
  refine returnsInHanded_of_change (C := Try.checked) own started (by kernel_rfl) Try.func7
    (ChangeSpec.witness6 (enc := enc) (C := Try.checked) false ⟨#[], #[.int .u8 0, .int .u16 0], []⟩ 8 (by kernel_rfl) (by kernel_rfl) (by kernel_rfl) (by kernel_rfl)) ?_
  intro W base args ds gs before hval0 hW hcnd _
  have hval : ∀ (j : Nat) t v, Try.f7.params[j]? = some t → args[j]? = some v → Value.okWide Try.prog W .any base t v := hval0
  have hW' := hW
  obtain ⟨p, q, hA0, hV, rfl, hfz, hnd⟩ := hW
  have hA : DataW.TrodAll enc Try.prog W 0 (fun _ => true) true Try.f7.params.toList args.toList ds p := hA0
  rw [Try.params7] at hA hval
  obtain ⟨v0, vs0, d0, ds0, p0, q0, hargs, rfl, rfl, h0, r0⟩ := trodAll_cons hA
  obtain ⟨v1, vs1, d1, ds1, p1, q1, rfl, rfl, rfl, h1, r1⟩ := trodAll_cons r0
  obtain ⟨rfl, rfl, rfl⟩ := trodAll_nil r1
  obtain rfl : args = #[v0, v1] := by cases args; simp_all
  obtain ⟨rfl, rfl⟩ := trodVars_none hV
  obtain ⟨l0, rfl, rfl, rfl, n0⟩ := open_int Try.underlying5 (hval 0 5 v0 rfl rfl) h0
  obtain ⟨l1, rfl, rfl, rfl, n1⟩ := open_int Try.underlying27 (hval 1 27 v1 rfl rfl) h1
  clear hA0 hval0
  simp only [List.append_nil] at hW'
  refine (walk l0 l1 n0 n1 W).mono fun e W' ⟨he, bel⟩ => ?_
  subst he
  exact ⟨_, rfl, _, _, _, [], _, [], hW', trodAll_mk1 (shut_bool Try.underlying4 _), (trodAll_cons_mk (shut_int Try.underlying5 n0) (trodAll_cons_mk (shut_int Try.underlying27 n1) trodAll_mk0)), rfl, bel.frame _, fun h => by cases h⟩

theorem over : Rows.squeezeFewRow.holds Try.pinned (OpenSpec.ofChange Rows.squeezeFewSpec) :=
  OpenClaim.holds_of_wide 7 Try.f7 rfl rfl rfl rfl rfl rfl rfl ⟨rfl, rfl, rfl, rfl, rfl⟩ rfl rfl rfl rfl rfl (by kernel_rfl) Try.func7 (by kernel_rfl)
    (of_decide_eq_true (by kernel_rfl)) (by unfold Func.isWrapper; first | (rw [if_pos (by decide +kernel)]; kernel_rfl) | (rw [if_neg (by decide +kernel)]; exact ⟨rfl, rfl⟩))
    (fun os started H enc _ => lifted os started H enc)

theorem proved : Rows.SqueezeFewSaid :=
  over
#print axioms proved
end Go.Proofs.Ytpjihjbgihionaa.squeezeFew
