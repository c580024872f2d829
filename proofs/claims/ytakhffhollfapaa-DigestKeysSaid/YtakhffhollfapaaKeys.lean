/-
  For every text and count of zeros: the seal by that many bytes 0, as far as sixty-four, is the seal by the empty key; that one is the document's; longer texts than the bound are answered by the anchor alone. No condition.
-/
import Derived.Test.YtakhffhollfapaaRows
import Derived.WalkKit
import Derived.ProofKit
import Derived.OpenShut
import Derived.ShutString
import Derived.ChangeOld
import Derived.Below
import Derived.Test.YtakhffhollfapaaMacR
namespace Go.Proofs.Ytakhffhollfapaa.digestKeys
open Go.ChangeShapes Go.WideShapes Go.ChangeAt Go.RowKit
open Go.ChangeMaps (open_string shut_string)
set_option linter.unusedVariables false

theorem macOf_pad (k k' s : ByteArray) (h : padK k = padK k') : macOf k s = macOf k' s := by
  have e : ∀ m, maskL k m = maskL k' m := fun m => by unfold maskL; rw [h]
  unfold macOf innerL
  rw [e, e]
theorem macL_short (k s : ByteArray) (h : k.size ≤ 64) : macL k s = macOf k s := by
  unfold macL keyOf; rw [if_pos h]
theorem padK_zer (j : Nat) (h : j ≤ 64) : padK (bs (zer j)) = padK ⟨#[]⟩ := by
  unfold padK
  rw [is_bs (zer j) (by intro n hn; simp [zer] at hn; omega), bs_size]
  show zer j ++ zer (64 - (zer j).length) = [] ++ zer 64
  unfold zer
  rw [List.length_replicate, List.replicate_append_replicate, List.nil_append]
  congr 1; omega
theorem zer_snoc (j : Nat) : ints .u8 (zer (j + 1)) = ints .u8 (zer j) ++ [.int .u8 0] := by
  unfold zer
  rw [List.replicate_succ', ints_app]; rfl

set_option maxHeartbeats 1000000 in
set_option maxRecDepth 100000 in
theorem walk_of (M : List Int) (s : ByteArray) (m : Nat) (b1 : (m : Int) ≤ 255) (h1 : ¬ 1024 < s.size) (w : World)
    (hm2 : ∀ j w, j ≤ 64 → Calls Try.prog 11 #[.string (bs (zer j)), .string s] w fun e w' => e = .returned (.agg (ints .u8 M).toArray) ∧ Below w.heap.size w w')
    (hm1 : ∀ w, Calls Try.prog 11 #[.string ⟨#[]⟩, .string s] w fun e w' => e = .returned (.agg (ints .u8 M).toArray) ∧ Below w.heap.size w w')
    (hm3 : ∀ w, Calls Try.prog 12 #[.string ⟨#[]⟩, .string s] w fun e w' => e = .returned (.agg (ints .u8 M).toArray) ∧ Below w.heap.size w w')
    (he : ∀ w, (binOp .eql 23 (.agg (ints .u8 M).toArray) (.agg (ints .u8 M).toArray)).run Try.prog w = .ok (.bool true) w) :
    Calls Try.prog 7 #[.string s, .int .u8 (m : Int)] w fun e w' => e = .returned (.bool true) ∧ Below w.heap.size w w' := by
  have b0 : (0 : Int) ≤ (m : Int) := by omega
  have g1 : ¬ (1024 : Int) < (s.size : Int) := by omega
  obtain ⟨i0, hi0, hz0, hz1, hz2⟩ := info_parts info_u8
  have HM1 := Lib.hid hm1
  have HM2 := Lib.hid hm2
  have HM3 := Lib.hid hm3
  clear hm1 hm2 hm3
  go_enter Try.func7, Try.ntmps7
  go_wp2_with fail
  refine (l_shown _).mono ?_
  rintro e w1 ⟨rfl, hb1⟩
  go_wp2_with fail
  have hs1 := hb1.size
  have qb := hb1.alloc hs1 (.cells #[] 5)
  have qA := OwnB.ofBlk (base := w.heap.size) (cap := 0) (l := zer 0) [] (Blk.new' w1 5 (c := #[]) (ints .u8 (zer 0 ++ [])) (by simp [ints, zer])) hs1 (by simp [zer]) (Nat.zero_le _)
  generalize World.alloc _ (.cells #[] 5) = w3 at *
  go_loopw [5, 6] (fun v i wr => ∃ (j : Nat) (p : Option Addr) (cap : Nat), i = .int .i64 (j : Int) ∧ v = .slice p j cap ∧ OwnB wr w.heap.size 5 (.slice p j cap) (zer j) ∧ j ≤ m % 65 ∧ Below w.heap.size w wr) (fun _ i _ => 65 - (intOf i).toNat)
  case atStart => exact ⟨0, _, 0, rfl, rfl, qA, by omega, qb⟩
  case round =>
    obtain ⟨j, p, cap, rfl, rfl, go, hj, gb⟩ := hrel
    clear qA qb
    by_cases hlt : j < m % 65
    · have hll : (zer j).length = j := by simp [zer]
      have hrow : (wr.alloc (.cells #[.int .u8 0] 5)).ownsRow w.heap.size 5 1 (.slice p j cap) j (ints .u8 (zer j)) := by
        have := go.alloc (.cells #[.int .u8 0] 5)
        unfold OwnB at this
        rw [hll] at this
        exact this
      have hone : ∀ u ∈ [Value.int .u8 0], u.oneCell' = true := by simp [Value.oneCell']
      have h63 : j + 1 ≤ maxLen := by simp [maxLen]; omega
      have hbyy : (j + 1) * 1 ≤ 140737488355328 := by omega
      have hbs := gb.size
      have hbase : w.heap.size ≤ (wr.alloc (.cells #[.int .u8 0] 5)).heap.size := by simp; omega
      have hgl := fun i hi => (go.lt i hi).1
      have kw := gb.alloc hbs (.cells #[.int .u8 0] 5)
      have HRow := Lib.hid hrow
      have HOne := Lib.hid hone
      have H63 := Lib.hid h63
      have HBY := Lib.hid hbyy
      have HBS := Lib.hid hbase
      have Hgl := Lib.hid hgl
      have e1 : (j : Int) < (m : Int) % 65 := by omega
      clear hrow hone h63 hbyy hbase gb hgl
      go_wp2_with (at_builtin; refine wpList_append_own_at _ rfl _ _ 36 rfl w.heap.size 5 i0 (.int .u8 0) 1 1 Try.underlying36 hi0 hz0 hz1 hz2 rfl (by decide) _ j _ rfl HRow.out ⟨wr.heap.size, 0, none⟩ 1 1 [.int .u8 0] rfl rfl (cell_one_new _ _ _) HOne.out H63.out HBY.out HBS.out ?_; intro v5 w5 hown5 hg5 hnil5 hat5; obtain ⟨p5, cap5, rfl⟩ := own_slice hown5)
      go_roundw
      case rel =>
        have o5 : OwnB w5 w.heap.size 5 (.slice p5 (j + 1) cap5) (zer (j + 1)) := by
          unfold OwnB
          rw [zer_snoc, show (zer (j + 1)).length = j + 1 by simp [zer]]
          exact hown5
        exact ⟨j + 1, p5, cap5, by go_num, rfl, o5, by omega, kw.grown hg5 kw.size (fun i hi => Hgl.out i hi)⟩
      case measure => simp [intOf]; omega
    · have e1 : ¬ (j : Int) < (m : Int) % 65 := by omega
      have hj64 : j ≤ 64 := by omega
      go_wp2_with (refine wpList_string_own rfl 36 9 5 _ rfl w.heap.size _ _ rfl Try.underlying36 Try.underlying5 Try.underlying9 go ?_)
      refine (HM2.out j _ hj64).mono ?_
      rintro e w4 ⟨rfl, hb4⟩
      go_wp2_with fail
      refine (HM1.out _).mono ?_
      rintro e w5 ⟨rfl, hb5⟩
      go_wp2_with fail
      refine (HM1.out _).mono ?_
      rintro e w6 ⟨rfl, hb6⟩
      go_wp2_with fail
      refine (HM3.out _).mono ?_
      rintro e w7 ⟨rfl, hb7⟩
      have c4 := gb.trans (hb4.mono gb.size)
      have c5 := c4.trans (hb5.mono c4.size)
      have c6 := c5.trans (hb6.mono c5.size)
      have c7 := c6.trans (hb7.mono c6.size)
      go_wp2_with fail
      go_ret
      exact ⟨rfl, c7⟩

set_option maxHeartbeats 1000000 in
set_option maxRecDepth 100000 in
theorem walk (s : ByteArray) (z : Int) (ws : s.size ≤ maxLen) (wz : (Lit.int .u8 z).wf = true) (w : World) :
    Calls Try.prog 7 #[.string s, .int .u8 z] w fun e w' => e = .returned (.bool true) ∧ Below w.heap.size w w' := by
  obtain ⟨b0, b1⟩ : 0 ≤ z ∧ z ≤ 255 := by
    have := bounds_u8 wz
    omega
  unfold maxLen at ws
  obtain ⟨m, rfl⟩ : ∃ m : Nat, z = (m : Int) := ⟨z.toNat, by omega⟩
  by_cases h1 : 1024 < s.size
  · have g1 : (1024 : Int) < (s.size : Int) := by omega
    go_enter Try.func7, Try.ntmps7
    go_wp2_with (go_at_call 8; refine (l_shown _).mono ?_; rintro e w1 ⟨rfl, hb1⟩)
    go_ret
    exact ⟨rfl, hb1⟩
  · have g1 : ¬ (1024 : Int) < (s.size : Int) := by omega
    have hm2 : ∀ j w, j ≤ 64 → Calls Try.prog 11 #[.string (bs (zer j)), .string s] w fun e w' => e = .returned (.agg (ints .u8 (macOf ⟨#[]⟩ s)).toArray) ∧ Below w.heap.size w w' := fun j w hj => by
      have hz : (bs (zer j)).size ≤ 64 := by rw [bs_size]; simp [zer]; exact hj
      rw [← macOf_pad _ _ s (padK_zer j hj), ← macL_short _ s hz]; exact d_Mac _ s w (by omega) (by omega)
    have hm1 : ∀ w, Calls Try.prog 11 #[.string ⟨#[]⟩, .string s] w fun e w' => e = .returned (.agg (ints .u8 (macOf ⟨#[]⟩ s)).toArray) ∧ Below w.heap.size w w' := fun w => by
      rw [← macL_short ⟨#[]⟩ s (by decide)]; exact d_Mac _ s w (by decide) (by omega)
    have hm3 : ∀ w, Calls Try.prog 12 #[.string ⟨#[]⟩, .string s] w fun e w' => e = .returned (.agg (ints .u8 (macOf ⟨#[]⟩ s)).toArray) ∧ Below w.heap.size w w' := fun w => r_Mac_short _ s w (by decide) (by omega)
    have he := eql_hash (macOf ⟨#[]⟩ s) (by rw [← macL_short ⟨#[]⟩ s (by decide)]; exact macL_octets _ _) (by rw [← macL_short ⟨#[]⟩ s (by decide)]; exact macL_len _ _)
    exact walk_of _ s m b1 h1 w hm2 hm1 hm3 he

theorem own : ownKnob Try.prog.godebug = none := by kernel_rfl
set_option maxRecDepth 100000 in
theorem lifted (os : Os) (started : os.Started) (H : Type) (enc : TypeId × Value → H) :
    ReturnsInHanded {} Try.checked os 7 .any (Rows.digestKeysSpec.pre6 enc Try.prog Try.f7 Rows.digestKeysRow.domain false) (Rows.digestKeysSpec.post enc Try.prog Try.f7 false true false false) := by
  refine returnsInHanded_of_change (C := Try.checked) own started (by kernel_rfl) Try.func7
    (ChangeSpec.witness6 (enc := enc) (C := Try.checked) false ⟨#[], #[.string ByteArray.empty, .int .u8 0], []⟩ 8 (by kernel_rfl) (by kernel_rfl) (by kernel_rfl) (by kernel_rfl)) ?_
  intro W base args ds gs before hval0 hW hcnd _
  have hval : ∀ (j : Nat) t v, Try.f7.params[j]? = some t → args[j]? = some v → Value.okWide Try.prog W .any base t v := hval0
  have hW' := hW
  obtain ⟨p, q, hA0, hV, rfl, hfz, hnd⟩ := hW
  have hA : DataW.TrodAll enc Try.prog W 0 (fun _ => true) true Try.f7.params.toList args.toList ds p := hA0
  rw [Try.params7] at hA hval
  obtain ⟨v0, vs0, d0, ds0, p0, q0, hargs, rfl, rfl, h0, r0⟩ := trodAll_cons hA
  obtain ⟨v1, vs1, d1, ds1, p1, q1, rfl, rfl, rfl, h1, r1⟩ := trodAll_cons r0
  obtain ⟨rfl, rfl, rfl⟩ := trodAll_nil r1
  obtain rfl : args = #[v0, v1] := by cases args; simp_all
  obtain ⟨rfl, rfl⟩ := trodVars_none hV
  obtain ⟨l0, rfl, rfl, rfl, n0⟩ := open_string Try.underlying9 (hval 0 9 v0 rfl rfl) h0
  obtain ⟨l1, rfl, rfl, rfl, n1⟩ := open_int Try.underlying5 (hval 1 5 v1 rfl rfl) h1
  clear hA0 hval0
  simp only [List.append_nil] at hW'
  refine (walk l0 l1 n0 n1 W).mono fun e W' ⟨he, bel⟩ => ?_
  subst he
  exact ⟨_, rfl, _, _, _, [], _, [], hW', trodAll_mk1 (shut_bool Try.underlying4 _), (trodAll_cons_mk (shut_string Try.underlying9 n0) (trodAll_cons_mk (shut_int Try.underlying5 n1) trodAll_mk0)), rfl, bel.frame _, fun h => by cases h⟩

theorem over : Rows.digestKeysRow.holds Try.pinned (OpenSpec.ofChange Rows.digestKeysSpec) :=
  OpenClaim.holds_of_wide 7 Try.f7 rfl rfl rfl rfl rfl rfl rfl ⟨rfl, rfl, rfl, rfl, rfl⟩ rfl rfl rfl rfl rfl (by kernel_rfl) Try.func7 (by kernel_rfl)
    (of_decide_eq_true (by kernel_rfl)) (by unfold Func.isWrapper; first | (rw [if_pos (by decide +kernel)]; kernel_rfl) | (rw [if_neg (by decide +kernel)]; exact ⟨rfl, rfl⟩))
    (fun os started H enc _ => lifted os started H enc)

theorem proved : Rows.DigestKeysSaid :=
  over
#print axioms proved
end Go.Proofs.Ytakhffhollfapaa.digestKeys
