/-
  For any two lists of pieces: packed at once they have so many bytes as their bits ask, and, where the first ones are whole bytes, these are the bytes of the first ones and then those of the others; they are refused if one of the two is. Longer lists than the bound are answered by the case shown alone. No condition.
-/
import Derived.Test.YtpjfafefgmjmfaaRows
import Derived.Test.YtpjfafefgmjmfaaJShown
import Derived.Test.YtpjfafefgmjmfaaJRPackW
import Derived.Test.YtpjfafefgmjmfaaJOpen
import Derived.ShutString
import Derived.ChangeOld
namespace Go.Proofs.Ytpjfafefgmjmfaa.bitioParts
open Go.ChangeShapes Go.WideShapes Go.ChangeAt Go.RowKit
open Go.ChangeMaps (open_string shut_string)
set_option linter.unusedVariables false

theorem info_piece : (Try.prog.info? 45).map (fun i => (i.zero, i.size, i.bytes)) = some (some (.agg #[.int .u32 0, .int .i64 0]), 2, 16) := by kernel_rfl
theorem rows_one (l : List (Nat × Int)) : ∀ r ∈ rowsP l, ∀ u ∈ r, u.oneCell' = true := by
  intro r hr u hu
  simp only [rowsP, List.mem_map] at hr
  obtain ⟨q, _, rfl⟩ := hr
  simp only [rowP, List.mem_cons, List.not_mem_nil, or_false] at hu
  rcases hu with rfl | rfl <;> rfl
theorem pack_any (l : List (Nat × Int)) : ∃ (s : ByteArray) (er : Nat), ((∀ q ∈ l, mayP q) ∧ s = tx (bytesB (bitsP l)) ∧ er = 0) ∨ (¬ (∀ q ∈ l, mayP q) ∧ s = ⟨#[]⟩ ∧ er = 1) := by
  by_cases h : ∀ q ∈ l, mayP q
  · exact ⟨_, _, .inl ⟨h, rfl, rfl⟩⟩
  · exact ⟨_, _, .inr ⟨h, rfl, rfl⟩⟩
theorem rowsP_app (a b : List (Nat × Int)) : rowsP (a ++ b) = [] ++ rowsP a ++ rowsP b := by simp [rowsP]
set_option maxHeartbeats 2000000 in
set_option maxRecDepth 100000 in
theorem walk (l : List (Nat × Int)) (p : Option Addr) (cap : Nat) (k : List (Nat × Int)) (q : Option Addr) (kap : Nat) (hf : (∀ q ∈ l, q.1 < 4294967296) ∧ (Value.slice p l.length cap = .slice none 0 0 ∨ ∃ ad n c, Value.slice p l.length cap = .slice (some ad) n c))
    (hg : (∀ q ∈ k, q.1 < 4294967296) ∧ (Value.slice q k.length kap = .slice none 0 0 ∨ ∃ ad n c, Value.slice q k.length kap = .slice (some ad) n c)) (w : World) (hS : Sl w 2 (.slice p l.length cap) (rowsP l)) (hK : Sl w 2 (.slice q k.length kap) (rowsP k)) :
    Calls Try.prog 6 #[.slice p l.length cap, .slice q k.length kap] w fun e w' => e = .returned (.bool true) ∧ Below w.heap.size w w' := by
  have hSh := fun w => l6_shown w
  have HSh := Lib.hid hSh
  clear hSh
  by_cases h1 : 200 < l.length
  · have g1 : (200 : Int) < (l.length : Int) := by omega
    go_enter Try.func6, Try.ntmps6
    go_wp2_with (go_at_call 8; (with_reducible refine (HSh.out _).mono ?_); rintro e w1 ⟨rfl, hb1⟩)
    go_ret
    exact ⟨rfl, hb1⟩
  have g1 : ¬ (200 : Int) < (l.length : Int) := by omega
  by_cases h2 : 200 < k.length
  · have g2 : (200 : Int) < (k.length : Int) := by omega
    go_enter Try.func6, Try.ntmps6
    go_wp2_with (go_at_call 8; (with_reducible refine (HSh.out _).mono ?_); rintro e w1 ⟨rfl, hb1⟩)
    go_ret
    exact ⟨rfl, hb1⟩
  have g2 : ¬ (200 : Int) < (k.length : Int) := by omega
  obtain ⟨hu, hnl⟩ := hf
  obtain ⟨hv, hnk⟩ := hg
  obtain ⟨s0, er0, hE0⟩ := pack_any l
  obtain ⟨s1, er1, hE1⟩ := pack_any k
  obtain ⟨s2, er2, hE2⟩ := pack_any (l ++ k)
  have hX : (er0 = 0 ∧ er1 = 0 ∧ er2 = 0 ∧ s2.size = (sizeP l + sizeP k + 7) / 8 ∧ s0.size ≤ 10000 ∧ s1.size ≤ 10000 ∧ (sizeP l % 8 = 0 → s2 = s0 ++ s1)) ∨ (er0 = 1 ∧ er2 = 1 ∧ s2 = ⟨#[]⟩) ∨ (er0 = 0 ∧ er1 = 1 ∧ er2 = 1 ∧ s2 = ⟨#[]⟩) := by
    have hlk : (∀ x ∈ l ++ k, mayP x) ↔ (∀ x ∈ l, mayP x) ∧ ∀ x ∈ k, mayP x := by simp only [List.mem_append, or_imp, forall_and]
    rcases hE0 with ⟨m0, rfl, rfl⟩ | ⟨m0, rfl, rfl⟩
    · rcases hE1 with ⟨m1, rfl, rfl⟩ | ⟨m1, rfl, rfl⟩
      · rcases hE2 with ⟨m2, rfl, rfl⟩ | ⟨m2, rfl, rfl⟩
        · have z0 := sizeP_le l
          have z1 := sizeP_le k
          refine .inl ⟨rfl, rfl, rfl, ?_, ?_, ?_, fun h8 => ?_⟩
          · rw [tx_size, size_pack m2, sizeP_app]
          · rw [tx_size, size_pack m0]; omega
          · rw [tx_size, size_pack m1]; omega
          · rw [pack_parts h8 m0, tx_app]
        · exact absurd (hlk.2 ⟨m0, m1⟩) m2
      · rcases hE2 with ⟨m2, rfl, rfl⟩ | ⟨m2, rfl, rfl⟩
        · exact absurd (hlk.1 m2).2 m1
        · exact .inr (.inr ⟨rfl, rfl, rfl, rfl⟩)
    · rcases hE2 with ⟨m2, rfl, rfl⟩ | ⟨m2, rfl, rfl⟩
      · exact absurd (hlk.1 m2).1 m0
      · exact .inr (.inl ⟨rfl, rfl, rfl⟩)
  have hP0 := fun w h => i_Pack l p cap w (by omega) hu h s0 er0 hE0
  have hP1 := fun w h => i_Pack k q kap w (by omega) hv h s1 er1 hE1
  have hP2 := fun p cap w h => i_Pack (l ++ k) p cap w (by rw [List.length_append]; omega) (fun x hx => (List.mem_append.1 hx).elim (hu x) (hv x)) h s2 er2 hE2
  have hZ0 := fun w h => i_Size l p cap w (by omega) h
  have hZ1 := fun w h => i_Size k q kap w (by omega) h
  have z0 := sizeP_le l
  have z1 := sizeP_le k
  have hr0 := rowsP_len l
  have hr1 := rowsP_len k
  have hlen0 : ([] : List (List Value)).length + (rowsP l).length ≤ maxLen := by rw [hr0, List.length_nil]; unfold maxLen; omega
  have hlen1 : (([] : List (List Value)) ++ rowsP l).length + (rowsP k).length ≤ maxLen := by rw [List.length_append, hr0, hr1, List.length_nil]; unfold maxLen; omega
  have hby0 : (([] : List (List Value)).length + (rowsP l).length) * 16 ≤ 140737488355328 := by rw [hr0, List.length_nil]; omega
  have hby1 : ((([] : List (List Value)) ++ rowsP l).length + (rowsP k).length) * 16 ≤ 140737488355328 := by rw [List.length_append, hr0, hr1, List.length_nil]; omega
  have HX := Lib.hid hX
  have HP0 := Lib.hid hP0
  have HP1 := Lib.hid hP1
  have HP2 := Lib.hid hP2
  have HZ0 := Lib.hid hZ0
  have HZ1 := Lib.hid hZ1
  have HL0 := Lib.hid hlen0
  have HL1 := Lib.hid hlen1
  have HY0 := Lib.hid hby0
  have HY1 := Lib.hid hby1
  have HNL := Lib.hid hnl
  have HNK := Lib.hid hnk
  have HO0 := Lib.hid (rows_one l)
  have HO1 := Lib.hid (rows_one k)
  have HSL := Lib.hid hS
  have HSK := Lib.hid hK
  have HAP := Lib.hid (rowsP_app l k)
  obtain ⟨i0, hi0, hzz0, hzz1, hzz2⟩ := info_parts2 info_piece
  clear hX hP0 hP1 hP2 hZ0 hZ1 hlen0 hlen1 hby0 hby1 hnl hnk hE0 hE1 hE2 hu hv hr0 hr1 hS hK
  go_enter Try.func6, Try.ntmps6
  go_wp2_with (go_at_call 8; (with_reducible refine (HSh.out _).mono ?_); rintro e w1 ⟨rfl, hb1⟩)
  (with_reducible refine (HP0.out _ (HSL.out.below hb1)).mono ?_)
  rintro e w2 ⟨rfl, hb2⟩
  have c2 := hb1.trans (hb2.mono hb1.size)
  clear hb1 hb2
  go_wp2_with fail
  (with_reducible refine (HP1.out _ (HSK.out.below c2)).mono ?_)
  rintro e w3 ⟨rfl, hb3⟩
  have c3 := c2.trans (hb3.mono c2.size)
  clear c2 hb3
  have o4 := OwnR.empty w3 w.heap.size 45 2 c3.size
  have b4 := c3.alloc c3.size (.cells #[] 45)
  have B4 := Lib.hid b4
  have O4 := Lib.hid o4
  clear c3 b4 o4
  go_wp2_with (first | (refine wpList_append_rows rfl _ _ 22 rfl w.heap.size 45 i0 (.agg #[.int .u32 0, .int .i64 0]) 2 16 Try.underlying22 hi0 hzz0 hzz1 hzz2 rfl (by decide) _ [] rfl O4.out (.slice p l.length cap) (rowsP l) rfl (HSL.out.below B4.out) HO0.out HL0.out HY0.out B4.out.size HNL.out ?_; intro v5 w5 ho5 hg5 hv5; have b5 := B4.out.grown hg5 B4.out.size (fun k e => (O4.out.lt k e).1)) |
    (refine wpList_append_rows rfl _ _ 22 rfl w.heap.size 45 i0 (.agg #[.int .u32 0, .int .i64 0]) 2 16 Try.underlying22 hi0 hzz0 hzz1 hzz2 rfl (by decide) v5 ([] ++ rowsP l) rfl ho5 (.slice q k.length kap) (rowsP k) rfl (HSK.out.below b5) HO1.out HL1.out HY1.out b5.size HNK.out ?_; intro v6 w6 ho6 hg6 hv6; have b6 := b5.grown hg6 b5.size (fun k e => (ho5.lt k e).1)))
  have hs6 := ho6.sl
  obtain ⟨p6, cap6, e6⟩ := ho6.isSlice
  rw [← HAP.out] at hs6 e6
  rw [rowsP_len] at e6
  subst e6
  clear ho6 hg6 hv6 ho5 hg5 hv5 b5
  (with_reducible refine (HP2.out _ _ _ hs6).mono ?_)
  rintro e w7 ⟨rfl, hb7⟩
  have b7 := b6.trans (hb7.mono b6.size)
  clear b6 hb7 hs6
  rcases HX.out with ⟨rfl, rfl, rfl, hz2, hs0, hs1, hap⟩ | ⟨rfl, rfl, rfl⟩ | ⟨rfl, rfl, rfl, rfl⟩
  · have e8 : ((sizeP l : Int) + (sizeP k : Int) + 7) / 8 = (s2.size : Int) := by omega
    have i0' : (sizeP l : Int) ≤ 4800 := by omega
    have i1' : (sizeP k : Int) ≤ 4800 := by omega
    have hadd : ∀ w, (Op.stringOp .add s0 s1).run Try.prog w = .ok (.string (s0 ++ s1)) w := fun w => run_string_add_sum _ _ _ (by omega)
    by_cases h8 : sizeP l % 8 = 0
    · have hm : (sizeP l : Int) % 8 = 0 := by omega
      have ht := txt_eq (hap h8)
      clear hap hz2 h8 z0 z1
      have HM := Lib.hid hm
      go_wp2_with fail
      (with_reducible refine (HZ0.out _ (HSL.out.below b7)).mono ?_)
      rintro e w8 ⟨rfl, hb8⟩
      have b8 := b7.trans (hb8.mono b7.size)
      go_wp2_with fail
      (with_reducible refine (HZ1.out _ (HSK.out.below b8)).mono ?_)
      rintro e w9 ⟨rfl, hb9⟩
      have b9 := b8.trans (hb9.mono b8.size)
      go_wp2_with fail
      (with_reducible refine (HZ0.out _ (HSL.out.below b9)).mono ?_)
      rintro e w10 ⟨rfl, hb10⟩
      have b10 := b9.trans (hb10.mono b9.size)
      go_wp2
      go_ret
      exact ⟨rfl, b10⟩
    · obtain ⟨m, hm⟩ : ∃ m : Nat, (sizeP l : Int) % 8 = (m : Int) ∧ m ≠ 0 := ⟨sizeP l % 8, by omega, h8⟩
      obtain ⟨hm, hm0⟩ := hm
      have hne : ((m : Int) != 0) = true := by simp; omega
      have hne2 : ((m : Int) == 0) = false := by simp; omega
      clear hap hz2 h8 z0 z1 hm0
      go_wp2_with fail
      (with_reducible refine (HZ0.out _ (HSL.out.below b7)).mono ?_)
      rintro e w8 ⟨rfl, hb8⟩
      have b8 := b7.trans (hb8.mono b7.size)
      go_wp2_with fail
      (with_reducible refine (HZ1.out _ (HSK.out.below b8)).mono ?_)
      rintro e w9 ⟨rfl, hb9⟩
      have b9 := b8.trans (hb9.mono b8.size)
      go_wp2_with fail
      (with_reducible refine (HZ0.out _ (HSL.out.below b9)).mono ?_)
      rintro e w10 ⟨rfl, hb10⟩
      have b10 := b9.trans (hb10.mono b9.size)
      go_wp2
      go_ret
      exact ⟨rfl, b10⟩
  · go_wp2
    go_ret
    exact ⟨rfl, b7⟩
  · go_wp2
    go_ret
    exact ⟨rfl, b7⟩

set_option maxRecDepth 100000 in
theorem lifted (os : Os) (started : os.Started) (H : Type) (enc : TypeId × Value → H) :
    ReturnsInHanded {} Try.checked os 6 .any (Rows.bitioPartsSpec.pre6 enc Try.prog Try.f6 Rows.bitioPartsRow.domain false) (Rows.bitioPartsSpec.post enc Try.prog Try.f6 false true false false) := by
  refine returnsInHanded_of_change (C := Try.checked) own started (by kernel_rfl) Try.func6
    (ChangeSpec.witness6 (enc := enc) (C := Try.checked) false ⟨#[], #[.slice none 0 0, .slice none 0 0], []⟩ 8 (by kernel_rfl) (by kernel_rfl) (by kernel_rfl) (by kernel_rfl)) ?_
  intro W base args ds gs before hval0 hW hcnd _
  have hval : ∀ (j : Nat) t v, Try.f6.params[j]? = some t → args[j]? = some v → Value.okWide Try.prog W .any base t v := hval0
  have hW' := hW
  obtain ⟨p, q, hA0, hV, rfl, hfz, hnd⟩ := hW
  have hA : DataW.TrodAll enc Try.prog W 0 (fun _ => true) true Try.f6.params.toList args.toList ds p := hA0
  rw [Try.params6] at hA hval
  obtain ⟨v0, vs0, d0, ds0, p0, q0, hargs, rfl, rfl, h0, r0⟩ := trodAll_cons hA
  obtain ⟨v1, vs1, d1, ds1, p1, q1, rfl, rfl, rfl, h1, r1⟩ := trodAll_cons r0
  obtain ⟨rfl, rfl, rfl⟩ := trodAll_nil r1
  obtain rfl : args = #[v0, v1] := by cases args; simp_all
  obtain ⟨rfl, rfl⟩ := trodVars_none hV
  have k0 := h0
  have lt0 : ∀ x ∈ p0, x.block < W.heap.size := by obtain ⟨m, hm⟩ := k0; exact DataW.trod_lt m _ _ _ hm
  obtain ⟨a0, m0, c0, rfl⟩ := Go.WideShapes.okWide_slice Try.underlying22 (hval 0 22 v0 rfl rfl)
  obtain ⟨l0, rfl, S0, n0⟩ := open_pieces2 h0
  have k1 := h1
  have lt1 : ∀ x ∈ p1, x.block < W.heap.size := by obtain ⟨m, hm⟩ := k1; exact DataW.trod_lt m _ _ _ hm
  obtain ⟨a1, m1, c1, rfl⟩ := Go.WideShapes.okWide_slice Try.underlying22 (hval 1 22 v1 rfl rfl)
  obtain ⟨l1, rfl, S1, n1⟩ := open_pieces2 h1
  clear hA0 hval0
  simp only [List.append_nil] at hW'
  refine (walk l0 a0 c0 l1 a1 c1 n0 n1 W S0 S1).mono fun e W' ⟨he, bel⟩ => ?_
  subst he
  exact ⟨_, rfl, _, _, _, [], _, [], hW', trodAll_mk1 (shut_bool Try.underlying4 _), (trodAll_cons_mk (Below.trod laidOut (by kernel_rfl) (of_decide_eq_true (by kernel_rfl)) k0 bel lt0) (trodAll_cons_mk (Below.trod laidOut (by kernel_rfl) (of_decide_eq_true (by kernel_rfl)) k1 bel lt1) trodAll_mk0)), rfl, bel.frame _, fun h => by cases h⟩

theorem over : Rows.bitioPartsRow.holds Try.pinned (OpenSpec.ofChange Rows.bitioPartsSpec) :=
  OpenClaim.holds_of_wide 6 Try.f6 rfl rfl rfl rfl rfl rfl rfl ⟨rfl, rfl, rfl, rfl, rfl⟩ rfl rfl rfl rfl rfl (by kernel_rfl) Try.func6 (by kernel_rfl)
    (of_decide_eq_true (by kernel_rfl)) (by unfold Func.isWrapper; first | (rw [if_pos (by decide +kernel)]; kernel_rfl) | (rw [if_neg (by decide +kernel)]; exact ⟨rfl, rfl⟩))
    (fun os started H enc _ => lifted os started H enc)

theorem proved : Rows.BitioPartsSaid :=
  over
#print axioms proved
end Go.Proofs.Ytpjfafefgmjmfaa.bitioParts
