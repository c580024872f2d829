/- Walks of the law's theirs, of the reference's Same, and of the case that each law of window asks. -/
import Derived.Test.YtloncdnnblkpdaaWRef
namespace Go.Proofs.Ytloncdnnblkpdaa
open Go.RowKit
set_option linter.unusedVariables false

theorem rowsT_at {T : List (Nat × Int × Int)} {j : Nat} (h : j < T.length) : (rowsT T)[j]? = some (rowT T[j]) := by simp [rowsT, h]
theorem rowsT_take {T : List (Nat × Int × Int)} {j : Nat} (h : j < T.length) : rowsT (T.take (j + 1)) = rowsT (T.take j) ++ [rowT T[j]] := by
  rw [List.take_succ_eq_append_getElem h, rowsT_snoc]
set_option maxRecDepth 100000 in
set_option maxHeartbeats 2000000 in
theorem l8_theirs (T : List (Nat × Int × Int)) (p : Option Addr) (cap : Nat) (w : World) (hS : Sl w 3 (.slice p T.length cap) (rowsT T)) (hl : T.length ≤ 100000) :
    Calls Try.prog 12 #[.slice p T.length cap] w (OwnRetR 44 3 (rowsT T) w) := by
  obtain ⟨i0, hi0, hz0, hz1, hz2⟩ := info_parts2 info_rt
  have k0 := OwnR.empty w w.heap.size 44 3 (Nat.le_refl _)
  have kb := (Below.refl w.heap.size w).alloc (Nat.le_refl _) (.cells #[] 44)
  have k0 := Lib.hid k0
  have kb := Lib.hid kb
  have HS := Lib.hid hS
  clear hS
  go_enter Try.func12, Try.ntmps12
  go_wp2
  go_loopw [3, 4] (fun l i wr => ∃ (j : Nat) (lv : Value), lv = l ∧ i = .int .i64 (j : Int) ∧ j ≤ T.length ∧ OwnR wr w.heap.size 44 3 lv (rowsT (T.take j)) ∧ Below w.heap.size w wr) (fun _ i _ => T.length - (intOf i).toNat)
  case atStart => exact ⟨0, _, rfl, rfl, by omega, k0.out, kb.out⟩
  case round =>
    obtain ⟨j, lv, rfl, rfl, hj, gO, gb⟩ := hrel
    clear k0 kb
    by_cases hlt : j < T.length
    · have d1 : (j : Int) < (T.length : Int) := by omega
      obtain ⟨a, rfl, hc⟩ := (HS.out.below gb).row (rowsT_at hlt)
      have hsn := rowsT_take hlt
      have htl : (T.take j).length = j := by rw [List.length_take]; omega
      obtain ⟨q1, q2, q3, q4, q5, q6, q7, q8⟩ := tok_more T[j] (Nat.le_of_eq htl) (by omega) gO gb
      obtain ⟨c, n, b, ht⟩ : ∃ c n b, T[j] = (c, n, b) := ⟨_, _, _, rfl⟩
      rw [ht] at hc hsn q1 q2 q3 q4 q5 q6 q7
      have HC := Lib.hid hc
      have HSN := Lib.hid hsn
      have Q1 := Lib.hid q1
      have Q2 := Lib.hid q2
      have Q3 := Lib.hid q3
      have Q4 := Lib.hid q4
      have Q5 := Lib.hid q5
      have Q6 := Lib.hid q6
      have Q7 := Lib.hid q7
      have Q8 := Lib.hid q8
      clear hc hsn htl ht q1 q2 q3 q4 q5 q6 q7 q8 gO gb
      go_wp2_with (first | (refine wpList_load_addr rfl 42 _ rfl _ rfl (rowT (c, n, b)) HC.out Try.underlying42 rfl size_tk ?_; rw [rowT_arr]) | (refine wpList_append_rows rfl _ _ 26 rfl w.heap.size 44 i0 (.agg #[.int .u8 0, .int .i64 0, .int .i64 0]) 3 24 Try.underlying26 hi0 hz0 hz1 hz2 rfl (by decide) _ (rowsT (T.take j)) rfl Q2.out (.slice (some ⟨wr.heap.size, 0, none⟩) 1 1) [rowT (c, n, b)] rfl Q1.out Q4.out Q5.out Q6.out Q7.out (.inr ⟨_, _, _, rfl⟩) ?_; intro v7 w7 ho7 hg7 hv7))
      go_roundw
      case rel => exact ⟨j + 1, v7, rfl, by go_num, by omega, by rw [HSN.out]; exact ho7, Q3.out.grown hg7 Q7.out (fun k e => (Q8.out k e).1)⟩
      case measure => (simp [intOf]; try omega)
    · obtain rfl : j = T.length := by omega
      rw [List.take_length] at gO
      have GO := Lib.hid gO
      have GB := Lib.hid gb
      clear gO gb
      go_wp2
      go_ret
      exact ⟨_, rfl, GO.out, GB.out⟩
/-- a slice of the call's own begins where its block does -/
theorem OwnR.shape {w : World} {base : Nat} {e : TypeId} {k : Nat} {v : Value} {rows : List (List Value)} (h : OwnR w base e k v rows) : ∃ p cap, v = .slice p rows.length cap ∧ ∀ a, p = some a → ∃ g, a = ⟨g, 0, none⟩ := by
  rcases h.2.2 with ⟨hv, hn⟩ | ⟨g, cap, cur, hv, _⟩
  · exact ⟨none, 0, by rw [hv, hn], fun a e => by cases e⟩
  · exact ⟨_, cap, hv, fun a e => ⟨g, (Option.some.inj e).symm⟩⟩
theorem sl_range {w : World} {k : Nat} {g n cap : Nat} {rows : List (List Value)} (h : Sl w k (.slice (some ⟨g, 0, none⟩) n cap) rows) {j : Nat} {r : List Value} (hr : rows[j]? = some r) : w.rangeAt g (j * k) r := by
  obtain ⟨a, e, hc⟩ := h.row hr
  cases e
  intro i x hx
  have := hc i x hx
  rw [Addr.add_mid, Addr.add_mid, Nat.zero_add] at this
  exact this
set_option maxRecDepth 100000 in
set_option maxHeartbeats 2000000 in
theorem r_Same (T : List (Nat × Int × Int)) (p q : Option Addr) (cp cq : Nat) (w : World) (hS : Sl w 3 (.slice p T.length cp) (rowsT T)) (hp : ∀ a, p = some a → ∃ g, a = ⟨g, 0, none⟩) (hQ : Sl w 3 (.slice q T.length cq) (rowsT T)) (hq : ∀ a, q = some a → ∃ g, a = ⟨g, 0, none⟩) (hl : T.length ≤ 100000) :
    Calls Try.prog 11 #[.slice p T.length cp, .slice q T.length cq] w fun e w' => e = .returned (.bool true) ∧ DrW w w' := by
  have HS := Lib.hid hS
  have HQ := Lib.hid hQ
  have HP := Lib.hid hp
  have HQA := Lib.hid hq
  clear hS hQ hp hq
  go_enter Try.func11, Try.ntmps11
  go_wp2
  go_loopw [5] (fun i wr => ∃ j : Nat, j ≤ T.length ∧ i = .int .i64 (j : Int) ∧ DrW w wr) (fun i _ => T.length - (intOf i).toNat)
  case atStart => exact ⟨0, by omega, rfl, DrW.refl _⟩
  case round =>
    obtain ⟨j, hj, rfl, gD⟩ := hrel
    by_cases hlt : j < T.length
    · have d1 : (j : Int) < (T.length : Int) := by omega
      have hS1 := HS.out.below gD.below
      have hQ1 := HQ.out.below gD.below
      obtain ⟨a, rfl, _⟩ := hS1.row (rowsT_at hlt)
      obtain ⟨b, rfl, _⟩ := hQ1.row (rowsT_at hlt)
      obtain ⟨g, rfl⟩ := HP.out a rfl
      obtain ⟨g', rfl⟩ := HQA.out b rfl
      obtain ⟨c, n, m, ht⟩ : ∃ c n m, T[j] = (c, n, m) := ⟨_, _, _, rfl⟩
      have hr1 : ∀ wx, (∃ m, wx = wr.drewN m) → wx.rangeAt g (j * 3) [.int .u8 (c : Int), .int .i64 n, .int .i64 m] := fun wx hx => by
        obtain ⟨k, rfl⟩ := hx
        have := sl_range (hS1.below (below_drewN (Below.refl _ _) k)) (rowsT_at hlt)
        rw [ht] at this
        exact this
      have hr2 : ∀ wx, (∃ m, wx = wr.drewN m) → wx.rangeAt g' (j * 3) [.int .u8 (c : Int), .int .i64 n, .int .i64 m] := fun wx hx => by
        obtain ⟨k, rfl⟩ := hx
        have := sl_range (hQ1.below (below_drewN (Below.refl _ _) k)) (rowsT_at hlt)
        rw [ht] at this
        exact this
      have HR1 := Lib.hid hr1
      have HR2 := Lib.hid hr2
      have GD := Lib.hid gD
      clear hr1 hr2 hS1 hQ1 ht gD
      go_wp2_with fail
      refine region_drew_tail 8 mixed (by kernel_rfl) ?_
      simp only [List.take_succ_cons, List.take_zero, List.drop_succ_cons, List.drop_zero]
      repeat (first | (refine wpQuiet_load_row rfl 44 _ rfl g (j * 3) rfl [.int .u8 (c : Int), .int .i64 n, .int .i64 m] HR1.out Try.underlying44 rfl size_rt ?_) | (refine wpQuiet_load_row rfl 44 _ rfl g' (j * 3) rfl [.int .u8 (c : Int), .int .i64 n, .int .i64 m] HR2.out Try.underlying44 rfl size_rt ?_) | (refine wpQuiet_step (fun K' hK' => ?_); go_simp; first | (refine hK' _ ?_; clear hK' K') | (refine ⟨_, fun _ _ => rfl, hK' _ ?_⟩; clear hK' K')))
      refine wpQuiet_nil ?_
      rintro w7 hd7
      have HD7 : Hid (DrW w w7) := Lib.hid (GD.out.trans hd7)
      clear hd7
      go_wp2
      go_roundw
      case rel => exact ⟨j + 1, by omega, by go_num, HD7.out⟩
      case measure => (simp [intOf]; try omega)
    · obtain rfl : j = T.length := by omega
      have GD := Lib.hid gD
      clear gD
      go_wp2
      go_ret
      exact ⟨rfl, GD.out⟩
theorem split_shown : splitW (sl ⟨#[97, 97, 97, 97]⟩) 4 0 = [(97, 0, 0), (0, 3, 1)] := by decide +kernel
set_option maxRecDepth 100000 in
set_option maxHeartbeats 1000000 in
theorem l8_shown (w : World) :
    Calls Try.prog 8 #[] w fun e w' => e = .returned (.bool true) ∧ Below w.heap.size w w' := by
  have hP := p_Split ⟨#[97, 97, 97, 97]⟩ w (by decide)
  rw [show (⟨#[97, 97, 97, 97]⟩ : ByteArray).size = 4 from rfl, split_shown] at hP
  have HP := Lib.hid hP
  have b1 := build_rt1
  have b2 := build_rt2
  clear hP
  go_enter Try.func8, Try.ntmps8
  go_wp2_with fail
  refine HP.out.mono ?_
  rintro e w1 ⟨v1, rfl, ho1, hb1⟩
  obtain ⟨p1, c1, rfl, hs1⟩ := ho1.shape
  have hT := l8_theirs [(97, 0, 0), (0, 3, 1)] p1 c1 w1 ho1.sl (by decide)
  have HT := Lib.hid hT
  have HB1 := Lib.hid hb1
  clear hT ho1 hs1 hb1 HP
  go_wp2_with fail
  refine HT.out.mono ?_
  rintro e w2 ⟨v2, rfl, ho2, hb2⟩
  obtain ⟨p2, c2, rfl, hs2⟩ := ho2.shape
  have hb3 := HB1.out.trans (hb2.mono HB1.out.size)
  have hb4 := hb3.alloc hb3.size (.cells #[.int .u8 97, .int .i64 0, .int .i64 0, .int .u8 0, .int .i64 3, .int .i64 1] 44)
  have k4 := Blk.new' w2 44 (c := #[.int .u8 97, .int .i64 0, .int .i64 0, .int .u8 0, .int .i64 3, .int .i64 1]) ((rowsT [(97, 0, 0), (0, 3, 1)]).flatten ++ []) rfl
  have s4 := sl_blkS (k := 3) (cap := 2) (fun r hr => by simp [rowsT, rowT] at hr; rcases hr with rfl | rfl <;> rfl) k4
  have hQ := r_Same [(97, 0, 0), (0, 3, 1)] p2 _ c2 2 _ (ho2.alloc _).sl hs2 s4 (fun a e => ⟨_, (Option.some.inj e).symm⟩) (by decide)
  have HQ := Lib.hid hQ
  have HB4 := Lib.hid hb4
  clear hb2 hb3 hb4 k4 s4 hQ ho2 hs2 HB1 HT
  go_wp2_with fail
  refine HQ.out.mono ?_
  rintro e w4 ⟨rfl, hd⟩
  have hb7 := HB4.out.trans (hd.below.mono HB4.out.size)
  go_wp2
  go_ret
  exact ⟨rfl, hb7⟩
end Go.Proofs.Ytloncdnnblkpdaa
