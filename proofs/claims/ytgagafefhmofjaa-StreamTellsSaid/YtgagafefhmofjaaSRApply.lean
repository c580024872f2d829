/- Walk of the reference's Apply. -/
import Derived.Test.YtgagafefhmofjaaSRPad
namespace Go.Proofs.Ytgagafefhmofjaa
open Go.RowKit
set_option linter.unusedVariables false

theorem padL_bysR (key nc : List Nat) (n : Nat) : Bys (padL key nc n) := by
  intro j
  by_cases h : j < n
  · unfold padL; rw [map_range_getD _ _ _ h]; exact padF_lt _ _ _
  · rw [List.getD_eq_getElem?_getD, List.getElem?_eq_none (by rw [padL_len]; omega)]; decide
theorem take_snoc (L : List Nat) (j : Nat) (h : j < L.length) : L.take (j + 1) = L.take j ++ [L.getD j 0] := by
  rw [List.take_add_one, List.getElem?_eq_getElem h, List.getD_eq_getElem?_getD, List.getElem?_eq_getElem h]
  rfl

set_option maxRecDepth 100000 in
set_option maxHeartbeats 2000000 in
theorem r_Apply (key nc : List Nat) (s : ByteArray) (w : World) (hk : key.length = 32) (hkb : Bys key) (hn : nc.length = 16) (hnb : Bys nc) (hs : s.size ≤ 65536) :
    Calls Try.prog 21 #[.agg (ints .u8 (nn key)).toArray, .agg (ints .u8 (nn nc)).toArray, .string s] w fun e w' => e = .returned (.string (bs (nn (xrL (sl s) (padF key nc))))) ∧ Below w.heap.size w w' := by
  have hP := fun w => r_Pad key nc s.size w hk hkb hn hnb hs
  have hps : (bs (nn (padL key nc s.size))).size = s.size := by rw [bs_size, nn_length, padL_len]
  have hpg : ∀ j, j < s.size → (sl (bs (nn (padL key nc s.size)))).getD j 0 = padF key nc j := fun j hj => by
    rw [sl_bs (padL_bysR _ _ _)]
    unfold padL
    exact map_range_getD _ _ _ hj
  have hpf := padF_lt key nc
  have hxl := xrL_len (sl s) (padF key nc)
  rw [sl_len] at hxl
  have hxg : ∀ j, j < s.size → (xrL (sl s) (padF key nc)).getD j 0 = (sl s).getD j 0 ^^^ padF key nc j := fun j hj => xrL_getD _ _ _ (by rw [sl_len]; exact hj)
  obtain ⟨R, hR⟩ : ∃ R, xrL (sl s) (padF key nc) = R := ⟨_, rfl⟩
  rw [hR] at hxl hxg ⊢
  generalize bs (nn (padL key nc s.size)) = P at *
  generalize padF key nc = pf at *
  obtain ⟨i0, hi0, hz0, hz1, hz2⟩ := info_parts info_u8
  have HP := Lib.hid hP
  have HPG := Lib.hid hpg
  have HPF := Lib.hid hpf
  have HXL := Lib.hid hxl
  have HXG := Lib.hid hxg
  have HK := Lib.hid hk
  have HN := Lib.hid hn
  have HSB := Lib.hid (sl_bys s)
  have HSZ := Lib.hid hs
  have HPS := Lib.hid hps
  clear hR hP hpg hpf hxl hxg hk hn
  have k0 : Blk ((w.alloc (.cells (ints .u8 (nn key)).toArray 23)).alloc (.cells (ints .u8 (nn nc)).toArray 33)) w.heap.size 23 (ints .u8 (nn key)) := (Blk.new _ _ _).alloc _
  have k1 : Blk ((w.alloc (.cells (ints .u8 (nn key)).toArray 23)).alloc (.cells (ints .u8 (nn nc)).toArray 33)) (w.heap.size + 1) 33 (ints .u8 (nn nc)) := Blk.new2 _ _ _ _ rfl
  have kb : Below w.heap.size w ((w.alloc (.cells (ints .u8 (nn key)).toArray 23)).alloc (.cells (ints .u8 (nn nc)).toArray 33)) := ((Below.refl _ _).alloc (Nat.le_refl _) _).alloc (by simp) _
  go_enter Try.func21, Try.ntmps21
  go_wp2_with (first | (refine wpList_load_blk rfl 23 _ rfl _ rfl k0 Try.underlying23 rfl (by rw [size_hash, ints_length, nn_length, HK.out]) ?_) | (refine wpList_load_blk rfl 33 _ rfl _ rfl k1 Try.underlying33 rfl (by rw [size_r16, ints_length, nn_length, HN.out]) ?_))
  refine (HP.out _).mono ?_
  rintro e w1 ⟨rfl, hb1⟩
  have jb := kb.trans (hb1.mono kb.size)
  clear k0 k1 kb hb1 HP
  go_wp2_with fail
  have qe := Blk.new' w1 5 (c := #[]) (ints .u8 (nn [] ++ [])) rfl
  have qo := OwnB.ofBlk (base := w.heap.size) (cap := 0) [] qe jb.size rfl (Nat.zero_le _)
  have qb := jb.alloc jb.size (.cells #[] 5)
  clear jb qe
  generalize World.alloc w1 (.cells #[] 5) = w3 at *
  generalize w1.heap.size = B8 at *
  obtain ⟨n, hn⟩ : ∃ n, s.size = n := ⟨_, rfl⟩
  have Hn := Lib.hid hn
  rw [hn] at hps ⊢
  have hn6 : n ≤ 65536 := hn ▸ hs
  clear hs
  go_loopw [8, 9] (fun v i wr => ∃ (j : Nat) (p : Option Addr) (cap : Nat), i = .int .i64 (j : Int) ∧ v = .slice p j cap ∧ OwnB wr w.heap.size 5 (.slice p j cap) (nn (R.take j)) ∧ j ≤ n ∧ Below w.heap.size w wr) (fun _ i _ => n - (intOf i).toNat)
  case atStart => exact ⟨0, _, 0, rfl, rfl, qo, by omega, qb⟩
  case round =>
    obtain ⟨j, p, cap, rfl, rfl, go, hj, gb⟩ := hrel
    clear qo qb
    by_cases hlt : j < n
    · have hjs : j < s.size := by rw [hn]; exact hlt
      have hjp : j < P.size := by rw [hps]; exact hlt
      have x1 := fun w => index_sl s .i64 j hjs w
      have x2 := fun w => index_sl P .i64 j hjp w
      rw [HPG.out j hjs] at x2
      have y1 := xor_byte ((sl s).getD j 0) (pf j) (HSB.out j) (HPF.out j)
      have hsn := take_snoc R j (by rw [HXL.out, hn]; exact hlt)
      rw [HXG.out j hjs] at hsn
      have hll : (nn (R.take j)).length = j := by rw [nn_length, List.length_take, HXL.out, hn]; omega
      have HSn := Lib.hid hsn
      clear hsn
      generalize (sl s).getD j 0 ^^^ pf j = y at *
      generalize (sl s).getD j 0 = xv at *
      generalize pf j = pv at *
      obtain ⟨LJ, hLJ⟩ : ∃ L, R.take j = L := ⟨_, rfl⟩
      rw [hLJ] at go hll HSn
      clear hLJ
      have hrow : (wr.alloc (.cells #[.int .u8 (y : Int)] 5)).ownsRow w.heap.size 5 1 (.slice p j cap) j (ints .u8 (nn LJ)) := by
        have := go.alloc (.cells #[.int .u8 (y : Int)] 5)
        unfold OwnB at this
        rw [hll] at this
        exact this
      have hnew : ∀ jj u, [Value.int .u8 (y : Int)][jj]? = some u → (wr.alloc (.cells #[.int .u8 (y : Int)] 5)).cell? ((⟨wr.heap.size, 0, none⟩ : Addr).add jj) = some u := fun jj u h => by
        rw [Addr.add_mid]
        exact (Blk.new' wr 5 [Value.int .u8 (y : Int)] rfl).whole jj u h
      have hone : ∀ u ∈ [Value.int .u8 (y : Int)], u.oneCell' = true := by simp [Value.oneCell']
      have h63 : j + 1 ≤ maxLen := by simp [maxLen]; omega
      have hbyy : (j + 1) * 1 ≤ 140737488355328 := by omega
      have hbs := gb.size
      have hbase : w.heap.size ≤ (wr.alloc (.cells #[.int .u8 (y : Int)] 5)).heap.size := by simp; omega
      have hgl := fun i hi => (go.lt i hi).1
      have kw := gb.alloc hbs (.cells #[.int .u8 (y : Int)] 5)
      have e1 : (j : Int) < (n : Int) := by omega
      have e2 : (j : Int) < 65536 := by omega
      have HRow := Lib.hid hrow
      have HNew := Lib.hid hnew
      have HOne := Lib.hid hone
      have H63 := Lib.hid h63
      have HBY := Lib.hid hbyy
      have HBS := Lib.hid hbase
      have HLL := Lib.hid hll
      have Hgl := Lib.hid hgl
      clear hrow hnew hone h63 hbyy hbase hll gb hgl
      go_wp2_with (at_builtin; refine wpList_append_own_at _ rfl _ _ 52 rfl w.heap.size 5 i0 (.int .u8 0) 1 1 Try.underlying52 hi0 hz0 hz1 hz2 rfl (by decide) _ j _ rfl HRow.out ⟨wr.heap.size, 0, none⟩ 1 1 [.int .u8 (y : Int)] rfl rfl HNew.out HOne.out H63.out HBY.out HBS.out ?_; intro v5 w5 hown5 hg5 hnil5 hat5; obtain ⟨p5, cap5, rfl⟩ := own_slice hown5)
      go_roundw
      case rel =>
        have o5 : OwnB w5 w.heap.size 5 (.slice p5 (j + 1) cap5) (nn (R.take (j + 1))) := by
          rw [HSn.out]
          unfold OwnB
          rw [show nn (LJ ++ [y]) = nn LJ ++ [(y : Int)] by simp [nn], List.length_append, HLL.out, ints_app]
          exact hown5
        exact ⟨j + 1, p5, cap5, by go_num, rfl, o5, by omega, kw.grown hg5 kw.size (fun i hi => Hgl.out i hi)⟩
      case measure => simp [intOf]; omega
    · obtain rfl : j = n := by omega
      have hE : R.take j = R := List.take_of_length_le (by rw [HXL.out, hn]; exact Nat.le_refl _)
      rw [hE] at go
      go_wp2_with (refine wpList_string_own rfl 52 9 5 _ rfl w.heap.size _ _ rfl Try.underlying52 Try.underlying5 Try.underlying9 go ?_)
      go_ret
      exact ⟨rfl, gb⟩
end Go.Proofs.Ytgagafefhmofjaa
