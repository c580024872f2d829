/- Walks of the reference's Blocks and May of versions. -/
import Derived.Test.YtahfjfhiejhddaaHRaw
import Derived.Test.YtahfjfhiejhddaaFA
namespace Go.Proofs.Ytahfjfhiejhddaa
open Go.RowKit
set_option linter.unusedVariables false

theorem sumS_snoc (zs : List Int) {j : Nat} (h : j < zs.length) : sumF ((zs.take (j + 1)).map cntS) = sumF ((zs.take j).map cntS) + cntS (zs.getD j 0) := by
  rw [List.take_succ_eq_append_getElem h, List.map_append, sumF_app, List.getD_eq_getElem?_getD, List.getElem?_eq_getElem h]
  simp [sumF]
theorem sumS_le (zs : List Int) (j : Nat) : sumF ((zs.take j).map cntS) ≤ 300 * zs.length := by
  have h1 := sumF_le (l := (zs.take j).map cntS) (n := 300) fun x hx => by
    obtain ⟨z, _, rfl⟩ := List.mem_map.1 hx
    unfold cntS
    split <;> omega
  rw [List.length_map, List.length_take] at h1
  have h2 : 300 * min j zs.length ≤ 300 * zs.length := Nat.mul_le_mul_left _ (by omega)
  omega
set_option maxRecDepth 100000 in
set_option maxHeartbeats 1000000 in
theorem hr_Blocks (zs : List Int) (p : Option Addr) (c : Nat) (w : World) (hl : zs.length ≤ 1000) (hS : Sl w 1 (.slice p zs.length c) (rowsZ zs)) :
    Calls Try.prog 15 #[.slice p zs.length c] w fun e w' => e = .returned (.int .i64 ((blocksH zs : Nat) : Int)) ∧ Below w.heap.size w w' := by
  have HS := Lib.hid hS
  clear hS
  go_enter Try.func15, Try.ntmps15
  go_wp2
  go_loopw [3, 4] (fun u i wr => ∃ j : Nat, j ≤ zs.length ∧ i = .int .i64 (j : Int) ∧ u = .int .i64 ((sumF ((zs.take j).map cntS) : Nat) : Int) ∧ Below w.heap.size w wr) (fun _ i _ => zs.length - (intOf i).toNat)
  case atStart => exact ⟨0, by omega, rfl, rfl, Below.refl _ _⟩
  case round =>
    obtain ⟨j, hj, rfl, rfl, gb⟩ := hrel
    have hle := sumS_le zs j
    by_cases hlt : j < zs.length
    · obtain ⟨a, rfl, c1⟩ := SlZ.cell (HS.out.below gb) hlt
      have d1 : (j : Int) < (zs.length : Int) := by omega
      have HSN := Lib.hid (sumS_snoc zs hlt)
      generalize zs.getD j 0 = z at *
      generalize sumF ((zs.take j).map cntS) = N at *
      by_cases hz : 0 ≤ z ∧ z ≤ 300
      · obtain ⟨k, rfl⟩ : ∃ k : Nat, z = (k : Int) := ⟨z.toNat, by omega⟩
        have g1 : decide ((0 : Int) ≤ (k : Int)) = true := by simp
        have g2 : decide ((k : Int) ≤ 300) = true := by simp; omega
        have E : Hid (sumF ((zs.take (j + 1)).map cntS) = N + k) := Lib.hid (by rw [HSN.out]; unfold cntS; rw [if_pos hz, Int.toNat_natCast])
        clear HSN
        go_wp2
        go_roundw
        case rel => exact ⟨j + 1, by omega, by go_num, by rw [E.out]; go_num, gb⟩
        case measure => simp [intOf]; omega
      · have E : Hid (sumF ((zs.take (j + 1)).map cntS) = N) := Lib.hid (by rw [HSN.out]; unfold cntS; rw [if_neg hz]; rfl)
        clear HSN
        by_cases h0 : 0 ≤ z
        · have g1 : decide ((0 : Int) ≤ z) = true := by simp; exact h0
          have g2 : decide (z ≤ 300) = false := by simp; omega
          clear hz
          go_wp2
          go_roundw
          case rel => exact ⟨j + 1, by omega, by go_num, by rw [E.out], gb⟩
          case measure => simp [intOf]; omega
        · have g1 : decide ((0 : Int) ≤ z) = false := by simp; omega
          clear hz
          go_wp2
          go_roundw
          case rel => exact ⟨j + 1, by omega, by go_num, by rw [E.out], gb⟩
          case measure => simp [intOf]; omega
    · obtain rfl : j = zs.length := by omega
      have hb : blocksH zs = (sumF ((zs.take zs.length).map cntS) + 255) / 256 := by unfold blocksH blkN; rw [List.take_length]
      generalize sumF ((zs.take zs.length).map cntS) = N at *
      have h1 : ((N : Int) + 256 - 1) / 256 = ((blocksH zs : Nat) : Int) := by rw [hb]; omega
      have H1 := Lib.hid h1
      clear hb h1
      go_wp2
      go_ret
      exact ⟨congrArg (fun x => Ending.returned (.int .i64 x)) H1.out, gb⟩
set_option maxRecDepth 100000 in
set_option maxHeartbeats 4000000 in
theorem hr_May (a : RawV) (v : Value) (b : Bool) (w : World) (hb : mayH a.bl.length a.ns a.zs = b) (hV : VV w v a) (hy : ∀ x ∈ a.ns, Bys x) (h1 : a.bl.length ≤ 1000) (h2 : a.ns.length ≤ 1000) (h3 : a.zs.length ≤ 1000) :
    Calls Try.prog 13 #[v] w fun e w' => e = .returned (.bool b) ∧ Below w.heap.size w w' := by
  obtain ⟨vb, vn, vz, rfl, ⟨pb, cb, rfl⟩, ⟨pn, cn, rfl⟩, ⟨pz, cz, rfl⟩, sb, sn, sz⟩ := hV
  obtain ⟨id, bl, ns, zs⟩ := a
  dsimp only at *
  have e0 : (cellsV id (.slice pb bl.length cb) (.slice pn ns.length cn) (.slice pz zs.length cz)).toArray = #[.int .u32 (id : Int), .slice pb bl.length cb, .slice pn ns.length cn, .slice pz zs.length cz] := rfl
  rw [e0]
  have HB := Lib.hid hb
  have HY := Lib.hid hy
  have SN := Lib.hid sn
  have SZ := Lib.hid sz
  have k0 := Blk.new' w 27 (c := #[.int .u32 (id : Int), .slice pb bl.length cb, .slice pn ns.length cn, .slice pz zs.length cz]) (cellsV id (.slice pb bl.length cb) (.slice pn ns.length cn) (.slice pz zs.length cz)) rfl
  have K0 := Lib.hid k0
  have KB := Lib.hid ((Below.refl w.heap.size w).alloc (Nat.le_refl _) (.cells #[.int .u32 (id : Int), .slice pb bl.length cb, .slice pn ns.length cn, .slice pz zs.length cz] 27))
  obtain ⟨B, hB⟩ : ∃ B, w.heap.size = B := ⟨_, rfl⟩
  have HBE := Lib.hid hB
  clear hb hy sn sz k0 e0
  by_cases q1 : 12 < ns.length
  · have g1 : (12 : Int) < (ns.length : Int) := by omega
    have e1 : Hid (false = b) := Lib.hid (by rw [← HB.out, may_long (.inl q1)])
    clear q1 h1 h2 h3
    go_enter Try.func13, Try.ntmps13
    go_wp2
    go_ret
    exact ⟨congrArg (fun x => Ending.returned (.bool x)) e1.out, by first | exact KB.out | (rw [HBE.out] at KB; exact KB.out)⟩
  have g1 : ¬ (12 : Int) < (ns.length : Int) := by omega
  by_cases q2 : ns.length = zs.length
  · have h12 : Hid (ns.length ≤ 12) := Lib.hid (by omega)
    have HL := Lib.hid q2
    rw [← q2] at SZ K0 KB ⊢
    clear q1 q2 h3
    go_enter Try.func13, Try.ntmps13
    go_wp2
    go_loopw [3] (fun i wr => ∃ j : Nat, j ≤ ns.length ∧ i = .int .i64 (j : Int) ∧ (∀ k, k < j → fineH (ns.getD k []) (zs.getD k 0)) ∧ (∀ k, k + 1 < j → ltB (ns.getD k []) (ns.getD (k + 1) []) = true) ∧ Blk wr B 27 (cellsV id (.slice pb bl.length cb) (.slice pn ns.length cn) (.slice pz ns.length cz)) ∧ Below w.heap.size w wr) (fun i _ => ns.length - (intOf i).toNat)
    case atStart => exact ⟨0, by omega, rfl, (fun k h => by omega), (fun k h => by omega), by rw [← HBE.out]; exact K0.out, KB.out⟩
    case round =>
      obtain ⟨j, hj, rfl, hf, hr, bB, gb⟩ := hrel
      have HF := Lib.hid hf
      have HR := Lib.hid hr
      have BB := Lib.hid bB
      have b1 := bB.cell 1
      have b2 := bB.cell 2
      have b3 := bB.cell 3
      simp only [cellsV, List.getElem?_cons_zero, List.getElem?_cons_succ] at b1 b2 b3
      clear hf hr bB K0 KB
      by_cases hlt : j < ns.length
      · obtain ⟨an, rfl, c1⟩ := SlS.cell (SN.out.below gb) hlt
        obtain ⟨az, rfl, c2⟩ := SlZ.cell (l := zs) (j := j) (SZ.out.below gb) (by rw [← HL.out]; exact hlt)
        have d1 : (j : Int) < (ns.length : Int) := by omega
        have BAD := Lib.hid (fun h => (may_bad (nb := bl.length) (j := j) HL.out hlt h).symm.trans HB.out)
        have s1 : (tx (ns.getD j [])).size = (ns.getD j []).length := tx_size _
        unfold fineH at BAD
        rw [← s1] at BAD
        obtain ⟨X, hX⟩ : ∃ X, tx (ns.getD j []) = X := ⟨_, rfl⟩
        obtain ⟨z, hz⟩ : ∃ z, zs.getD j 0 = z := ⟨_, rfl⟩
        rw [hX] at c1 BAD s1
        rw [hz] at c2 BAD
        have S1 := Lib.hid s1
        have HX := Lib.hid hX
        have HZ := Lib.hid hz
        clear s1 hX hz
        by_cases x0 : X.size = 0
        · have t1 := tx_none x0
          have e1 : Hid (false = b) := Lib.hid (BAD.out (by omega))
          clear BAD x0
          go_wp2
          go_quiet (fail)
          go_wp2
          go_ret
          exact ⟨congrArg (fun x => Ending.returned (.bool x)) e1.out, below_drewN gb _⟩
        · have t1 := tx_some x0
          by_cases x1 : 20 < X.size
          · have t2 : (20 : Int) < (X.size : Int) := by omega
            have e1 : Hid (false = b) := Lib.hid (BAD.out (by omega))
            clear BAD x0 x1
            go_wp2
            go_quiet (fail)
            go_wp2
            go_ret
            exact ⟨congrArg (fun x => Ending.returned (.bool x)) e1.out, below_drewN gb _⟩
          · have t2 : decide ((20 : Int) < (X.size : Int)) = false := by simp; omega
            have t2' : decide (20 < X.size) = false := by simp; omega
            by_cases z0 : z < 0
            · have e1 : Hid (false = b) := Lib.hid (BAD.out (by omega))
              clear BAD x0 x1
              go_wp2
              go_quiet (fail)
              go_wp2
              go_ret
              exact ⟨congrArg (fun x => Ending.returned (.bool x)) e1.out, below_drewN gb _⟩
            · have t3 : decide (z < 0) = false := by simp; omega
              by_cases z1 : 300 < z
              · have e1 : Hid (false = b) := Lib.hid (BAD.out (by omega))
                clear BAD x0 x1 z0
                go_wp2
                go_quiet (fail)
                go_wp2
                go_ret
                exact ⟨congrArg (fun x => Ending.returned (.bool x)) e1.out, below_drewN gb _⟩
              · have t4 : decide (300 < z) = false := by simp; omega
                have FINE : Hid (fineH (ns.getD j []) (zs.getD j 0)) := Lib.hid (by unfold fineH; rw [HZ.out]; have := S1.out; omega)
                have FN : Hid (∀ k, k < j + 1 → fineH (ns.getD k []) (zs.getD k 0)) := Lib.hid fun k hk => by
                  by_cases e : k = j
                  · subst e; exact FINE.out
                  · exact HF.out k (by omega)
                clear BAD x0 x1 z0 z1
                by_cases j0 : j = 0
                · have t5 : decide ((0 : Int) < (j : Int)) = false := by simp; omega
                  have t5' : decide (0 < j) = false := by simp; omega
                  clear j0
                  go_wp2
                  go_quiet (fail)
                  go_wp2
                  go_roundw
                  case rel => exact ⟨j + 1, by omega, by go_num, FN.out, (fun k hk => absurd t5' (by simp; omega)), BB.out.below (below_drewN (Below.refl _ _) _) BB.out.lt, below_drewN gb _⟩
                  case measure => simp [intOf]; omega
                · obtain ⟨i, hij⟩ : ∃ i, j = i + 1 := ⟨j - 1, by omega⟩
                  have t5 : decide ((0 : Int) < (j : Int)) = true := by simp; omega
                  have t5n : decide (0 < j) = true := by simp; omega
                  have hsub : (j : Int) - 1 = (i : Int) := by omega
                  obtain ⟨an', ea, c3⟩ := SlS.cell (SN.out.below gb) (j := i) (by omega)
                  cases ea
                  have i1 : (i : Int) < (ns.length : Int) := by omega
                  have hless := less_tx (tx (ns.getD i [])) X
                  rw [sl_tx (HY.out _ (getN_mem (by omega))), ← HX.out, sl_tx (HY.out _ (getN_mem hlt)), HX.out] at hless
                  have HJ := Lib.hid hij
                  have FALLS := Lib.hid (fun h => (may_falls (nb := bl.length) (zs := zs) (j := i) (by omega) h).symm.trans HB.out)
                  have HLS := Lib.hid hless
                  generalize tx (ns.getD i []) = Y at *
                  rw [← hij] at FALLS
                  clear hless j0 hij
                  by_cases hl2 : ltB (ns.getD i []) (ns.getD j []) = true
                  · have t6 : Op.bytesLess Y.toList X.toList = true := by rw [HLS.out]; exact hl2
                    have RN : Hid (∀ k, k + 1 < j + 1 → ltB (ns.getD k []) (ns.getD (k + 1) []) = true) := Lib.hid fun k hk => by
                      have hjj := HJ.out
                      by_cases e : k = i
                      · subst e; rw [← hjj]; exact hl2
                      · exact HR.out k (by omega)
                    clear hl2 HLS FALLS
                    go_wp2
                    go_quiet (fail)
                    go_wp2
                    go_roundw
                    case rel => exact ⟨j + 1, by omega, by go_num, FN.out, RN.out, BB.out.below (below_drewN (Below.refl _ _) _) BB.out.lt, below_drewN gb _⟩
                    case measure => simp [intOf]; omega
                  · have t6 : Op.bytesLess Y.toList X.toList = false := by rw [HLS.out]; simpa using hl2
                    have e1 : Hid (false = b) := Lib.hid (FALLS.out (by simpa using hl2))
                    clear hl2 HLS FALLS
                    go_wp2
                    go_quiet (fail)
                    go_wp2
                    go_ret
                    exact ⟨congrArg (fun x => Ending.returned (.bool x)) e1.out, below_drewN gb _⟩
      · obtain rfl : j = ns.length := by omega
        have hbd := may_end (nb := bl.length) h12.out HL.out HF.out HR.out
        rw [HB.out] at hbd
        have QB := Lib.hid (fun wx (h : NewBut wr wx) => (hr_Blocks zs pz cz wx (by rw [← HL.out]; omega) (by rw [← HL.out]; exact (SZ.out.below gb).below h)).mono fun _ _ ⟨x1, x2⟩ => (⟨x1, h.trans (x2.mono h.size)⟩ : _ ∧ NewBut wr _))
        rw [← HL.out] at QB
        have L1 : Hid (∀ wx, NewBut wr wx → wx.cell? ⟨B, 1, none⟩ = some (.slice pb bl.length cb)) := Lib.hid fun wx h => by
          have := (BB.out.below h BB.out.lt).cell 1
          simpa [cellsV] using this
        have L3 : Hid (∀ wx, NewBut wr wx → wx.cell? ⟨B, 3, none⟩ = some (.slice pz ns.length cz)) := Lib.hid fun wx h => by
          have := (BB.out.below h BB.out.lt).cell 3
          simpa [cellsV] using this
        obtain ⟨M, hM⟩ : ∃ M, blocksH zs = M := ⟨_, rfl⟩
        rw [hM] at hbd QB
        have GB := Lib.hid gb
        clear hM gb hlt HF HR
        go_wp2_with fail
        by_cases hbm : bl.length = M
        · subst hbm
          have e1 : Hid (true = b) := Lib.hid (by rw [hbd]; simp)
          clear hbd
          refine region_quiet_tail (C := NewBut wr) 7 mixed (by kernel_rfl) (show Below _ _ _ from (Below.refl _ _).drew) ?_
          simp only [List.take_succ_cons, List.take_zero, List.drop_succ_cons, List.drop_zero]
          repeat (first | (refine wpQuiet_load_one rfl 23 _ rfl ⟨B, 1, none⟩ rfl _ L1.out Try.underlying23 rfl ?_) | (refine wpQuiet_load_one rfl 25 _ rfl ⟨B, 3, none⟩ rfl _ L3.out Try.underlying25 rfl ?_) | go_big_quiet_step (fail) | (refine wpQuiet_step (fun K' hK' => ?_); go_simp; first | (refine hK' _ ?_; clear hK' K') | (refine ⟨_, fun _ _ => rfl, hK' _ ?_⟩; clear hK' K') | ((with_reducible refine ⟨_, fun wx hx => QB.out wx hx, hK' _ ?_⟩); clear hK' K')))
          refine wpQuiet_nil ?_
          intro w5 hb5
          have G5 := Lib.hid (GB.out.trans (Below.mono hb5 GB.out.size))
          clear hb5
          go_wp2
          go_ret
          exact ⟨congrArg (fun x => Ending.returned (.bool x)) e1.out, G5.out⟩
        · have e1 : Hid (false = b) := Lib.hid (by rw [hbd]; simp [hbm])
          have m1 : ((bl.length : Int) == (M : Int)) = false := by rw [beq_eq_false_iff_ne]; omega
          have m2 : ¬ (bl.length : Int) = (M : Int) := by omega
          clear hbd hbm
          refine region_quiet_tail (C := NewBut wr) 7 mixed (by kernel_rfl) (show Below _ _ _ from (Below.refl _ _).drew) ?_
          simp only [List.take_succ_cons, List.take_zero, List.drop_succ_cons, List.drop_zero]
          repeat (first | (refine wpQuiet_load_one rfl 23 _ rfl ⟨B, 1, none⟩ rfl _ L1.out Try.underlying23 rfl ?_) | (refine wpQuiet_load_one rfl 25 _ rfl ⟨B, 3, none⟩ rfl _ L3.out Try.underlying25 rfl ?_) | go_big_quiet_step (fail) | (refine wpQuiet_step (fun K' hK' => ?_); go_simp; first | (refine hK' _ ?_; clear hK' K') | (refine ⟨_, fun _ _ => rfl, hK' _ ?_⟩; clear hK' K') | ((with_reducible refine ⟨_, fun wx hx => QB.out wx hx, hK' _ ?_⟩); clear hK' K')))
          refine wpQuiet_nil ?_
          intro w5 hb5
          have G5 := Lib.hid (GB.out.trans (Below.mono hb5 GB.out.size))
          clear hb5
          go_wp2
          go_ret
          exact ⟨congrArg (fun x => Ending.returned (.bool x)) e1.out, G5.out⟩
  · have g2 : ((ns.length : Int) != (zs.length : Int)) = true := by rw [bne_iff_ne]; omega
    have g2' : (ns.length : Int) ≠ (zs.length : Int) := by omega
    have e1 : Hid (false = b) := Lib.hid (by rw [← HB.out, may_long (.inr q2)])
    clear q1 q2 h1 h2 h3
    go_enter Try.func13, Try.ntmps13
    go_wp2
    go_ret
    exact ⟨congrArg (fun x => Ending.returned (.bool x)) e1.out, by first | exact KB.out | (rw [HBE.out] at KB; exact KB.out)⟩
end Go.Proofs.Ytahfjfhiejhddaa
