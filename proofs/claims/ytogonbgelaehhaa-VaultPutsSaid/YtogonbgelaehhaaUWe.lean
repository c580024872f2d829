/- The library's Index and Contains of hashes (stage 17). -/
import Derived.Test.YtogonbgelaehhaaUWa
import Derived.Test.YtogonbgelaehhaaURfI
import Derived.Lib.SliceRun
import Derived.Test.YtogonbgelaehhaaUGd
import Derived.Test.YtogonbgelaehhaaHSm
import Derived.Test.YtogonbgelaehhaaUGc
import Derived.Test.YtogonbgelaehhaaUWd
namespace Go.Proofs.Ytogonbgelaehhaa
open Go.RowKit
set_option linter.unusedVariables false

set_option maxRecDepth 100000 in
set_option maxHeartbeats 1000000 in
theorem u_indexH (LU : List (List Nat)) (X : List Nat) (p : Option Addr) (c : Nat) (w : World) (hl : LU.length ≤ 2000000) (hX : X.length = 32) (hh : ∀ z ∈ LU, z.length = 32) (hS : Sl w 32 (.slice p LU.length c) (rowsH LU)) :
    Calls Try.prog 39 #[.slice p LU.length c, .agg (rowH X).toArray] w fun e w' => ∃ r : Int, e = .returned (.int .i64 r) ∧ decide (0 ≤ r) = decide (X ∈ LU) ∧ Below w.heap.size w w' := by
  obtain ⟨N, hN⟩ : ∃ N, w.heap.size = N := ⟨_, rfl⟩
  have hrl : (rowH X).length = 32 := rowH_len hX
  have n0 := Blk.newAt w N hN 64 (c := (rowH X).toArray) (rowH X) rfl
  have kb := (Below.refl w.heap.size w).alloc (Nat.le_refl _) (.cells (rowH X).toArray 64)
  have HS := Lib.hid (hS.below kb)
  have N0 := Lib.hid n0
  have KB := Lib.hid kb
  have HX := Lib.hid hX
  have HH := Lib.hid hh
  have HRL : Hid ((Try.prog.info? 64).map (·.size) = some (rowH X).length) := Lib.hid (by rw [size_hashV, hrl])
  clear hS n0 kb hX hh hrl
  go_enter Try.func39, Try.ntmps39
  go_wp2
  generalize w.alloc (.cells (rowH X).toArray 64) = w1 at *
  go_loopw [5, 8] (fun _ i wr => ∃ k : Nat, k ≤ LU.length ∧ i = .int .i64 (k : Int) ∧ X ∉ LU.take k ∧ Below w1.heap.size w1 wr) (fun _ i _ => LU.length - (intOf i).toNat)
  case atStart => exact ⟨0, by omega, rfl, by simp, Below.refl _ _⟩
  case round =>
    obtain ⟨k, hk, rfl, hn, gb⟩ := hrel
    have HN := Lib.hid hn
    have GB := Lib.hid gb
    clear hn gb
    by_cases hkt : k < LU.length
    · have dk : (k : Int) < (LU.length : Int) := by omega
      have hys := HH.out (LU.getD k []) (getD_memH hkt)
      obtain ⟨eq, heq⟩ : ∃ eq : Bool, (nn X == nn (LU.getD k [])) = eq := ⟨_, rfl⟩
      have heq' : (nn (LU.getD k []) == nn X) = eq := by rw [← heq]; exact Bool.beq_comm
      have hmt := mem_takeS hkt eq heq'
      rw [decide_eq_false HN.out, Bool.false_or] at hmt
      have hne := eqb_hash X (LU.getD k []) HX.out hys eq heq
      obtain ⟨a4, rfl, _⟩ := (HS.out.below GB.out).row (rowsH_at hkt)
      have R0 : Hid (∀ wx, (∃ m, wx = wr.drewN m) → ∀ i v, (rowH (LU.getD k []))[i]? = some v → wx.cell? ((a4.add (k * 32)).add i) = some v) := Lib.hid fun wx hx => by
        obtain ⟨q, rfl⟩ := hx
        obtain ⟨a', e, hc⟩ := ((HS.out.below GB.out).below (below_drewN (Below.refl _ _) q)).row (rowsH_at hkt)
        cases e
        exact hc
      have R1 : Hid (∀ wx, (∃ m, wx = wr.drewN m) → ∀ i v, (rowH X)[i]? = some v → wx.cell? ((⟨N, 0, none⟩ : Addr).add i) = some v) := Lib.hid fun wx hx i v hv => by
        obtain ⟨q, rfl⟩ := hx
        rw [Addr.add_mid, Nat.zero_add]
        exact ((N0.out.below GB.out N0.out.lt).drewN q).cellOf hv
      have hyl : (Try.prog.info? 64).map (·.size) = some (rowH (LU.getD k [])).length := by rw [size_hashV, rowH_len hys]
      have HYL := Lib.hid hyl
      have HMT := Lib.hid hmt
      have HMEM := Lib.hid (getD_memH hkt)
      have HEQ := Lib.hid heq
      clear heq heq' hys hmt hyl
      generalize rowH (LU.getD k []) = Y at *
      go_wp2_with fail
      refine region_drew_tail 5 mixed (by kernel_rfl) ?_
      simp only [List.take_succ_cons, List.take_zero, List.drop_succ_cons, List.drop_zero]
      repeat (first | (refine wpQuiet_load_addr rfl 64 _ rfl (a4.add (k * 32)) rfl Y R0.out Try.underlying64 rfl HYL.out ?_) | (refine wpQuiet_load_addr rfl 64 _ rfl ⟨N, 0, none⟩ rfl (rowH X) R1.out Try.underlying64 rfl HRL.out ?_) | go_big_quiet_step (fail) | (refine wpQuiet_step (fun K' hK' => ?_); go_simp; first | (refine hK' _ ?_; clear hK' K') | (refine ⟨_, fun _ _ => rfl, hK' _ ?_⟩; clear hK' K')))
      refine wpQuiet_nil ?_
      rintro w7 ⟨k7, rfl⟩
      have D7 := Lib.hid (below_drewN GB.out k7)
      cases eq with
      | true =>
        have HIN : Hid (X ∈ LU) := Lib.hid (by
          have : nn X = nn (LU.getD k []) := by simpa using HEQ.out
          rw [nn_inj this]; exact HMEM.out)
        go_wp2
        go_ret
        exact ⟨(k : Int), rfl, by rw [decide_eq_true HIN.out]; simp, KB.out.trans (D7.out.mono KB.out.size)⟩
      | false =>
        have HN2 : Hid (X ∉ LU.take (k + 1)) := Lib.hid (by simpa using HMT.out)
        go_wp2
        go_roundw
        case rel => exact ⟨k + 1, by omega, by go_num, HN2.out, D7.out⟩
        case measure => simp [intOf]; omega
    · obtain rfl : k = LU.length := by omega
      have hn := HN.out
      rw [List.take_length] at hn
      have HN2 := Lib.hid hn
      clear hn
      go_wp2
      go_ret
      exact ⟨-1, rfl, by rw [decide_eq_false HN2.out]; rfl, KB.out.trans (GB.out.mono KB.out.size)⟩
set_option maxRecDepth 100000 in
theorem u_contains (LU : List (List Nat)) (X : List Nat) (p : Option Addr) (c : Nat) (b : Bool) (w : World) (hb : decide (X ∈ LU) = b) (hl : LU.length ≤ 2000000) (hX : X.length = 32) (hh : ∀ z ∈ LU, z.length = 32) (hS : Sl w 32 (.slice p LU.length c) (rowsH LU)) :
    Calls Try.prog 28 #[.slice p LU.length c, .agg (rowH X).toArray] w fun e w' => e = .returned (.bool b) ∧ Below w.heap.size w w' := by
  obtain ⟨N, hN⟩ : ∃ N, w.heap.size = N := ⟨_, rfl⟩
  have hrl : (rowH X).length = 32 := rowH_len hX
  have n0 := Blk.newAt w N hN 64 (c := (rowH X).toArray) (rowH X) rfl
  have kb := (Below.refl w.heap.size w).alloc (Nat.le_refl _) (.cells (rowH X).toArray 64)
  have HC := Lib.hid (u_indexH LU X p c _ hl hX hh (hS.below kb))
  have N0 := Lib.hid n0
  have KB := Lib.hid kb
  have HB := Lib.hid hb
  have HRL : Hid ((Try.prog.info? 64).map (·.size) = some (rowH X).length) := Lib.hid (by rw [size_hashV, hrl])
  clear hS n0 kb hX hh hrl hb hl
  go_enter Try.func28, Try.ntmps28
  go_wp2_with (refine wpList_load_blk rfl 64 _ rfl N rfl N0.out Try.underlying64 rfl HRL.out ?_)
  (with_reducible refine HC.out.mono ?_)
  rintro e w5 ⟨r, rfl, hr, b5⟩
  have hr' : decide ((0 : Int) ≤ r) = b := hr.trans HB.out
  have B5 := Lib.hid (KB.out.trans (b5.mono KB.out.size))
  clear b5 hr
  go_wp2
  go_ret
  exact ⟨rfl, B5.out⟩
end Go.Proofs.Ytogonbgelaehhaa
namespace Go.Proofs.Ytogonbgelaehhaa
open Go.RowKit
set_option linter.unusedVariables false

theorem cell_subL {w w' : World} (hb : Below w.heap.size w w') {a : Addr} {x : Value} (h : w.cell? a = some x) : w'.cell? a = some x := by
  unfold World.cell? at h ⊢
  cases ho : w.heap[a.block]? with
  | none => rw [ho] at h; cases h
  | some o => rw [hb.block _ (lt_of_at ho), ho]; rw [ho] at h; exact h
/-- what is kept -/
def liV (w : World) (B : Nat) (L : List (List Nat)) (ov : Value) (W : World) : Prop := OwnR W (B + 1) 64 32 ov (rowsH (liveU L)) ∧ B < W.heap.size ∧ Below w.heap.size w W
set_option maxRecDepth 100000 in
set_option maxHeartbeats 2000000 in
theorem u_Live (s : StU RawV) (v : Value) (w : World) (hA : StTold w v s) (hg : StS s) :
    Calls Try.prog 17 #[v] w fun e w' => ∃ vo, e = .returned vo ∧ OwnR w' w.heap.size 64 32 vo (rowsH (liveU (blksV s.vers))) ∧ Below w.heap.size w w' := by
  have hn8 : s.vers.length ≤ 8 := hg.1.vers.few
  have ha : ∀ i, i < s.vers.length → (s.vers.getD i noV).ok ∧ (s.vers.getD i noV).bl.length ≤ 1000 := fun i hi => by
    have := versS hg i hi
    exact ⟨this.1, this.2.1⟩
  obtain ⟨i0, hi0, hz0, hz1, hz2⟩ := info_parts2 info_hashQ
  obtain ⟨S, p, c, rfl, hSl, _, sa0, sav⟩ := st_cells hA
  obtain ⟨B, hB⟩ : ∃ B, w.heap.size = B := ⟨_, rfl⟩
  have k0 := Blk.newAt w B hB 42 (c := S.toArray) S rfl
  have kb := (Below.refl w.heap.size w).alloc (Nat.le_refl _) (.cells S.toArray 42)
  have x0 := k0.cellOf sa0
  have INI : Hid (liV w B (blksV (s.vers.take 0)) (.slice none 0 0) (w.alloc (.cells S.toArray 42))) := Lib.hid ⟨OwnR.nil _ _ _ _, k0.lt, kb⟩
  have SAV := Lib.hid sav
  have HA := Lib.hid ha
  have HLN : Hid (∀ i, i ≤ s.vers.length → (blksV (s.vers.take i)).length ≤ i * 1000) := Lib.hid (by
    intro i
    induction i with
    | zero => intro _; simp [blksV]
    | succ i ih =>
      intro hi
      rw [blks_take (by omega), List.length_append]
      have h1 := ih (by omega)
      have h2 := (ha i (by omega)).2
      omega)
  have HHS : Hid (∀ x ∈ blksV s.vers, x.length = 32 ∧ Bys x) := Lib.hid (by
    intro x hx
    obtain ⟨v, hv, hx⟩ := List.mem_flatMap.1 hx
    obtain ⟨i, hi, rfl⟩ := List.getElem_of_mem hv
    have := (ha i hi).1.2.1 x
    rw [List.getD_eq_getElem?_getD, List.getElem?_eq_getElem hi] at this
    exact this hx)
  clear k0 kb sa0 sav ha hA hSl hg
  go_enter Try.func17, Try.ntmps17
  go_wp2
  clear x0
  go_loopw [3, 5, 11] (fun u _ i wr => ∃ j : Nat, j ≤ s.vers.length ∧ i = .int .i64 (j : Int) ∧ liV w B (blksV (s.vers.take j)) u wr) (fun _ _ i _ => s.vers.length - (intOf i).toNat)
  case atStart => exact ⟨0, by omega, rfl, INI.out⟩
  case round =>
    obtain ⟨j, hj, rfl, hO, hK, gb⟩ := hrel
    obtain ⟨pu, cu, rfl⟩ := hO.isSlice
    clear INI
    have HO := Lib.hid hO
    have HK := Lib.hid hK
    have GB := Lib.hid gb
    clear hO hK gb
    by_cases hlt : j < s.vers.length
    · have dj : (j : Int) < (s.vers.length : Int) := by omega
      have hat := SAV.out.at hlt
      obtain ⟨ad, q, rfl, _, hVq, hq4, hcellw⟩ := hat
      have hcell : ∀ i x, q[i]? = some x → wr.cell? ((ad.add (j * 4)).add i) = some x := fun i x hx => cell_subL GB.out (hcellw i x hx)
      obtain ⟨vb, vn, vz, eq, ⟨pb, cb, rfl⟩, ⟨pn, cn, rfl⟩, ⟨pz, cz, rfl⟩, sbl, _, _⟩ := hVq
      have eq' : q = cellsV (s.vers.getD j noV).id (.slice pb (s.vers.getD j noV).bl.length cb) (.slice pn (s.vers.getD j noV).ns.length cn) (.slice pz (s.vers.getD j noV).zs.length cz) := by
        have := congrArg (fun v => match v with | Value.agg c => c.toList | _ => []) eq
        simpa using this
      have hone : q.toArray.all (·.oneCell') = true := by rw [eq']; exact cellsV_one _ _ _ _ _ _ _ _ _ _
      have HBT : Hid (blksV (s.vers.take (j + 1)) = blksV (s.vers.take j) ++ (s.vers.getD j noV).bl) := Lib.hid (blks_take hlt)
      have HBO : Hid (HashL (s.vers.getD j noV).bl ∧ (s.vers.getD j noV).bl.length ≤ 1000) := Lib.hid ⟨(HA.out j hlt).1.2.1, (HA.out j hlt).2⟩
      obtain ⟨N0, hN0⟩ : ∃ N0, wr.heap.size = N0 := ⟨_, rfl⟩
      have y0 := Blk.newAt wr N0 hN0 28 (c := zV.toArray) zV rfl
      have y1 := y0.row q (by rw [hq4]; rfl)
      have bw : Below wr.heap.size wr ((wr.alloc (.cells zV.toArray 28)).setRow N0 q.toArray) := below_setRow ((Below.refl _ _).alloc (Nat.le_refl _) _) (by omega) _
      have x1 := y1.cellOf (j := 1) (x := .slice pb (s.vers.getD j noV).bl.length cb) (by rw [eq']; rfl)
      have SBL := Lib.hid sbl
      have HO2 := Lib.hid (HO.out.keep bw)
      have HK2 : Hid (B < ((wr.alloc (.cells zV.toArray 28)).setRow N0 q.toArray).heap.size) := Lib.hid (Nat.lt_of_lt_of_le HK.out bw.size)
      have GB2 := Lib.hid (GB.out.trans (bw.mono GB.out.size))
      have HCL := Lib.hid hcell
      have HQ4 := Lib.hid hq4
      have HON := Lib.hid hone
      have Y0 := Lib.hid y0
      have HNN := Lib.hid hN0
      generalize (s.vers.getD j noV).bl = BL at *
      have hBLl := HBO.out.2
      clear hcell hcellw hq4 eq eq' hone sbl hN0 y0 y1 bw HO HK GB
      go_upto_region 5 with (first | (refine wpList_load_addr rfl 28 _ rfl (ad.add (j * 4)) rfl q HCL.out Try.underlying28 rfl (by rw [size_ver, HQ4.out]) ?_) | (refine wpList_alloc_n rfl 28 rfl N0 HNN.out _ (alloc_ver _) ?_) | (refine wpList_store_blk rfl 28 _ _ rfl N0 q rfl rfl Y0.out (by rw [size_ver, HQ4.out]) (by rw [HQ4.out]; rfl) HON.out ?_))
      clear Y0 HNN HCL
      generalize (wr.alloc (.cells zV.toArray 28)).setRow N0 q.toArray = wa at *
      go_wp2
      clear x1
      go_loopw [3, 7, 18] (fun u _ k wx => ∃ m : Nat, m ≤ BL.length ∧ k = .int .i64 (m : Int) ∧ liV w B (blksV (s.vers.take j) ++ BL.take m) u wx) (fun _ _ k _ => BL.length - (intOf k).toNat)
      case atStart => exact ⟨0, by omega, rfl, by simpa using ⟨HO2.out, HK2.out, GB2.out⟩⟩
      case round =>
        obtain ⟨m, hm, rfl, hO, hK, gb⟩ := hrel
        obtain ⟨pu2, cu2, rfl⟩ := hO.isSlice
        clear HO2 HK2 GB2
        have HO := Lib.hid hO
        have HK := Lib.hid hK
        have GB := Lib.hid gb
        clear hO hK gb
        by_cases hmt : m < BL.length
        · have dm : (m : Int) < (BL.length : Int) := by omega
          have hxs := HBO.out.1 (BL.getD m []) (getD_memH hmt)
          obtain ⟨a3, rfl, hc3⟩ := (SBL.out.below GB.out).row (rowsH_at hmt)
          have hpre := hash_take hmt
          have hlb := HBO.out.2
          have hll : (liveU (blksV (s.vers.take j) ++ BL.take m)).length ≤ 1001000 := by
            refine Nat.le_trans (live_len _) ?_
            rw [List.length_append, List.length_take]
            have := HLN.out j (by omega)
            omega
          have hhs : ∀ z ∈ liveU (blksV (s.vers.take j) ++ BL.take m), z.length = 32 ∧ Bys z := live_all _ (fun z hz => by
            rcases List.mem_append.1 hz with hz | hz
            · obtain ⟨v, hv, hz⟩ := List.mem_flatMap.1 hz
              exact HHS.out z (List.mem_flatMap.2 ⟨v, List.mem_of_mem_take hv, hz⟩)
            · exact HBO.out.1 z (List.mem_of_mem_take hz))
          have hnext : liveU (blksV (s.vers.take j) ++ BL.take (m + 1)) = liveStep (liveU (blksV (s.vers.take j) ++ BL.take m)) (BL.getD m []) := by rw [hpre, ← List.append_assoc, live_snoc]
          have HNX := Lib.hid hnext
          have HLL := Lib.hid hll
          have HHQ := Lib.hid hhs
          have HXS := Lib.hid hxs
          have HC3 := Lib.hid hc3
          clear hxs hc3 hpre hlb hll hhs hnext
          unfold liV
          generalize liveU (blksV (s.vers.take j) ++ BL.take m) = LU at *
          generalize BL.getD m [] = X at *
          obtain ⟨N, hN⟩ : ∃ N, wr.heap.size = N := ⟨_, rfl⟩
          have hrl : (rowH X).length = 32 := rowH_len HXS.out.1
          have hr1 := rowH_one X
          have n0 := Blk.newAt wr N hN 64 (c := zHQ.toArray) (zHQ) rfl
          have hba := (Below.refl wr.heap.size wr).alloc (Nat.le_refl _) (.cells zHQ.toArray 64)
          have hbw : Below wr.heap.size wr ((wr.alloc (.cells zHQ.toArray 64)).setRow N (rowH X).toArray) := below_setRow hba (by omega) _
          have n1 := n0.row (rowH X) (by rw [hrl]; rfl)
          have o1 := HO.out.keep hbw
          have k1 : B < ((wr.alloc (.cells zHQ.toArray 64)).setRow N (rowH X).toArray).heap.size := Nat.lt_of_lt_of_le HK.out hbw.size
          have g1 := GB.out.trans (hbw.mono GB.out.size)
          have hLr : (rowsH LU).length = LU.length := rowsH_len LU
          rw [hLr] at o1 ⊢
          obtain ⟨tb, htb⟩ : ∃ tb, decide (X ∈ LU) = tb := ⟨_, rfl⟩
          have HCT := Lib.hid (u_contains LU X pu2 cu2 tb _ htb (by have := HLL.out; omega) HXS.out.1 (fun z hz => (HHQ.out z hz).1) o1.sl)
          have HN := Lib.hid hN
          have N0' := Lib.hid n0
          have N1 := Lib.hid n1
          have O1 := Lib.hid o1
          have K1 := Lib.hid k1
          have G1 := Lib.hid g1
          have TB := Lib.hid htb
          have HRL : Hid ((Try.prog.info? 64).map (·.size) = some (rowH X).length) := Lib.hid (by rw [size_hashV, hrl])
          have HRZ : Hid ((rowH X).length = (zHQ).length) := Lib.hid (by rw [hrl]; rfl)
          have HR1 := Lib.hid hr1
          clear hr1 n0 hba hbw n1 o1 k1 g1 hN htb hLr hrl HO HK GB
          go_upto_region 8 with (first | (refine wpList_load_addr rfl 64 _ rfl (a3.add (m * 32)) rfl (rowH X) HC3.out Try.underlying64 rfl HRL.out ?_) | (refine wpList_alloc_n rfl 64 rfl N HN.out _ (alloc_hash _) ?_) | (refine wpList_store_blk rfl 64 _ _ rfl N (rowH X) rfl rfl N0'.out HRL.out HRZ.out.symm HR1.out ?_))
          clear N0' HN
          generalize (wr.alloc (.cells zHQ.toArray 64)).setRow N (rowH X).toArray = wb at *
          go_wp2_with (refine wpList_load_blk rfl 64 _ rfl N rfl N1.out Try.underlying64 rfl HRL.out ?_)
          (with_reducible refine HCT.out.mono ?_)
          rintro e w5 ⟨rfl, b5⟩
          have N5 := Lib.hid (N1.out.below b5 N1.out.lt)
          have O5 := Lib.hid (O1.out.keep b5)
          have K5 : Hid (B < w5.heap.size) := Lib.hid (Nat.lt_of_lt_of_le K1.out b5.size)
          have G5 := Lib.hid (G1.out.trans (b5.mono G1.out.size))
          clear b5 N1 O1 K1 G1
          cases tb with
          | true =>
            have HS2 : Hid (liveStep LU X = LU) := Lib.hid (by unfold liveStep; rw [if_pos (by simpa using TB.out)])
            go_wp2
            go_roundw
            case rel => exact ⟨m + 1, by omega, by go_num, by rw [HNX.out, HS2.out]; exact ⟨O5.out, K5.out, G5.out⟩⟩
            case measure => simp [intOf]; omega
          | false =>
            have HS2 : Hid (liveStep LU X = LU ++ [X]) := Lib.hid (by unfold liveStep; rw [if_neg (by simpa using TB.out)])
            obtain ⟨M, hM⟩ : ∃ M, w5.heap.size = M := ⟨_, rfl⟩
            have hba := (Below.refl w5.heap.size w5).alloc (Nat.le_refl _) (.cells (rowH X).toArray 64)
            have sx := sl_one (Blk.new' w5 64 (c := (rowH X).toArray) (rowH X) rfl)
            have hrl : (rowH X).length = 32 := rowH_len HXS.out.1
            rw [hrl, hM] at sx
            have SX := Lib.hid sx
            have HM := Lib.hid hM
            have O3 := Lib.hid (O5.out.alloc (.cells (rowH X).toArray 64))
            have S3 : Hid (B + 1 ≤ (w5.alloc (.cells (rowH X).toArray 64)).heap.size) := Lib.hid (Nat.le_trans K5.out hba.size)
            have G3 := Lib.hid (G5.out.trans (hba.mono G5.out.size))
            have HONE : Hid (∀ r ∈ [rowH X], ∀ u ∈ r, u.oneCell' = true) := Lib.hid fun r hr u hu => by rw [List.mem_singleton.1 hr] at hu; have h1 := HR1.out; rw [← Array.all_toList] at h1; exact List.all_eq_true.1 h1 u hu
            have LEN : Hid ((rowsH LU).length + [rowH X].length ≤ maxLen) := Lib.hid (by rw [rowsH_len, List.length_singleton]; have := HLL.out; unfold maxLen; omega)
            have BY : Hid (((rowsH LU).length + [rowH X].length) * 32 ≤ 140737488355328) := Lib.hid (by rw [rowsH_len, List.length_singleton]; have := HLL.out; omega)
            have HDI : Hid (i0.size = (rowH X).length) := Lib.hid (by rw [hrl]; exact hz1)
            have H32 := Lib.hid hrl
            clear hba sx hrl hM
            go_wp2_with (first
              | (refine wpList_load_blk rfl 64 _ rfl N rfl N5.out Try.underlying64 rfl HRL.out ?_)
              | (refine wpList_buildRow rfl 24 64 _ rfl (rowH X) i0 (.agg zHQ.toArray) M HM.out Try.underlying24 hi0 hz0 HDI.out (by rw [H32.out]; decide) (by rw [H32.out]; decide) (by simp only [List.map_toArray, List.map_cons, List.map_nil]; rfl) ?_)
              | (refine wpList_append_rows rfl _ _ 24 rfl (B + 1) 64 i0 (.agg zHQ.toArray) 32 32 Try.underlying24 hi0 hz0 hz1 hz2 rfl (by decide) _ (rowsH LU) rfl O3.out (.slice (some ⟨M, 0, none⟩) 1 1) [rowH X] rfl SX.out HONE.out LEN.out BY.out S3.out (.inr ⟨_, _, _, rfl⟩) ?_; intro v5 w6 ho5 hg5 hv5; have HO5 := Lib.hid ho5; have HG5 := Lib.hid hg5; clear ho5 hg5 hv5))
            go_roundw
            case rel =>
              have hb5 := (Below.refl (B + 1) _).grown HG5.out S3.out (fun k e => (O3.out.lt k e).1)
              exact ⟨m + 1, by omega, by go_num, by rw [HNX.out, HS2.out, rowsH_snoc]; exact ⟨HO5.out, Nat.lt_of_lt_of_le S3.out HG5.out.size, G3.out.trans (hb5.mono (by omega))⟩⟩
            case measure => simp [intOf]; omega
        · obtain rfl : m = BL.length := by omega
          go_wp2
          go_roundw
          case rel => exact ⟨j + 1, by omega, by go_num, by rw [HBT.out]; have h := HO.out; simp only [List.take_length] at h ⊢; exact ⟨h, HK.out, GB.out⟩⟩
          case measure => simp [intOf]; omega
    · obtain rfl : j = s.vers.length := by omega
      have h := HO.out.lower (show w.heap.size ≤ B + 1 by omega)
      have HW := Lib.hid h
      clear h
      go_wp2
      go_ret
      exact ⟨_, rfl, by have h := HW.out; simp only [List.take_length] at h ⊢; exact h, GB.out⟩
end Go.Proofs.Ytogonbgelaehhaa
namespace Go.Proofs.Ytogonbgelaehhaa
open Go.RowKit
set_option linter.unusedVariables false

set_option maxRecDepth 100000 in
set_option maxHeartbeats 2000000 in
theorem eq_U (x y : List Nat) (p q : Option Addr) (c d : Nat) (b : Bool) (w : World) (hb : decide (x = y) = b) (hl : x.length ≤ 1000000) (hP : Sl w 1 (.slice p x.length c) (rowsU .u32 x)) (hQ : Sl w 1 (.slice q y.length d) (rowsU .u32 y)) :
    Calls Try.prog 29 #[.slice p x.length c, .slice q y.length d] w fun e w' => e = .returned (.bool b) ∧ Below w.heap.size w w' := by
  have HP := Lib.hid hP
  have HQ := Lib.hid hQ
  have HB := Lib.hid hb
  clear hP hQ hb
  by_cases q1 : x.length = y.length
  · have L1 := Lib.hid q1
    rw [← q1] at HQ ⊢
    have g0 : ((x.length : Int) != (x.length : Int)) = false := by simp
    clear q1
    go_enter Try.func29, Try.ntmps29
    go_wp2
    go_loopw [13] (fun i wr => ∃ j : Nat, j ≤ x.length ∧ i = .int .i64 (j : Int) ∧ (∀ k, k < j → x.getD k 0 = y.getD k 0) ∧ Below w.heap.size w wr) (fun i _ => x.length - (intOf i).toNat)
    case atStart => exact ⟨0, by omega, rfl, (fun k h => by omega), Below.refl _ _⟩
    case round =>
      obtain ⟨j, hj, rfl, hf, gb⟩ := hrel
      have HF := Lib.hid hf
      have GB := Lib.hid gb
      clear hf gb
      by_cases hlt : j < x.length
      · have hltb : j < y.length := by rw [← L1.out]; exact hlt
        have dj : (j : Int) < (x.length : Int) := by omega
        obtain ⟨a1, rfl, _⟩ := SlU.cell (HP.out.below GB.out) hlt
        obtain ⟨a2, rfl, _⟩ := SlU.cell (l := y) (j := j) (HQ.out.below GB.out) hltb
        have R0 : Hid (∀ wx, (∃ m, wx = wr.drewN m) → wx.cell? (a1.add j) = some (.int .u32 ((x.getD j 0 : Nat) : Int))) := Lib.hid fun wx hx => by
          obtain ⟨k, rfl⟩ := hx
          obtain ⟨a', e, hc⟩ := SlU.cell (HP.out.below (below_drewN GB.out k)) hlt
          cases e
          exact hc
        have R1 : Hid (∀ wx, (∃ m, wx = wr.drewN m) → wx.cell? (a2.add j) = some (.int .u32 ((y.getD j 0 : Nat) : Int))) := Lib.hid fun wx hx => by
          obtain ⟨k, rfl⟩ := hx
          obtain ⟨a', e, hc⟩ := SlU.cell (HQ.out.below (below_drewN GB.out k)) hltb
          cases e
          exact hc
        obtain ⟨eq, heq⟩ : ∃ eq : Bool, (((x.getD j 0 : Nat) : Int) != ((y.getD j 0 : Nat) : Int)) = eq := ⟨_, rfl⟩
        have HEQ : Hid (eq = false ↔ x.getD j 0 = y.getD j 0) := Lib.hid (by rw [← heq, bne_eq_false_iff_eq]; exact ⟨fun h => by omega, fun h => by omega⟩)
        obtain ⟨X, hX⟩ : ∃ X, x.getD j 0 = X := ⟨_, rfl⟩
        obtain ⟨Y, hY⟩ : ∃ Y, y.getD j 0 = Y := ⟨_, rfl⟩
        rw [hX] at R0 heq
        rw [hY] at R1 heq
        clear hX hY
        go_wp2_with fail
        refine region_drew_tail 8 mixed (by kernel_rfl) ?_
        simp only [List.take_succ_cons, List.take_zero, List.drop_succ_cons, List.drop_zero]
        repeat (first | (refine wpQuiet_load_one rfl 23 _ rfl (a1.add j) rfl _ R0.out Try.underlying23 rfl ?_) | (refine wpQuiet_load_one rfl 23 _ rfl (a2.add j) rfl _ R1.out Try.underlying23 rfl ?_) | go_big_quiet_step (fail) | (refine wpQuiet_step (fun K' hK' => ?_); go_simp; first | (refine hK' _ ?_; clear hK' K') | (refine ⟨_, fun _ _ => rfl, hK' _ ?_⟩; clear hK' K')))
        refine wpQuiet_nil ?_
        rintro w7 ⟨k7, rfl⟩
        have D7 := Lib.hid (below_drewN GB.out k7)
        cases eq with
        | false =>
          have HQ1 := Lib.hid (HEQ.out.1 rfl)
          go_wp2
          go_roundw
          case rel => exact ⟨j + 1, by omega, by go_num, (fun k hk => by
            rcases Nat.lt_or_ge k j with h | h
            · exact HF.out k h
            · obtain rfl : k = j := by omega
              exact HQ1.out), D7.out⟩
          case measure => (simp [intOf]; try omega)
        | true =>
          have HN : Hid (false = b) := Lib.hid (by
            rw [← HB.out]
            symm
            rw [decide_eq_false_iff_not]
            intro h
            have h2 := HEQ.out.2 (by rw [h])
            cases h2)
          go_wp2
          go_ret
          exact ⟨congrArg (fun x => Ending.returned (.bool x)) HN.out, D7.out⟩
      · obtain rfl : j = x.length := by omega
        have HN : Hid (true = b) := Lib.hid (by
          rw [← HB.out]
          symm
          rw [decide_eq_true_eq]
          exact listU_ext L1.out HF.out)
        go_wp2
        go_ret
        exact ⟨congrArg (fun x => Ending.returned (.bool x)) HN.out, GB.out⟩
  · have g0 : ((x.length : Int) != (y.length : Int)) = true := by rw [bne_iff_ne]; omega
    have HN : Hid (false = b) := Lib.hid (by
      rw [← HB.out]
      symm
      rw [decide_eq_false_iff_not]
      intro h
      exact q1 (by rw [h]))
    clear q1
    go_enter Try.func29, Try.ntmps29
    go_wp2
    go_ret
    exact ⟨congrArg (fun x => Ending.returned (.bool x)) HN.out, Below.refl _ _⟩
set_option maxRecDepth 100000 in
set_option maxHeartbeats 2000000 in
theorem u_Same (x y : RepU RawV) (R Q : List Value) (r : Bool) (w : World) (hr : sameR x y = r) (hA : RepOkV w R x) (hB : RepOkV w Q y) (ha : RepS x) (hb : RepS y) :
    Calls Try.prog 20 #[.agg R.toArray, .agg Q.toArray] w fun e w' => e = .returned (.bool r) ∧ Below w.heap.size w w' := by
  obtain ⟨v1, V, rfl, ⟨p, c, rfl⟩, sa, va⟩ := hA
  obtain ⟨v2, U, rfl, ⟨q, d, rfl⟩, sb, vb⟩ := hB
  have hVl := va.len
  have hUl := vb.len
  obtain ⟨B, hBB⟩ : ∃ B, w.heap.size = B := ⟨_, rfl⟩
  obtain ⟨CA, hCA⟩ : ∃ CA : List Value, .int .i64 (x.err : Int) :: .slice p x.ids.length c :: V = CA := ⟨_, rfl⟩
  obtain ⟨CB, hCB⟩ : ∃ CB : List Value, .int .i64 (y.err : Int) :: .slice q y.ids.length d :: U = CB := ⟨_, rfl⟩
  have a0 : CA[0]? = some (.int .i64 (x.err : Int)) := by rw [← hCA]; rfl
  have a1 : CA[1]? = some (.slice p x.ids.length c) := by rw [← hCA]; rfl
  have a2 : ∀ j x, V[j]? = some x → CA[2 + j]? = some x := fun j x h => by rw [← hCA, Nat.add_comm]; exact h
  have b0 : CB[0]? = some (.int .i64 (y.err : Int)) := by rw [← hCB]; rfl
  have b1 : CB[1]? = some (.slice q y.ids.length d) := by rw [← hCB]; rfl
  have b2 : ∀ j x, U[j]? = some x → CB[2 + j]? = some x := fun j x h => by rw [← hCB, Nat.add_comm]; exact h
  rw [hCA, hCB]
  clear hCA hCB
  have k0 := (Blk.newAt w B hBB 39 (c := CA.toArray) CA rfl).alloc (.cells CB.toArray 39)
  have k1 := Blk.newAt (w.alloc (.cells CA.toArray 39)) (B + 1) (by simp [hBB]) 39 (c := CB.toArray) CB rfl
  have kb := ((Below.refl w.heap.size w).alloc (Nat.le_refl _) (.cells CA.toArray 39)).alloc (by simp) (.cells CB.toArray 39)
  have K0 := Lib.hid k0
  have K1 := Lib.hid k1
  have KB := Lib.hid kb
  have HR := Lib.hid hr
  have QU := Lib.hid (fun (t : Bool) (ht : decide (x.ids = y.ids) = t) => eq_U x.ids y.ids p q c d t _ ht (Nat.le_trans ha.1 (by decide)) (sa.below kb) (sb.below kb))
  have hva := ha.2.2
  have hvb := hb.2.2
  have QV := Lib.hid (fun (t : Bool) (ht : sameV x.ver y.ver = t) wx (h : Below w.heap.size w wx) => h_Same x.ver y.ver _ _ t wx ht (va.below h) (vb.below h) hva.1 hvb.1 (Nat.le_trans hva.2.1 (by decide)) (Nat.le_trans hva.2.2.1 (by decide)) (Nat.le_trans hva.2.2.2 (by decide)))
  have A2 := Lib.hid a2
  have B2 := Lib.hid b2
  have HVL := Lib.hid hVl
  have HUL := Lib.hid hUl
  have ca0 := k0.cellOf a0
  have ca1 := k0.cellOf a1
  have cb0 := k1.cellOf b0
  have cb1 := k1.cellOf b1
  clear hr k0 k1 kb a0 a1 a2 b0 b1 b2 sa sb va vb hva hvb hVl hUl ha hb
  by_cases q0 : x.err = y.err
  · have e0 : ((x.err : Int) == (y.err : Int)) = true := by rw [q0]; simp
    by_cases q1 : x.ids = y.ids
    · have QU1 := Lib.hid (QU.out true (decide_eq_true q1))
      have HV : Hid (sameV x.ver y.ver = r) := Lib.hid (by rw [← HR.out]; unfold sameR; rw [decide_eq_true q0, decide_eq_true q1]; simp)
      have QV1 := Lib.hid (QV.out r HV.out)
      clear q0 q1
      go_enter Try.func20, Try.ntmps20
      go_wp2_with fail
      (with_reducible refine QU1.out.mono ?_)
      rintro e w5 ⟨rfl, b5⟩
      have hcA : ∀ i z, V[i]? = some z → w5.cell? ((⟨B, 2, none⟩ : Addr).add i) = some z := fun i z hz => by
        rw [Addr.add_mid, (K0.out.below b5 K0.out.lt).cell]
        exact A2.out i z hz
      have hcB : ∀ i z, U[i]? = some z → w5.cell? ((⟨B + 1, 2, none⟩ : Addr).add i) = some z := fun i z hz => by
        rw [Addr.add_mid, (K1.out.below b5 K1.out.lt).cell]
        exact B2.out i z hz
      have HCA := Lib.hid hcA
      have HCB := Lib.hid hcB
      have B5 := Lib.hid (KB.out.trans (b5.mono KB.out.size))
      have QV2 := Lib.hid (QV1.out w5 B5.out)
      clear ca0 ca1 cb0 cb1 b5 hcA hcB
      go_wp2_with (first | (refine wpList_load_addrV rfl 28 _ rfl ⟨B, 2, none⟩ rfl V HCA.out Try.underlying28 rfl (by rw [size_ver, HVL.out]) ?_) | (refine wpList_load_addrV rfl 28 _ rfl ⟨B + 1, 2, none⟩ rfl U HCB.out Try.underlying28 rfl (by rw [size_ver, HUL.out]) ?_))
      (with_reducible refine QV2.out.mono ?_)
      rintro e w6 ⟨rfl, b6⟩
      have B6 := Lib.hid (B5.out.trans (b6.mono B5.out.size))
      clear b6
      cases r with
      | true =>
        go_wp2
        go_ret
        exact ⟨rfl, B6.out⟩
      | false =>
        go_wp2
        go_ret
        exact ⟨rfl, B6.out⟩
    · have HN := Lib.hid (sameR_no HR.out (fun h => q1 h.2.1))
      have QU1 := Lib.hid (QU.out false (decide_eq_false q1))
      clear q0 q1
      go_enter Try.func20, Try.ntmps20
      go_wp2_with fail
      (with_reducible refine QU1.out.mono ?_)
      rintro e w5 ⟨rfl, b5⟩
      have B5 := Lib.hid (KB.out.trans (b5.mono KB.out.size))
      clear ca0 ca1 cb0 cb1 b5
      go_wp2
      go_ret
      exact ⟨congrArg (fun z => Ending.returned (.bool z)) HN.out, B5.out⟩
  · have HN := Lib.hid (sameR_no HR.out (fun h => q0 h.1))
    have e0 : ((x.err : Int) == (y.err : Int)) = false := by rw [beq_eq_false_iff_ne]; omega
    clear q0
    go_enter Try.func20, Try.ntmps20
    go_wp2
    go_ret
    exact ⟨congrArg (fun z => Ending.returned (.bool z)) HN.out, KB.out⟩
end Go.Proofs.Ytogonbgelaehhaa
namespace Go.Proofs.Ytogonbgelaehhaa
open Go.RowKit
set_option linter.unusedVariables false

theorem theVault : VaultKit where
  do_ := u_Do
  apply := u_Apply
  all := u_All
  live := u_Live
  same := u_Same
end Go.Proofs.Ytogonbgelaehhaa
