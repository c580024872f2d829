/- Walk of the reference's Live: the blocks that versions name, each once (stage 17). -/
import Derived.Test.YtogonbgelaehhaaUGb
import Derived.Test.YtogonbgelaehhaaG4
namespace Go.Proofs.Ytogonbgelaehhaa
open Go.RowKit
set_option linter.unusedVariables false

def blksV (l : List RawV) : List (List Nat) := l.flatMap (·.bl)
theorem blks_take {l : List RawV} {i : Nat} (h : i < l.length) : blksV (l.take (i + 1)) = blksV (l.take i) ++ (l.getD i noV).bl := by
  unfold blksV
  rw [List.take_succ_eq_append_getElem h, List.flatMap_append, List.getD_eq_getElem?_getD, List.getElem?_eq_getElem h]
  simp
theorem hash_take {l : List (List Nat)} {k : Nat} (h : k < l.length) : l.take (k + 1) = l.take k ++ [l.getD k []] := by
  rw [List.take_succ_eq_append_getElem h, List.getD_eq_getElem?_getD, List.getElem?_eq_getElem h]
  rfl
theorem getD_memH {l : List (List Nat)} {k : Nat} (h : k < l.length) : l.getD k [] ∈ l := by
  rw [List.getD_eq_getElem?_getD, List.getElem?_eq_getElem h]
  exact List.getElem_mem h
/-- a version's blocks, where they lie -/
theorem VsV.bl_at {w : World} {p : Option Addr} {n c : Nat} {l : List RawV} (h : VsV w (.slice p n c) l) {i : Nat} (hi : i < l.length) :
    ∃ (a : Addr) (pb : Option Addr) (cb : Nat), p = some a ∧ a.block < w.heap.size ∧ w.cell? ((a.add (i * 4)).add 1) = some (.slice pb (l.getD i noV).bl.length cb) ∧ Sl w 32 (.slice pb (l.getD i noV).bl.length cb) (rowsH (l.getD i noV).bl) := by
  obtain ⟨a, r, q1, q0, ⟨vb, vn, vz, e, ⟨pb, cb, rfl⟩, ⟨pn, cn, rfl⟩, ⟨pz, cz, rfl⟩, s1, _⟩, _, q3⟩ := h.at hi
  have e' : r = cellsV (l.getD i noV).id (.slice pb (l.getD i noV).bl.length cb) (.slice pn (l.getD i noV).ns.length cn) (.slice pz (l.getD i noV).zs.length cz) := by
    have := congrArg (fun v => match v with | Value.agg c => c.toList | _ => []) e
    simpa using this
  subst e'
  exact ⟨a, pb, cb, q1, q0, q3 1 _ rfl, s1⟩
theorem live_len (l : List (List Nat)) : (liveU l).length ≤ l.length := by
  have : ∀ (l : List (List Nat)) (a : List (List Nat)), (l.foldl liveStep a).length ≤ a.length + l.length := fun l => by
    induction l with
    | nil => exact fun a => Nat.le_refl _
    | cons x l ih =>
      intro a
      have h1 := ih (liveStep a x)
      have h2 : (liveStep a x).length ≤ a.length + 1 := by
        unfold liveStep
        split <;> simp
      simp only [List.foldl_cons, List.length_cons]
      omega
  have h := this l []
  rw [List.length_nil, Nat.zero_add] at h
  exact h
theorem live_all {P : List Nat → Prop} (l : List (List Nat)) (h : ∀ x ∈ l, P x) : ∀ x ∈ liveU l, P x := by
  have : ∀ (l : List (List Nat)) (a : List (List Nat)), (∀ x ∈ l, P x) → (∀ x ∈ a, P x) → ∀ x ∈ l.foldl liveStep a, P x := fun l => by
    induction l with
    | nil => exact fun a _ ha => ha
    | cons y l ih =>
      intro a hl ha
      refine ih _ (fun x hx => hl x (List.mem_cons_of_mem _ hx)) ?_
      intro x hx
      unfold liveStep at hx
      split at hx
      · exact ha x hx
      · rcases List.mem_append.1 hx with hx | hx
        · exact ha x hx
        · rw [List.mem_singleton.1 hx]; exact hl y (List.mem_cons_self ..)
  exact this l [] h (fun x hx => by cases hx)
theorem cell_next {w : World} {A : Addr} {x : Value} (h : w.cell? (A.add 1) = some x) : w.cell? ⟨A.block, A.off + 1, none⟩ = some x := by
  exact h
def zHQ : List Value := rowH (List.replicate 32 0)
theorem alloc_hash (w : World) : (Instr.alloc 64 true (.tuple #[])).run Try.prog w = .ok (.pointer (some ⟨w.heap.size, 0, none⟩)) (w.alloc (.cells zHQ.toArray 64)) := by kernel_rfl
theorem info_hashQ : (Try.prog.info? 64).map (fun i => (i.zero, i.size, i.bytes)) = some (some (.agg zHQ.toArray), 32, 32) := by kernel_rfl
theorem eqb_hash (x y : List Nat) (hx : x.length = 32) (hy : y.length = 32) (b : Bool) (hb : (nn x == nn y) = b) (w : World) : (binOp .eql 64 (.agg (rowH x).toArray) (.agg (rowH y).toArray)).run Try.prog w = .ok (.bool b) w := by
  have h := run_eql_ints (P := Try.prog) w 64 5 32 .u8 Try.underlying64 Try.underlying5 sizeOf_u8 (nn x) (nn y) (by rw [nn_length, hx]) (by rw [nn_length, hy])
  rw [hb] at h
  exact h
theorem mem_takeS {l : List (List Nat)} {x : List Nat} {j : Nat} (h : j < l.length) (e : Bool) (he : (nn (l.getD j []) == nn x) = e) : decide (x ∈ l.take (j + 1)) = (decide (x ∈ l.take j) || e) := by
  have hn : e = decide (l.getD j [] = x) := by
    rw [← he]
    generalize l.getD j [] = y
    by_cases h : y = x
    · simp [h]
    · have : nn y ≠ nn x := fun e => h (nn_inj e)
      simp [h, this]
  rw [hash_take h, hn]
  generalize l.getD j [] = y
  by_cases h1 : x ∈ l.take j
  · simp [h1]
  · by_cases h2 : y = x
    · simp [h2]
    · have h3 : ¬ x = y := fun e => h2 e.symm
      simp [h1, h2, h3]
/-- what is kept -/
def liI (w : World) (B : Nat) (S : List Value) (L : List (List Nat)) (ov : Value) (W : World) : Prop := OwnR W (B + 1) 64 32 ov (rowsH (liveU L)) ∧ Blk W B 46 S ∧ Below w.heap.size w W
set_option maxRecDepth 100000 in
set_option maxHeartbeats 1000000 in
theorem vr_Live (s : StU RawV) (v : Value) (w : World) (hA : StTold w v s) (ha : ∀ i, i < s.vers.length → (s.vers.getD i noV).ok ∧ (s.vers.getD i noV).bl.length ≤ 1000) (hn : s.vers.length ≤ 1000) :
    Calls Try.prog 18 #[v] w fun e w' => ∃ vo, e = .returned vo ∧ OwnR w' w.heap.size 64 32 vo (rowsH (liveU (blksV s.vers))) ∧ Below w.heap.size w w' := by
  obtain ⟨i0, hi0, hz0, hz1, hz2⟩ := info_parts2 info_hashQ
  obtain ⟨S, p, c, rfl, hSl, _, sa0, sav⟩ := st_cells hA
  obtain ⟨B, hB⟩ : ∃ B, w.heap.size = B := ⟨_, rfl⟩
  have k0 := Blk.newAt w B hB 46 (c := S.toArray) S rfl
  have kb := (Below.refl w.heap.size w).alloc (Nat.le_refl _) (.cells S.toArray 46)
  have ko := OwnR.empty (w.alloc (.cells S.toArray 46)) (B + 1) 64 32 (by simp [hB])
  have INI : Hid (liI w B S (blksV (s.vers.take 0)) _ _) := Lib.hid ⟨ko, k0.alloc _, kb.alloc kb.size (.cells #[] 64)⟩
  have SA0 := Lib.hid sa0
  have SAV := Lib.hid sav
  have HA := Lib.hid ha
  have HLN : Hid (∀ i, i ≤ s.vers.length → (blksV (s.vers.take i)).length ≤ i * 1000) := Lib.hid (by
    intro i
    induction i with
    | zero => intro _; simp [blksV]
    | succ i ih =>
      intro hi
      rw [blks_take (by omega), List.length_append]
      have h1 := ih (by omega)
      have h2 := (ha i (by omega)).2
      omega)
  have HHS : Hid (∀ x ∈ blksV s.vers, x.length = 32 ∧ Bys x) := Lib.hid (by
    intro x hx
    obtain ⟨v, hv, hx⟩ := List.mem_flatMap.1 hx
    obtain ⟨i, hi, rfl⟩ := List.getElem_of_mem hv
    have := (ha i hi).1.2.1 x
    rw [List.getD_eq_getElem?_getD, List.getElem?_eq_getElem hi] at this
    exact this hx)
  clear k0 kb ko sa0 sav ha hA hSl
  go_enter Try.func18, Try.ntmps18
  go_wp2
  go_loopw [3, 4] (fun u i wr => ∃ j : Nat, j ≤ s.vers.length ∧ i = .int .i64 (j : Int) ∧ liI w B S (blksV (s.vers.take j)) u wr) (fun _ i _ => s.vers.length - (intOf i).toNat)
  case atStart => exact ⟨0, by omega, rfl, by simpa [hB] using INI.out⟩
  case round =>
    obtain ⟨j, hj, rfl, hO, hK, gb⟩ := hrel
    obtain ⟨pu, cu, rfl⟩ := hO.isSlice
    clear INI
    have HO := Lib.hid hO
    have HK := Lib.hid hK
    have GB := Lib.hid gb
    have x0 := hK.cellOf SA0.out
    clear hO hK gb
    by_cases hlt : j < s.vers.length
    · have dj : (j : Int) < (s.vers.length : Int) := by omega
      obtain ⟨BL, hBL⟩ : ∃ BL, (s.vers.getD j noV).bl = BL := ⟨_, rfl⟩
      have hb0 := SAV.out.bl_at hlt
      obtain ⟨ad, _, _, rfl, _⟩ := hb0
      have HBL : Hid (∀ wx, Below w.heap.size w wx → ∃ pb cb, wx.cell? ((ad.add (j * 4)).add 1) = some (.slice pb BL.length cb) ∧ Sl wx 32 (.slice pb BL.length cb) (rowsH BL)) := Lib.hid fun wx h => by
        have h2 := (SAV.out.below h).bl_at hlt
        obtain ⟨a', pb, cb, e, _, h3, h4⟩ := h2
        cases e
        rw [hBL] at h3 h4
        exact ⟨pb, cb, h3, h4⟩
      have HBO : Hid (HashL BL ∧ BL.length ≤ 1000) := Lib.hid (by rw [← hBL]; exact ⟨(HA.out j hlt).1.2.1, (HA.out j hlt).2⟩)
      have HBT : Hid (blksV (s.vers.take (j + 1)) = blksV (s.vers.take j) ++ BL) := Lib.hid (by rw [← hBL]; exact blks_take hlt)
      clear hBL
      go_wp2
      go_loopw [3, 5] (fun u k wr => ∃ m : Nat, m ≤ BL.length ∧ k = .int .i64 (m : Int) ∧ liI w B S (blksV (s.vers.take j) ++ BL.take m) u wr) (fun _ k _ => BL.length - (intOf k).toNat)
      case atStart => exact ⟨0, by omega, rfl, by simpa using ⟨HO.out, HK.out, GB.out⟩⟩
      case round =>
        obtain ⟨m, hm, rfl, hO, hK, gb⟩ := hrel
        obtain ⟨pu2, cu2, rfl⟩ := hO.isSlice
        clear HO HK GB x0
        have HO := Lib.hid hO
        have HK := Lib.hid hK
        have GB := Lib.hid gb
        have x0 := hK.cellOf SA0.out
        have hbl := HBL.out wr gb
        obtain ⟨pb, cb, x1, hsl⟩ := hbl
        have x3 := cell_next x1
        have HSL := Lib.hid hsl
        clear hO hK gb hsl
        by_cases hmt : m < BL.length
        · have dm : (m : Int) < (BL.length : Int) := by omega
          have hxs := HBO.out.1 (BL.getD m []) (getD_memH hmt)
          obtain ⟨a3, rfl, hc3⟩ := HSL.out.row (rowsH_at hmt)
          have hpre := hash_take hmt
          have hlb := HBO.out.2
          have hll : (liveU (blksV (s.vers.take j) ++ BL.take m)).length ≤ 1001000 := by
            refine Nat.le_trans (live_len _) ?_
            rw [List.length_append, List.length_take]
            have := HLN.out j (by omega)
            have := Nat.mul_le_mul_right 1000 hj
            omega
          have hhs : ∀ z ∈ liveU (blksV (s.vers.take j) ++ BL.take m), z.length = 32 ∧ Bys z := live_all _ (fun z hz => by
            rcases List.mem_append.1 hz with hz | hz
            · obtain ⟨v, hv, hz⟩ := List.mem_flatMap.1 hz
              exact HHS.out z (List.mem_flatMap.2 ⟨v, List.mem_of_mem_take hv, hz⟩)
            · exact HBO.out.1 z (List.mem_of_mem_take hz))
          have hnext : liveU (blksV (s.vers.take j) ++ BL.take (m + 1)) = liveStep (liveU (blksV (s.vers.take j) ++ BL.take m)) (BL.getD m []) := by rw [hpre, ← List.append_assoc, live_snoc]
          have HNX := Lib.hid hnext
          have HLL := Lib.hid hll
          have HHQ := Lib.hid hhs
          have HXS := Lib.hid hxs
          have HC3 := Lib.hid hc3
          clear hxs hc3 hpre hlb hll hhs hnext
          unfold liI
          generalize liveU (blksV (s.vers.take j) ++ BL.take m) = LU at *
          generalize BL.getD m [] = X at *
          obtain ⟨N, hN⟩ : ∃ N, wr.heap.size = N := ⟨_, rfl⟩
          have hrl : (rowH X).length = 32 := rowH_len HXS.out.1
          have hr1 := rowH_one X
          have n0 := Blk.newAt wr N hN 64 (c := zHQ.toArray) (zHQ) rfl
          have hba := (Below.refl wr.heap.size wr).alloc (Nat.le_refl _) (.cells zHQ.toArray 64)
          have n1 := n0.row (rowH X) (by rw [hrl]; rfl)
          have o1 := (HO.out.alloc (.cells zHQ.toArray 64)).rowApart N (rowH X).toArray (fun b e => by have := (HO.out.lt b e).2; omega)
          have hBN : B < N := by have := HK.out.lt; omega
          have k1 := (HK.out.alloc (.cells zHQ.toArray 64)).rowOther (show B ≠ N by omega) (rowH X).toArray
          have g1 := below_setRow (GB.out.trans (hba.mono GB.out.size)) (show w.heap.size ≤ N by omega) (rowH X).toArray
          have HN := Lib.hid hN
          have N0 := Lib.hid n0
          have N1 := Lib.hid n1
          have O1 := Lib.hid o1
          have K1 := Lib.hid k1
          have G1 := Lib.hid g1
          have HRL : Hid ((Try.prog.info? 64).map (·.size) = some (rowH X).length) := Lib.hid (by rw [size_hashV, hrl])
          have HRZ : Hid ((rowH X).length = (zHQ).length) := Lib.hid (by rw [hrl]; rfl)
          have HR1 := Lib.hid hr1
          have HBN := Lib.hid hBN
          clear hrl hr1 n0 hba n1 o1 k1 g1 hN hBN
          go_wp2_with (first | (refine wpList_load_addr rfl 64 _ rfl (a3.add (m * 32)) rfl (rowH X) HC3.out Try.underlying64 rfl HRL.out ?_) | (refine wpList_alloc_n rfl 64 rfl N HN.out _ (alloc_hash _) ?_) | (refine wpList_store_blk rfl 64 _ _ rfl N (rowH X) rfl rfl N0.out HRL.out HRZ.out.symm HR1.out ?_))
          have hLU : (rowsH LU).length ≤ LU.length := Nat.le_of_eq (rowsH_len LU)
          have hBL2 := HBO.out.2
          have hLB : LU.length ≤ 1001000 := HLL.out
          go_loopw [7, 8] (fun th q W => ∃ k : Nat, k ≤ LU.length ∧ q = .int .i64 (k : Int) ∧ th = .bool (decide (X ∈ LU.take k)) ∧ Blk W N 64 (rowH X) ∧ OwnR W (B + 1) 64 32 (.slice pu2 (rowsH LU).length cu2) (rowsH LU) ∧ Blk W B 46 S ∧ Below w.heap.size w W) (fun _ q _ => LU.length - (intOf q).toNat)
          case atStart => exact ⟨0, by omega, rfl, by simp, N1.out, O1.out, K1.out, G1.out⟩
          case round =>
            obtain ⟨k, hk, rfl, hth, bN, oW, bS, gW⟩ := hrel
            obtain ⟨tb, htb⟩ : ∃ tb, decide (X ∈ LU.take k) = tb := ⟨_, rfl⟩
            rw [htb] at hth
            subst hth
            clear N1 O1 K1 G1 N0
            have TB := Lib.hid htb
            have BN := Lib.hid bN
            have OW := Lib.hid oW
            have BS := Lib.hid bS
            have GW := Lib.hid gW
            clear htb bN oW bS gW
            by_cases hkt : k < LU.length
            · have dk : (k : Int) < ((rowsH LU).length : Int) := by rw [rowsH_len]; omega
              have hys := HHQ.out (LU.getD k []) (getD_memH hkt)
              obtain ⟨eq, heq⟩ : ∃ eq : Bool, (nn (LU.getD k []) == nn X) = eq := ⟨_, rfl⟩
              have hmt := mem_takeS hkt eq heq
              rw [TB.out] at hmt
              have HMT := Lib.hid hmt
              cases tb with
              | true =>
                clear heq hys hmt
                go_wp2_with fail
                go_quiet (fail)
                go_wp2
                go_roundw
                case rel => exact ⟨k + 1, by omega, by go_num, by rw [HMT.out]; rfl, BN.out.drewN _, OW.out.keep (below_drewN (Below.refl _ _) _), BS.out.drewN _, below_drewN GW.out _⟩
                case measure => simp [intOf]; omega
              | false =>
                obtain ⟨a4, rfl, _⟩ := OW.out.sl.row (rowsH_at hkt)
                have R0 : Hid (∀ wx, (∃ m, wx = wr.drewN m) → ∀ i v, (rowH (LU.getD k []))[i]? = some v → wx.cell? ((a4.add (k * 32)).add i) = some v) := Lib.hid fun wx hx => by
                  obtain ⟨q, rfl⟩ := hx
                  obtain ⟨a', e, hc⟩ := (OW.out.sl.below (below_drewN (Below.refl _ _) q)).row (rowsH_at hkt)
                  cases e
                  exact hc
                have R1 : Hid (∀ wx, (∃ m, wx = wr.drewN m) → ∀ i v, (rowH X)[i]? = some v → wx.cell? ((⟨N, 0, none⟩ : Addr).add i) = some v) := Lib.hid fun wx hx i v hv => by
                  obtain ⟨q, rfl⟩ := hx
                  rw [Addr.add_mid, Nat.zero_add]
                  exact (BN.out.drewN q).cellOf hv
                have hne := eqb_hash (LU.getD k []) X hys.1 HXS.out.1 eq heq
                have hyl : (Try.prog.info? 64).map (·.size) = some (rowH (LU.getD k [])).length := by rw [size_hashV, rowH_len hys.1]
                have HYL := Lib.hid hyl
                clear heq hys hmt hyl
                generalize rowH (LU.getD k []) = Y at *
                go_wp2_with fail
                refine region_drew_tail 9 mixed (by kernel_rfl) ?_
                simp only [List.take_succ_cons, List.take_zero, List.drop_succ_cons, List.drop_zero]
                repeat (first | (refine wpQuiet_load_addr rfl 64 _ rfl (a4.add (k * 32)) rfl Y R0.out Try.underlying64 rfl HYL.out ?_) | (refine wpQuiet_load_addr rfl 64 _ rfl ⟨N, 0, none⟩ rfl (rowH X) R1.out Try.underlying64 rfl HRL.out ?_) | go_big_quiet_step (fail) | (refine wpQuiet_step (fun K' hK' => ?_); go_simp; first | (refine hK' _ ?_; clear hK' K') | (refine ⟨_, fun _ _ => rfl, hK' _ ?_⟩; clear hK' K')))
                refine wpQuiet_nil ?_
                rintro w7 ⟨k7, rfl⟩
                have D7 := Lib.hid (below_drewN GW.out k7)
                have E0 := Lib.hid (BN.out.drewN k7)
                have E1 := Lib.hid (BS.out.drewN k7)
                have E2 := Lib.hid (OW.out.keep (below_drewN (Below.refl _ _) k7))
                rw [Bool.false_or] at HMT
                go_wp2
                go_roundw
                case rel => exact ⟨k + 1, by omega, by go_num, by rw [HMT.out], E0.out, E2.out, E1.out, D7.out⟩
                case measure => simp [intOf]; omega
            · obtain rfl : k = LU.length := by omega
              rw [List.take_length] at TB
              cases tb with
              | true =>
                have HS2 : Hid (liveStep LU X = LU) := Lib.hid (by unfold liveStep; rw [if_pos (by simpa using TB.out)])
                go_wp2
                go_roundw
                case rel => exact ⟨m + 1, by omega, by go_num, by rw [HNX.out, HS2.out]; exact ⟨OW.out, BS.out, GW.out⟩⟩
                case measure => simp [intOf]; omega
              | false =>
                have HS2 : Hid (liveStep LU X = LU ++ [X]) := Lib.hid (by unfold liveStep; rw [if_neg (by simpa using TB.out)])
                obtain ⟨M, hM⟩ : ∃ M, wr.heap.size = M := ⟨_, rfl⟩
                have hba := (Below.refl wr.heap.size wr).alloc (Nat.le_refl _) (.cells (rowH X).toArray 64)
                have sx := sl_one (Blk.new' wr 64 (c := (rowH X).toArray) (rowH X) rfl)
                have hrl : (rowH X).length = 32 := rowH_len HXS.out.1
                rw [hrl, hM] at sx
                have SX := Lib.hid sx
                have HM := Lib.hid hM
                have O3 := Lib.hid (OW.out.alloc (.cells (rowH X).toArray 64))
                have S3 : Hid (B + 1 ≤ (wr.alloc (.cells (rowH X).toArray 64)).heap.size) := Lib.hid (Nat.le_trans BS.out.lt hba.size)
                have K3 := Lib.hid (BS.out.alloc (.cells (rowH X).toArray 64))
                have G3 := Lib.hid (GW.out.trans (hba.mono GW.out.size))
                have HONE : Hid (∀ r ∈ [rowH X], ∀ u ∈ r, u.oneCell' = true) := Lib.hid fun r hr u hu => by rw [List.mem_singleton.1 hr] at hu; have h1 := HR1.out; rw [← Array.all_toList] at h1; exact List.all_eq_true.1 h1 u hu
                have LEN : Hid ((rowsH LU).length + [rowH X].length ≤ maxLen) := Lib.hid (by rw [rowsH_len, List.length_singleton]; have := HLL.out; unfold maxLen; omega)
                have BY : Hid (((rowsH LU).length + [rowH X].length) * 32 ≤ 140737488355328) := Lib.hid (by rw [rowsH_len, List.length_singleton]; have := HLL.out; omega)
                have HDI : Hid (i0.size = (rowH X).length) := Lib.hid (by rw [hrl]; exact hz1)
                have H32 := Lib.hid hrl
                clear hba sx hrl hM
                go_wp2_with (first
                  | (refine wpList_load_blk rfl 64 _ rfl N rfl BN.out Try.underlying64 rfl HRL.out ?_)
                  | (refine wpList_buildRow rfl 24 64 _ rfl (rowH X) i0 (.agg zHQ.toArray) M HM.out Try.underlying24 hi0 hz0 HDI.out (by rw [H32.out]; decide) (by rw [H32.out]; decide) (by simp only [List.map_toArray, List.map_cons, List.map_nil]; rfl) ?_)
                  | (refine wpList_append_rows rfl _ _ 24 rfl (B + 1) 64 i0 (.agg zHQ.toArray) 32 32 Try.underlying24 hi0 hz0 hz1 hz2 rfl (by decide) _ (rowsH LU) rfl O3.out (.slice (some ⟨M, 0, none⟩) 1 1) [rowH X] rfl SX.out HONE.out LEN.out BY.out S3.out (.inr ⟨_, _, _, rfl⟩) ?_; intro v5 w5 ho5 hg5 hv5; have HO5 := Lib.hid ho5; have HG5 := Lib.hid hg5; clear ho5 hg5 hv5))
                go_roundw
                case rel =>
                  have hb5 := (Below.refl (B + 1) _).grown HG5.out S3.out (fun k e => (O3.out.lt k e).1)
                  exact ⟨m + 1, by omega, by go_num, by rw [HNX.out, HS2.out, rowsH_snoc]; exact ⟨HO5.out, K3.out.below hb5 (by omega), G3.out.trans (hb5.mono (by omega))⟩⟩
                case measure => simp [intOf]; omega
        · obtain rfl : m = BL.length := by omega
          go_wp2
          go_roundw
          case rel => exact ⟨j + 1, by omega, by go_num, by rw [HBT.out]; have h := HO.out; simp only [List.take_length] at h ⊢; exact ⟨h, HK.out, GB.out⟩⟩
          case measure => simp [intOf]; omega
    · obtain rfl : j = s.vers.length := by omega
      have h := HO.out.lower (show w.heap.size ≤ B + 1 by omega)
      have HW := Lib.hid h
      clear h
      go_wp2
      go_ret
      exact ⟨_, rfl, by have h := HW.out; simp only [List.take_length] at h ⊢; exact h, GB.out⟩
end Go.Proofs.Ytogonbgelaehhaa
