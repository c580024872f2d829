/- Walks of the program's Read and Decode of versions. -/
import Derived.Test.YtahfjfhiejhddaaHRdx
import Derived.Test.YtahfjfhiejhddaaHRDe
namespace Go.Proofs.Ytahfjfhiejhddaa
open Go.RowKit
set_option linter.unusedVariables false

/-- the cells of no reader -/
def zR (s : ByteArray) : List Value := rdrC 0 (.slice none 0 0) (.slice none 0 0) (.slice none 0 0) s 0
theorem build_rdr (s : ByteArray) (w : World) : (Instr.build 69 #[(1, .string s)]).run Try.prog w = .ok (.agg (zR s).toArray) w := by kernel_rfl
theorem alloc_rdr (w : World) : (Instr.alloc 69 true (.tuple #[])).run Try.prog w = .ok (.pointer (some ⟨w.heap.size, 0, none⟩)) (w.alloc (.cells (zR ⟨#[]⟩).toArray 69)) := by kernel_rfl
theorem zR_one (s : ByteArray) : (zR s).toArray.all (·.oneCell') = true := by simp [zR, rdrC, Value.oneCell']
/-- the reader's cells and its slices, without what is below -/
structure RdP (base V : Nat) (wx : World) (i : Nat) (vb vn vz : Value) (bl ns : List (List Nat)) (zs : List Int) (left : ByteArray) (er : Nat) : Prop where
  ver : Blk wx V 69 (rdrC i vb vn vz left er)
  ob : OwnR wx base 44 32 vb (rowsH bl)
  on : OwnR wx base 9 1 vn (rowsS ns)
  oz : OwnR wx base 3 1 vz (rowsZ zs)
theorem RdQ.part {w wx : World} {V i : Nat} {vb vn vz : Value} {bl ns : List (List Nat)} {zs : List Int} {left : ByteArray} {er : Nat} (h : RdQ w V wx i vb vn vz bl ns zs left er) : RdP w.heap.size V wx i vb vn vz bl ns zs left er := ⟨h.ver, h.ob, h.on, h.oz⟩
/-- worlds in which Read's result is written -/
def rrC (w w1 : World) (B V : Nat) (S : RSt) (C : List Value) (vb vn vz : Value) (b : Bool) (W : World) : Prop := RdP w1.heap.size V W S.1.id vb vn vz S.1.bl S.1.ns S.1.zs (tx S.2.1) S.2.2 ∧ Blk W B 27 (if b then C else zV) ∧ Below w.heap.size w W
def reS (V er : Nat) (i : Nat) (v : Value) (W : World) : Prop :=
  match i with
  | 0 => v = .agg zV.toArray
  | 1 => v = .pointer (some ⟨V, 5, none⟩)
  | 2 => v = .int .i64 (er : Int)
  | 4 => v = .string ⟨#[]⟩
  | _ => True
theorem reS_mono {V er : Nat} (i : Nat) (v : Value) (W W' : World) (h : reS V er i v W) : reS V er i v W' :=
  match i with
  | 0 | 1 | 2 | 3 | 4 => h
  | _ + 5 => trivial
def roS (V : Nat) (C : List Value) (r : ByteArray) (i : Nat) (v : Value) (W : World) : Prop :=
  match i with
  | 0 => v = .pointer (some ⟨V, 0, none⟩)
  | 1 => v = .agg C.toArray
  | 2 => v = .pointer (some ⟨V, 4, none⟩)
  | 3 | 5 => v = .string r
  | _ => True
theorem roS_mono {V : Nat} {C : List Value} {r : ByteArray} (i : Nat) (v : Value) (W W' : World) (h : roS V C r i v W) : roS V C r i v W' :=
  match i with
  | 0 | 1 | 2 | 3 | 4 | 5 => h
  | _ + 6 => trivial
set_option maxRecDepth 100000 in
set_option maxHeartbeats 4000000 in
theorem h_Read (s : ByteArray) (T : TellV) (w : World) (hs : s.size ≤ 65536) (hT : tellA (sl s) = T) :
    Calls Try.prog 20 #[.string s] w (RdRet T w) := by
  obtain ⟨B, hB⟩ : ∃ B, w.heap.size = B := ⟨_, rfl⟩
  have HBE := Lib.hid hB
  have m0 := Blk.newAt w B hB 27 (c := zV.toArray) _ rfl
  have b0 := (Below.refl w.heap.size w).alloc (Nat.le_refl _) (.cells zV.toArray 27)
  have z0 : (w.alloc (.cells zV.toArray 27)).heap.size = B + 1 := by simp [hB]
  obtain ⟨w1, hw1⟩ : ∃ w1, w.alloc (.cells zV.toArray 27) = w1 := ⟨_, rfl⟩
  rw [hw1] at m0 b0 z0
  have k1 := Blk.newAt w1 (B + 1) z0 69 (c := (zR ⟨#[]⟩).toArray) _ rfl
  have k2 := k1.row (zR s) rfl
  have b1 := (Below.refl w1.heap.size w1).alloc (Nat.le_refl _) (.cells (zR ⟨#[]⟩).toArray 69)
  have b2 := below_setRow b1 (show w1.heap.size ≤ B + 1 by omega) (zR s).toArray
  have m2 := m0.below b2 m0.lt
  have bw2 := b0.trans (b2.mono b0.size)
  have K1 := Lib.hid k1
  obtain ⟨w2, hw2⟩ : ∃ w2, (w1.alloc (.cells (zR ⟨#[]⟩).toArray 69)).setRow (B + 1) (zR s).toArray = w2 := ⟨_, rfl⟩
  rw [hw2] at k2 b2 m2 bw2
  have HW1 := Lib.hid hw1
  have HW2 := Lib.hid hw2
  have hls : tx (sl s) = s := tx_sl s
  have r2 : RdS w1 (B + 1) w2 (noV, sl s, 0) := ⟨.slice none 0 0, .slice none 0 0, .slice none 0 0, by omega, by show Blk w2 (B + 1) 69 (rdrC 0 (.slice none 0 0) (.slice none 0 0) (.slice none 0 0) (tx (sl s)) 0); rw [hls]; exact k2, OwnR.nil _ _ _ _, OwnR.nil _ _ _ _, OwnR.nil _ _ _ _, b2⟩
  have o2 : RdOk (noV, sl s, 0) 0 := ⟨sl_bys s, by show (sl s).length ≤ 65536; rw [sl_len]; exact hs, Nat.le_refl _, Nat.le_refl _, Nat.le_refl _, fun x hx => by cases hx⟩
  have HA := Lib.hid (m_id r2 o2 (by omega))
  have o3 := ok_I o2
  have HB := Lib.hid (fun wx (h : RdS w1 (B + 1) wx (stI (noV, sl s, 0))) => m_many (most := 16) (one_block w1 (B + 1)) (enters Try.func41 (by kernel_rfl) rfl) h o3 (by decide) (by decide))
  have o4 := ok_M (most := 16) (one_block w1 (B + 1)).1 o3
  have HC := Lib.hid (fun wx (h : RdS w1 (B + 1) wx (stM 16 stB (stI (noV, sl s, 0)))) => m_many (most := 12) (one_file w1 (B + 1)) (enters Try.func42 (by kernel_rfl) rfl) h o4 (by decide) (by decide))
  have o5 := ok_M (most := 12) (one_file w1 (B + 1)).1 o4
  have HD := Lib.hid (fun wx (h : RdS w1 (B + 1) wx (stM 12 stF (stM 16 stB (stI (noV, sl s, 0))))) => m_end h o5 (by decide))
  have hst := st_tell (sl s)
  rw [hT] at hst
  generalize stI (noV, sl s, 0) = S3 at *
  generalize stM 16 stB S3 = S4 at *
  generalize stM 12 stF S4 = S5 at *
  generalize stE S5 = S6 at *
  have HST := Lib.hid hst
  have M2 := Lib.hid m2
  have BW2 := Lib.hid bw2
  have Z1 := Lib.hid z0
  have B0 := Lib.hid b0
  clear m0 k1 b1 b2 k2 m2 bw2 r2 o2 o3 o4 o5 hst hw2 hT hs hls b0
  have HAL : Hid ((Instr.alloc 69 true (.tuple #[])).run Try.prog w1 = .ok (.pointer (some ⟨w1.heap.size, 0, none⟩)) (w1.alloc (.cells (zR ⟨#[]⟩).toArray 69))) := Lib.hid (alloc_rdr w1)
  have hZ1 := zR_one s
  have hZl : (zR s).length = 6 := rfl
  have hZ0 : (zR ⟨#[]⟩).length = 6 := rfl
  have HBU := Lib.hid (fun wx => build_rdr s wx)
  generalize zR ⟨#[]⟩ = Z0 at *
  generalize zR s = ZS at *
  have HZ1 := Lib.hid hZ1
  have HZl := Lib.hid hZl
  have HZ0 := Lib.hid hZ0
  clear hZ1 hZl hZ0
  go_enter Try.func20, Try.ntmps20
  go_wp2_with (first | (refine wpList_alloc_n rfl 27 rfl B hB _ (alloc_ver _) ?_; rw [HW1.out]) | (refine wpList_build_at rfl 69 _ rfl (.agg ZS.toArray) (by simp only [List.map_toArray, List.map_cons, List.map_nil]; exact HBU.out _) ?_) | (refine wpList_alloc_n rfl 69 rfl (B + 1) Z1.out _ HAL.out ?_) | (refine wpList_store_blk rfl 69 _ _ rfl (B + 1) ZS rfl rfl K1.out (by rw [size_rdr, HZl.out]) (by rw [HZl.out, HZ0.out]) HZ1.out ?_; rw [HW2.out]))
  (with_reducible refine HA.out.mono ?_)
  rintro e w3 ⟨rfl, r3, k3⟩
  have R3 := Lib.hid r3
  have K3 := Lib.hid k3
  clear r3 k3 HA
  go_wp2_with fail
  refine (HB.out w3 R3.out).mono ?_
  rintro e w4 ⟨rfl, r4, k4⟩
  have R4 := Lib.hid r4
  have K4 := Lib.hid (K3.out.trans k4)
  clear r4 k4 HB R3 K3
  go_wp2_with fail
  refine (HC.out w4 R4.out).mono ?_
  rintro e w5 ⟨rfl, r5, k5⟩
  have R5 := Lib.hid r5
  have K5 := Lib.hid (K4.out.trans k5)
  clear r5 k5 HC R4 K4
  go_wp2_with fail
  (with_reducible refine (HD.out w5 R5.out).mono ?_)
  rintro e w6 ⟨rfl, r6, k6⟩
  have K6 := Lib.hid (K5.out.trans k6)
  have M6 := Lib.hid (K6.out.2 _ _ _ M2.out (by decide) (by decide) (by decide) (by decide))
  obtain ⟨vb, vn, vz, hq⟩ := r6
  have B6 := Lib.hid (B0.out.trans (hq.bel.mono B0.out.size))
  have HQ := Lib.hid hq
  have c5 := hq.ver.cell 5
  simp only [rdrC, List.getElem?_cons_zero, List.getElem?_cons_succ] at c5
  clear k6 HD R5 K5 K6 hq
  by_cases he : S6.2.2 = 0
  · have hst := HST.out
    unfold stOut at hst
    rw [if_neg (by simpa using he)] at hst
    rw [he] at c5
    have HT := Lib.hid hst
    obtain ⟨C, hC⟩ : ∃ C, cellsV S6.1.id vb vn vz = C := ⟨_, rfl⟩
    have hCl : C.length = 4 := by rw [← hC]; rfl
    have hCo : C.toArray.all (·.oneCell') = true := by
      obtain ⟨p1, c1, q1⟩ := HQ.out.ob.isSlice
      obtain ⟨p2, c2, q2⟩ := HQ.out.on.isSlice
      obtain ⟨p3, c3, q3⟩ := HQ.out.oz.isSlice
      rw [← hC, q1, q2, q3]
      exact cellsV_one _ _ _ _ _ _ _ _ _ _
    have HC := Lib.hid hC
    have HCl := Lib.hid hCl
    have HCo := Lib.hid hCo
    have HC0 : Hid (rrC w w1 B (B + 1) S6 C vb vn vz false w6.drew) := Lib.hid ⟨(HQ.out.keep (Below.refl _ _).drew).part, M6.out.drew, B6.out.drew⟩
    clear hst he hC hCl hCo
    go_wp2_with fail
    refine region_mix 4 6 (by decide) mixed (by kernel_rfl) (by kernel_rfl) (fun u => #[_, _, _, u 5, _, _, _, _, _, _, _, _, _, _, _, _, _, _, _, _, u 0, u 1, u 2, u 3]) [] (fun i => match i with | 5 => _ | _ => undef) rfl
      (rrC w w1 B (B + 1) S6 C vb vn vz) HC0.out (fun _ _ _ => True) (roS (B + 1) C (tx S6.2.1)) ?mono ?step ?one ?last
    case mono => exact fun b i v W W' _ h _ => roS_mono i v W W' h
    case step =>
      intro bb u W i o hi hik _ ho hC hd
      rcases i with _ | _ | _ | _ | _ | _ | i
      all_goals try (simp only [List.getElem?_cons_zero, List.getElem?_cons_succ, Option.some.injEq] at ho; subst ho)
      · go_wp2_with fail
        exact ⟨_, rfl, rfl, hC, trivial⟩
      · have h0 : u 0 = .pointer (some ⟨B + 1, 0, none⟩) := hd ⟨0, .data⟩ (by simp) rfl
        have PA : Hid (∀ j v, C[j]? = some v → W.cell? ((⟨B + 1, 0, none⟩ : Addr).add j) = some v) := Lib.hid fun j v hv => by
          rw [Addr.add_mid, Nat.zero_add, hC.1.ver.cell]
          rw [← HC.out] at hv
          match j, hv with
          | 0, hv => exact hv
          | 1, hv => exact hv
          | 2, hv => exact hv
          | 3, hv => exact hv
          | _ + 4, hv => simp [cellsV] at hv
        rw [h0]
        go_wp2_with (refine wpList_load_addr rfl 27 _ rfl ⟨B + 1, 0, none⟩ rfl C PA.out Try.underlying27 rfl (by rw [size_ver, HCl.out]) ?_)
        exact ⟨_, by simp [upd, h0], rfl, hC, trivial⟩
      · go_wp2_with fail
        exact ⟨_, rfl, rfl, hC, trivial⟩
      · have h0 : u 2 = .pointer (some ⟨B + 1, 4, none⟩) := hd ⟨2, .data⟩ (by simp) rfl
        have c4 := hC.1.ver.cell 4
        simp only [rdrC, List.getElem?_cons_zero, List.getElem?_cons_succ] at c4
        rw [h0]
        go_wp2_with fail
        exact ⟨_, by simp [upd, h0], rfl, hC, trivial⟩
      · omega
      · have h0 : u 3 = .string (tx S6.2.1) := hd ⟨3, .data⟩ (by simp) rfl
        rw [h0]
        go_wp2_with fail
        exact ⟨_, by simp [upd, h0], rfl, hC, trivial⟩
      · omega
    case one =>
      intro u W o ho hC hd
      simp only [List.getElem?_cons_zero, List.getElem?_cons_succ, Option.some.injEq] at ho
      subst ho
      have h0 : u 1 = .agg C.toArray := hd ⟨1, .data⟩ (by simp) rfl
      have hz : Blk W B 27 zV := hC.2.1
      have HZ := Lib.hid hz
      have hlo := hC.1
      have Q1 : Hid (RdP w1.heap.size (B + 1) (W.setRow B C.toArray) S6.1.id vb vn vz S6.1.bl S6.1.ns S6.1.zs (tx S6.2.1) S6.2.2) := Lib.hid
        ⟨hlo.ver.rowOther (by omega) C.toArray, hlo.ob.rowApart B C.toArray (fun b hb => by have := (hlo.ob.lt b hb).1; rw [Z1.out] at this; omega), hlo.on.rowApart B C.toArray (fun b hb => by have := (hlo.on.lt b hb).1; rw [Z1.out] at this; omega), hlo.oz.rowApart B C.toArray (fun b hb => by have := (hlo.oz.lt b hb).1; rw [Z1.out] at this; omega)⟩
      have Q2 := Lib.hid (hz.row C (by rw [HCl.out]; rfl))
      have Q3 := Lib.hid (below_setRow hC.2.2 (show w.heap.size ≤ B by rw [HBE.out]; exact Nat.le_refl _) C.toArray)
      clear hz hC hd hlo
      rw [h0]
      go_wp2_with (refine wpList_store_blk rfl 27 _ _ rfl B C rfl rfl HZ.out (by rw [size_ver, HCl.out]) (by rw [HCl.out]; rfl) HCo.out ?_)
      exact ⟨undef, by simp [upd, h0]; rfl, trivial, ⟨Q1.out, Q2.out, Q3.out⟩, trivial⟩
    case last =>
      intro u W o ho hC hS
      simp only [List.getElem?_cons_zero, List.getElem?_cons_succ, Option.some.injEq] at ho
      subst ho
      have h4 : u 5 = .string (tx S6.2.1) := hS 5 (by decide)
      have hz : Blk W B 27 C := hC.2.1
      have HZ := Lib.hid hz
      have HCC := Lib.hid hC
      clear hS hC hz
      rw [h4]
      go_wp2_with fail
      refine bodyPost_ret (v := .tuple #[.agg C.toArray, .string (tx S6.2.1), .int .i64 0]) (results_cell_tmp2 rfl _ _ B rfl (.string (tx S6.2.1)) (.int .i64 0) rfl rfl HZ.out Try.underlying27 rfl (by rw [size_ver, HCl.out])) rfl ?_
      rw [← HT.out]
      have hq := HCC.out.1
      have hle : w.heap.size ≤ w1.heap.size := by rw [Z1.out, HBE.out]; omega
      exact ⟨_, rfl, ⟨vb, vn, vz, by rw [HC.out], hq.ob.lower hle, hq.on.lower hle, hq.oz.lower hle⟩, HCC.out.2.2⟩
  · have hst := HST.out
    unfold stOut at hst
    rw [if_pos he] at hst
    have HT := Lib.hid hst
    have g1 : ((S6.2.2 : Int) != 0) = true := by rw [bne_iff_ne]; omega
    have HC0 : Hid (rrC w w1 B (B + 1) S6 zV vb vn vz false w6.drew) := Lib.hid ⟨(HQ.out.keep (Below.refl _ _).drew).part, M6.out.drew, B6.out.drew⟩
    obtain ⟨er, her⟩ : ∃ er, S6.2.2 = er := ⟨_, rfl⟩
    have HER := Lib.hid her
    rw [her] at HT g1 c5
    clear hst he her
    go_wp2_with fail
    refine region_mix 3 5 (by decide) mixed (by kernel_rfl) (by kernel_rfl) (fun u => #[_, _, _, u 4, _, _, _, _, _, _, _, _, _, _, _, _, _, u 0, u 1, u 2, _, _, _, _]) [] (fun i => match i with | 4 => _ | _ => undef) rfl
      (rrC w w1 B (B + 1) S6 zV vb vn vz) HC0.out (fun _ _ _ => True) (reS (B + 1) er) ?mono ?step ?one ?last
    case mono => exact fun b i v W W' _ h _ => reS_mono i v W W' h
    case step =>
      intro bb u W i o hi hik _ ho hC hd
      rcases i with _ | _ | _ | _ | _ | i
      all_goals try (simp only [List.getElem?_cons_zero, List.getElem?_cons_succ, Option.some.injEq] at ho; subst ho)
      · go_wp2_with (refine wpList_build_at rfl 27 _ rfl (.agg zV.toArray) (by simp only [List.map_toArray, List.map_nil]; exact build_ver _) ?_)
        exact ⟨_, rfl, rfl, hC, trivial⟩
      · go_wp2_with fail
        exact ⟨_, rfl, rfl, hC, trivial⟩
      · have h0 : u 1 = .pointer (some ⟨B + 1, 5, none⟩) := hd ⟨1, .data⟩ (by simp) rfl
        have d5 := hC.1.ver.cell 5
        simp only [rdrC, List.getElem?_cons_zero, List.getElem?_cons_succ] at d5
        rw [HER.out] at d5
        rw [h0]
        go_wp2_with fail
        exact ⟨_, by simp [upd, h0], rfl, hC, trivial⟩
      · omega
      · go_wp2_with fail
        exact ⟨_, rfl, rfl, hC, trivial⟩
      · omega
    case one =>
      intro u W o ho hC hd
      simp only [List.getElem?_cons_zero, List.getElem?_cons_succ, Option.some.injEq] at ho
      subst ho
      have h0 : u 0 = .agg zV.toArray := hd ⟨0, .data⟩ (by simp) rfl
      have hz : Blk W B 27 zV := hC.2.1
      have HZ := Lib.hid hz
      have hlo := hC.1
      have Q1 : Hid (RdP w1.heap.size (B + 1) (W.setRow B zV.toArray) S6.1.id vb vn vz S6.1.bl S6.1.ns S6.1.zs (tx S6.2.1) S6.2.2) := Lib.hid
        ⟨hlo.ver.rowOther (by omega) zV.toArray, hlo.ob.rowApart B zV.toArray (fun b hb => by have := (hlo.ob.lt b hb).1; rw [Z1.out] at this; omega), hlo.on.rowApart B zV.toArray (fun b hb => by have := (hlo.on.lt b hb).1; rw [Z1.out] at this; omega), hlo.oz.rowApart B zV.toArray (fun b hb => by have := (hlo.oz.lt b hb).1; rw [Z1.out] at this; omega)⟩
      have Q2 := Lib.hid (hz.row zV rfl)
      have Q3 := Lib.hid (below_setRow hC.2.2 (show w.heap.size ≤ B by rw [HBE.out]; exact Nat.le_refl _) zV.toArray)
      clear hz hC hd hlo
      rw [h0]
      go_wp2_with (refine wpList_store_blk rfl 27 _ _ rfl B zV rfl rfl HZ.out (by rw [size_ver]; rfl) rfl zV_one ?_)
      exact ⟨undef, by simp [upd, h0]; rfl, trivial, ⟨Q1.out, Q2.out, Q3.out⟩, trivial⟩
    case last =>
      intro u W o ho hC hS
      simp only [List.getElem?_cons_zero, List.getElem?_cons_succ, Option.some.injEq] at ho
      subst ho
      have h4 : u 4 = .string ⟨#[]⟩ := hS 4 (by decide)
      have h2 : u 2 = .int .i64 (er : Int) := hS 2 (by decide)
      have hz : Blk W B 27 zV := hC.2.1
      have HZ := Lib.hid hz
      have HCC := Lib.hid hC.2.2
      clear hS hC hz
      rw [h4, h2]
      go_wp2_with fail
      refine bodyPost_ret (v := .tuple #[.agg zV.toArray, .string ⟨#[]⟩, .int .i64 (er : Int)]) (results_cell_tmp2 rfl _ _ B rfl (.string ⟨#[]⟩) (.int .i64 (er : Int)) rfl rfl HZ.out Try.underlying27 rfl (by rw [size_ver]; rfl)) rfl ?_
      rw [← HT.out]
      exact rd_err w _ _ HCC.out
set_option maxRecDepth 100000 in
set_option maxHeartbeats 2000000 in
theorem h_Decode (s : ByteArray) (D : RawV × Nat) (w : World) (hs : s.size ≤ 65536) (hD : decT (tellA (sl s)) = D) :
    Calls Try.prog 18 #[.string s] w (DeRet D w) := by
  obtain ⟨B, hB⟩ : ∃ B, w.heap.size = B := ⟨_, rfl⟩
  have HBE := Lib.hid hB
  have m0 := Blk.newAt w B hB 27 (c := zV.toArray) _ rfl
  have b0 := (Below.refl w.heap.size w).alloc (Nat.le_refl _) (.cells zV.toArray 27)
  have z0 : (w.alloc (.cells zV.toArray 27)).heap.size = B + 1 := by simp [hB]
  have M0 := Lib.hid m0
  have B0 := Lib.hid b0
  have Z0 := Lib.hid z0
  obtain ⟨a, rs, er, hT⟩ : ∃ a rs er, tellA (sl s) = (a, rs, er) := ⟨_, _, _, rfl⟩
  have QR := Lib.hid (fun wx => h_Read s (a, rs, er) wx hs hT)
  rw [hT] at hD
  unfold decT at hD
  dsimp only at hD
  have HD := Lib.hid hD
  clear hD hT hs m0 b0 z0
  have hlen := tx_size rs
  go_enter Try.func18, Try.ntmps18
  go_wp2_with (refine wpList_alloc_n rfl 27 rfl B hB _ (alloc_ver _) ?_)
  generalize w.alloc (.cells zV.toArray 27) = w1 at *
  refine (QR.out w1).mono ?_
  rintro e w2 ⟨v, rfl, hv, hb2⟩
  dsimp only at hv
  obtain ⟨vb, vn, vz, rfl, o1, o2, o3⟩ := hv
  have HV := Lib.hid (show VO w2 w1.heap.size (.agg (cellsV a.id vb vn vz).toArray) a from ⟨vb, vn, vz, rfl, o1, o2, o3⟩)
  obtain ⟨pb, cb, rfl⟩ := o1.isSlice
  obtain ⟨pn, cn, rfl⟩ := o2.isSlice
  obtain ⟨pz, cz, rfl⟩ := o3.isSlice
  have hone := cellsV_one a.id pb pn pz (rowsH a.bl).length (rowsS a.ns).length (rowsZ a.zs).length cb cn cz
  clear o1 o2 o3
  obtain ⟨C, hC⟩ : ∃ C, cellsV a.id (.slice pb (rowsH a.bl).length cb) (.slice pn (rowsS a.ns).length cn) (.slice pz (rowsZ a.zs).length cz) = C := ⟨_, rfl⟩
  have hCl : C.length = 4 := by rw [← hC]; rfl
  rw [hC] at HV hone
  have M2 := Lib.hid (M0.out.below hb2 M0.out.lt)
  have B2 := Lib.hid (B0.out.trans (hb2.mono B0.out.size))
  have k2 := Blk.new' w2 27 (c := zV.toArray) _ rfl
  have K2 := Lib.hid k2
  have K3 := Lib.hid (k2.row C (by rw [hCl]; rfl))
  have M3 := Lib.hid ((M2.out.alloc (.cells zV.toArray 27)).rowOther (show B ≠ w2.heap.size by have := M2.out.lt; omega) C.toArray)
  have hb3 := below_setRow ((Below.refl w2.heap.size w2).alloc (Nat.le_refl _) (.cells zV.toArray 27)) (Nat.le_refl _) C.toArray
  have B3 := Lib.hid (B2.out.trans (hb3.mono B2.out.size))
  have V3 := Lib.hid (HV.out.keep hb3)
  clear hb2 hb3 HV k2 M0 B0 QR
  have hr0 : B < w1.heap.size := by rw [Z0.out]; omega
  have HR0 := Lib.hid hr0
  have HLW : Hid (w.heap.size ≤ w1.heap.size) := Lib.hid (by rw [Z0.out, HBE.out]; omega)
  clear hr0
  simp only [hC]
  clear hC
  by_cases he : er = 0
  · subst he
    have hD := HD.out
    rw [if_neg (by decide)] at hD
    by_cases hr : rs.length = 0
    · have g1 : (tx rs).toList.isEmpty = true := tx_none (by rw [tx_size]; exact hr)
      rw [if_neg (by omega)] at hD
      have HD2 := Lib.hid hD
      have M4 := Lib.hid (M3.out.row C (by rw [hCl]; rfl))
      have B4 := Lib.hid (below_setRow B3.out (show w.heap.size ≤ B by rw [HBE.out]; exact Nat.le_refl _) C.toArray)
      have V4 := Lib.hid ((V3.out.row HR0.out C.toArray).lower HLW.out)
      clear hD hr HD
      generalize tx rs = RS at *
      go_wp2_with (first | (refine wpList_alloc_n rfl 27 rfl w2.heap.size rfl _ (alloc_ver _) ?_) | (refine wpList_store_blk rfl 27 _ _ rfl w2.heap.size C rfl rfl K2.out (by rw [size_ver, hCl]) (by rw [hCl]; rfl) hone ?_) | (refine wpList_load_blk rfl 27 _ rfl w2.heap.size rfl K3.out Try.underlying27 rfl (by rw [size_ver, hCl]) ?_) | (refine wpList_store_blk rfl 27 _ _ rfl B C rfl rfl M3.out (by rw [size_ver, hCl]) (by rw [hCl]; rfl) hone ?_))
      refine bodyPost_ret (v := .tuple #[.agg C.toArray, .int .i64 0]) (results_cell_tmp rfl _ _ B rfl (.int .i64 0) rfl M4.out Try.underlying27 rfl (by rw [size_ver, hCl])) rfl ?_
      rw [← HD2.out]
      exact ⟨_, rfl, V4.out, B4.out⟩
    · have g1 : (tx rs).toList.isEmpty = false := tx_some (by rw [tx_size]; exact hr)
      rw [if_pos hr] at hD
      have HD2 := Lib.hid hD
      have M4 := Lib.hid (M3.out.row zV rfl)
      have B4 := Lib.hid (below_setRow B3.out (show w.heap.size ≤ B by rw [HBE.out]; exact Nat.le_refl _) zV.toArray)
      clear hD hr HD
      generalize tx rs = RS at *
      go_wp2_with (first | (refine wpList_alloc_n rfl 27 rfl w2.heap.size rfl _ (alloc_ver _) ?_) | (refine wpList_store_blk rfl 27 _ _ rfl w2.heap.size C rfl rfl K2.out (by rw [size_ver, hCl]) (by rw [hCl]; rfl) hone ?_) | (refine wpList_build_at rfl 27 _ rfl (.agg zV.toArray) (by simp only [List.map_toArray, List.map_nil]; exact build_ver _) ?_) | (refine wpList_store_blk rfl 27 _ _ rfl B zV rfl rfl M3.out (by rw [size_ver]; rfl) rfl zV_one ?_))
      refine bodyPost_ret (v := .tuple #[.agg zV.toArray, .int .i64 42]) (results_cell_tmp rfl _ _ B rfl (.int .i64 42) rfl M4.out Try.underlying27 rfl (by rw [size_ver]; rfl)) rfl ?_
      rw [← HD2.out]
      exact ⟨_, rfl, VO.none _ _, B4.out⟩
  · have hD := HD.out
    rw [if_pos he] at hD
    have HD2 := Lib.hid hD
    have d2 : ((er : Int) != 0) = true := by simp; omega
    have M4 := Lib.hid (M3.out.row zV rfl)
    have B4 := Lib.hid (below_setRow B3.out (show w.heap.size ≤ B by rw [HBE.out]; exact Nat.le_refl _) zV.toArray)
    clear hD HD
    generalize tx rs = RS at *
    go_wp2_with (first | (refine wpList_alloc_n rfl 27 rfl w2.heap.size rfl _ (alloc_ver _) ?_) | (refine wpList_store_blk rfl 27 _ _ rfl w2.heap.size C rfl rfl K2.out (by rw [size_ver, hCl]) (by rw [hCl]; rfl) hone ?_) | (refine wpList_build_at rfl 27 _ rfl (.agg zV.toArray) (by simp only [List.map_toArray, List.map_nil]; exact build_ver _) ?_) | (refine wpList_store_blk rfl 27 _ _ rfl B zV rfl rfl M3.out (by rw [size_ver]; rfl) rfl zV_one ?_))
    refine bodyPost_ret (v := .tuple #[.agg zV.toArray, .int .i64 (er : Int)]) (results_cell_tmp rfl _ _ B rfl (.int .i64 (er : Int)) rfl M4.out Try.underlying27 rfl (by rw [size_ver]; rfl)) rfl ?_
    rw [← HD2.out]
    exact ⟨_, rfl, VO.none _ _, B4.out⟩
end Go.Proofs.Ytahfjfhiejhddaa
