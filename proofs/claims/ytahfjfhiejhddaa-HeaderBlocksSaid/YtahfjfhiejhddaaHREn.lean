/- Walk of the reference's Encode of versions. -/
import Derived.Test.YtahfjfhiejhddaaHRMy
import Derived.Test.YtahfjfhiejhddaaV2
import Derived.Test.YtahfjfhiejhddaaG4
namespace Go.Proofs.Ytahfjfhiejhddaa
open Go.RowKit
set_option linter.unusedVariables false

/-- the version of these parts, where it may be -/
def RawV.ver (a : RawV) : VerH := ⟨a.id, a.bl, a.ns.zip (a.zs.map Int.toNat)⟩
theorem ver_names {a : RawV} (h : a.ns.length = a.zs.length) : a.ver.names = a.ns := by
  unfold VerH.names RawV.ver
  exact List.map_fst_zip (by rw [List.length_map]; omega)
theorem zip_sizes : ∀ (ns : List (List Nat)) (zs : List Int), ns.length = zs.length → (∀ z ∈ zs, 0 ≤ z) → (ns.zip (zs.map Int.toNat)).map (fun f => (f.2 : Int)) = zs
  | [], [], _, _ => rfl
  | [], _ :: _, h, _ => by simp at h
  | _ :: _, [], h, _ => by simp at h
  | n :: ns, z :: zs, h, hz => by
    have h0 := hz z (by simp)
    have ih := zip_sizes ns zs (by simpa using h) fun y hy => hz y (by simp [hy])
    simp only [List.map_cons, List.zip_cons_cons]
    rw [ih, Int.toNat_of_nonneg h0]
theorem ver_sizes {a : RawV} (h : a.ns.length = a.zs.length) (h0 : ∀ z ∈ a.zs, 0 ≤ z) : a.ver.sizes = a.zs := zip_sizes _ _ h h0
theorem ver_okR {a : RawV} (hk : a.ok) (h : mayH a.bl.length a.ns a.zs = true) : VerOk a.ver ∧ a.ver.names = a.ns ∧ a.ver.sizes = a.zs := by
  obtain ⟨h1, h2, h3, h4, h5, h6⟩ := mayH_iff.1 h
  have e1 := ver_names (a := a) h2
  have e2 := ver_sizes (a := a) h2 fun z hz => (h4 z hz).1
  refine ⟨⟨hk.1, hk.2.1, fun f hf => hk.2.2.1 _ ?_, ?_⟩, e1, e2⟩
  · rw [← e1]
    exact List.mem_map.2 ⟨f, hf, rfl⟩
  · unfold VerH.may
    rw [e1, e2]
    exact h
/-- what Encode tells -/
def encT (a : RawV) : ByteArray × Nat := if mayH a.bl.length a.ns a.zs then (tx (verE a.ver), 0) else (⟨#[]⟩, 1)
/-! ### the bytes so far -/
def enA (a : RawV) : List Nat := bigL a.id 4 ++ putL a.bl.length
def enB (a : RawV) (k : Nat) : List Nat := enA a ++ (a.bl.take k).flatMap id
def enC (a : RawV) : List Nat := enB a a.bl.length ++ putL a.ns.length
def enD (a : RawV) (k : Nat) : List Nat := enC a ++ (a.ver.files.take k).flatMap fileE
theorem files_len' {a : RawV} (h : a.ns.length = a.zs.length) : a.ver.files.length = a.ns.length := by
  unfold RawV.ver
  simp only [List.length_zip, List.length_map]
  omega
theorem enD_all {a : RawV} (h : a.ns.length = a.zs.length) : enD a a.ns.length = verE a.ver := by
  unfold enD enC enB enA verE
  rw [List.take_of_length_le (l := a.ver.files) (by rw [files_len' h]; exact Nat.le_refl _), List.take_length, files_len' h]
  simp only [List.append_assoc]
  rfl
theorem enB_snoc (a : RawV) {k : Nat} (h : k < a.bl.length) : enB a (k + 1) = enB a k ++ a.bl.getD k [] := by
  unfold enB
  rw [List.take_succ_eq_append_getElem h, List.flatMap_append, List.getD_eq_getElem?_getD, List.getElem?_eq_getElem h, List.append_assoc]
  simp
theorem file_at (a : RawV) {k : Nat} (h1 : k < a.ns.length) (h2 : k < a.zs.length) : a.ver.files[k]? = some (a.ns.getD k [], (a.zs.getD k 0).toNat) := by
  unfold RawV.ver
  simp only
  rw [List.getElem?_zip_eq_some]
  refine ⟨?_, ?_⟩
  · rw [List.getD_eq_getElem?_getD, List.getElem?_eq_getElem h1]; rfl
  · have e : a.zs.getD k 0 = a.zs[k] := by rw [List.getD_eq_getElem?_getD, List.getElem?_eq_getElem h2]; rfl
    rw [List.getElem?_map, List.getElem?_eq_getElem h2, e]; rfl
theorem enD_snoc (a : RawV) {k : Nat} (h1 : k < a.ns.length) (h2 : k < a.zs.length) : enD a (k + 1) = (enD a k ++ (putL (a.ns.getD k []).length ++ a.ns.getD k [])) ++ putL (a.zs.getD k 0).toNat := by
  have hf := file_at a h1 h2
  have hk : k < a.ver.files.length := (List.getElem?_eq_some_iff.1 hf).1
  have he : a.ver.files[k] = (a.ns.getD k [], (a.zs.getD k 0).toNat) := (List.getElem?_eq_some_iff.1 hf).2
  unfold enD
  rw [List.take_succ_eq_append_getElem hk, List.flatMap_append, he]
  simp only [List.flatMap_cons, List.flatMap_nil, List.append_nil, fileE, List.append_assoc]
theorem enB_len {a : RawV} (hk : HashL a.bl) (h15 : a.bl.length ≤ 15) (k : Nat) : (enB a k).length ≤ 500 := by
  unfold enB enA
  have h1 := raws_len (l := a.bl.take k) fun b hb => (hk b (List.mem_of_mem_take hb)).1
  rw [List.length_append, List.length_append, big_len, put_len_small (by omega), h1, List.length_take]
  omega
theorem enC_len {a : RawV} (hk : HashL a.bl) (h15 : a.bl.length ≤ 15) (h12 : a.ns.length ≤ 12) : (enC a).length ≤ 501 := by
  unfold enC
  have := enB_len hk h15 a.bl.length
  rw [List.length_append, put_len_small (by omega)]
  omega
theorem enD_len {a : RawV} (hk : HashL a.bl) (h15 : a.bl.length ≤ 15) (h12 : a.ns.length ≤ 12) (hl : a.ns.length = a.zs.length) (hf : ∀ k, k < a.ns.length → fineH (a.ns.getD k []) (a.zs.getD k 0)) : ∀ k, k ≤ a.ns.length → (enD a k).length ≤ 501 + 23 * k
  | 0, _ => by
    unfold enD
    have := enC_len hk h15 h12
    simp
    omega
  | k + 1, h => by
    have ih := enD_len hk h15 h12 hl hf k (by omega)
    have q := hf k (by omega)
    unfold fineH at q
    rw [enD_snoc a (by omega) (by omega), List.length_append, List.length_append, List.length_append, put_len_small (by omega)]
    have : (putL (a.zs.getD k 0).toNat).length ≤ 2 := by
      by_cases hh : (a.zs.getD k 0).toNat < 128
      · rw [put_len_small hh]; decide
      · rw [put_len_two hh (by omega)]; decide
    omega
set_option maxRecDepth 100000 in
set_option maxHeartbeats 4000000 in
theorem hr_Encode (a : RawV) (v : Value) (s : ByteArray) (er : Nat) (w : World) (hE : encT a = (s, er)) (hV : VV w v a) (hk : a.ok) (h1 : a.bl.length ≤ 1000) (h2 : a.ns.length ≤ 1000) (h3 : a.zs.length ≤ 1000) :
    Calls Try.prog 11 #[v] w fun e w' => e = .returned (.tuple #[.string s, .int .i64 (er : Int)]) ∧ Below w.heap.size w w' := by
  have HM := Lib.hid (fun (b : Bool) (wx : World) (hb : mayH a.bl.length a.ns a.zs = b) (h : Below w.heap.size w wx) => hr_May a v b wx hb (hV.below h) hk.2.2.1 h1 h2 h3)
  obtain ⟨vb, vn, vz, rfl, ⟨pb, cb, rfl⟩, ⟨pn, cn, rfl⟩, ⟨pz, cz, rfl⟩, sb, sn, sz⟩ := hV
  have k0 := Blk.new' w 27 (c := (cellsV a.id (.slice pb a.bl.length cb) (.slice pn a.ns.length cn) (.slice pz a.zs.length cz)).toArray) _ rfl
  have KB := Lib.hid ((Below.refl w.heap.size w).alloc (Nat.le_refl _) (.cells (cellsV a.id (.slice pb a.bl.length cb) (.slice pn a.ns.length cn) (.slice pz a.zs.length cz)).toArray 27))
  obtain ⟨B, hB⟩ : ∃ B, w.heap.size = B := ⟨_, rfl⟩
  have HBE := Lib.hid hB
  rw [hB] at k0
  have K0 := Lib.hid k0
  have e4 : (cellsV a.id (.slice pb a.bl.length cb) (.slice pn a.ns.length cn) (.slice pz a.zs.length cz)).length = 4 := rfl
  clear k0
  by_cases hm : mayH a.bl.length a.ns a.zs = true
  · obtain ⟨m1, m2, m3, m4, m5, m6⟩ := mayH_iff.1 hm
    have h15 := blocks_le hm
    have HMT := Lib.hid (fun wx h => HM.out true wx hm h)
    have hfine : ∀ k, k < a.ns.length → fineH (a.ns.getD k []) (a.zs.getD k 0) := fun k hk => by
      have q1 := m3 _ (getN_mem hk)
      have q2 := m4 _ (getZ_mem (show k < a.zs.length by omega))
      exact ⟨q1.1, q1.2, q2.1, q2.2⟩
    have hen := enD_all m2
    have hs : s = tx (enD a a.ns.length) ∧ er = 0 := by
      unfold encT at hE
      rw [if_pos hm, ← hen] at hE
      simp only [Prod.mk.injEq] at hE
      exact ⟨hE.1.symm, hE.2.symm⟩
    obtain ⟨rfl, rfl⟩ := hs
    have HBL := Lib.hid (enB_len hk.2.1 h15)
    have HCL := Lib.hid (enC_len hk.2.1 h15 m1)
    have HDL := Lib.hid (enD_len hk.2.1 h15 m1 m2 hfine)
    have HF := Lib.hid hfine
    have HK := Lib.hid hk
    have SB := Lib.hid sb
    have SN := Lib.hid sn
    have SZ := Lib.hid sz
    have HL := Lib.hid m2
    have HI := Lib.hid hk.1
    have H15 := Lib.hid h15
    have H12 := Lib.hid m1
    clear hE hm hen hfine m1 m2 m3 m4 m5 m6 sb sn sz h1 h2 h3 hk HM h15
    generalize hW1 : (w.alloc (.cells (cellsV a.id (.slice pb a.bl.length cb) (.slice pn a.ns.length cn) (.slice pz a.zs.length cz)).toArray 27)) = w1 at *
    go_enter Try.func11, Try.ntmps11
    go_wp2_with (first | (refine wpList_load_blk rfl 27 _ rfl _ rfl K0.out Try.underlying27 rfl (by rw [size_ver, e4]) ?_))
    refine (HMT.out w1 KB.out).mono ?_
    rintro e w2 ⟨rfl, hb2⟩
    have K2 := Lib.hid (K0.out.below hb2 K0.out.lt)
    have HB2 := Lib.hid (KB.out.trans (hb2.mono KB.out.size))
    clear hb2 HMT KB
    have L0 : Hid (∀ wx, NewBut w2 wx → wx.cell? ⟨B, 0, none⟩ = some (.int .u32 (a.id : Int))) := Lib.hid fun wx h => by
      have := (K2.out.below h K2.out.lt).cell 0
      simpa [cellsV] using this
    have L1 : Hid (∀ wx, NewBut w2 wx → wx.cell? ⟨B, 1, none⟩ = some (.slice pb a.bl.length cb)) := Lib.hid fun wx h => by
      have := (K2.out.below h K2.out.lt).cell 1
      simpa [cellsV] using this
    have i1 : (a.id : Int) < 4294967296 := by have := HI.out; omega
    have i2 : (a.bl.length : Int) ≤ 15 := by have := H15.out; omega
    have u1 : IntKind.u64.wrap (a.id : Int) = (a.id : Int) := wraps_u64 _ (by omega) (by omega)
    have u2 : IntKind.u64.wrap (a.bl.length : Int) = (a.bl.length : Int) := wraps_u64 _ (by omega) (by omega)
    have QA := Lib.hid (fun wx (h : NewBut w2 wx) => (r_Big a.id 4 wx (by decide) (by decide) (by have := HI.out; omega)).mono fun _ _ ⟨x1, x2⟩ => (⟨x1, h.trans (x2.mono h.size)⟩ : _ ∧ NewBut w2 _))
    have QB := Lib.hid (fun wx (h : NewBut w2 wx) => (r_VPut a.bl.length wx (by have := H15.out; omega)).mono fun _ _ ⟨x1, x2⟩ => (⟨x1, h.trans (x2.mono h.size)⟩ : _ ∧ NewBut w2 _))
    have hadd := fun w' => run_string_add_sum (P := Try.prog) w' (tx (bigL a.id 4)) (tx (putL a.bl.length)) (by rw [tx_size, tx_size, big_len, put_len_small (by have := H15.out; omega)]; decide)
    have hA : tx (bigL a.id 4) ++ tx (putL a.bl.length) = tx (enB a 0) := by
      rw [← tx_app]; unfold enB enA; simp
    rw [hA] at hadd
    generalize tx (bigL a.id 4) = S1 at *
    generalize tx (putL a.bl.length) = S2 at *
    clear hA
    go_wp2_with fail
    refine region_quiet_tail (C := NewBut w2) 10 mixed (by kernel_rfl) (show Below _ _ _ from (Below.refl _ _).drew) ?_
    simp only [List.take_succ_cons, List.take_zero, List.drop_succ_cons, List.drop_zero]
    repeat (first | (refine wpQuiet_load_one rfl 22 _ rfl ⟨B, 0, none⟩ rfl _ L0.out Try.underlying22 rfl ?_) | (refine wpQuiet_load_one rfl 23 _ rfl ⟨B, 1, none⟩ rfl _ L1.out Try.underlying23 rfl ?_) | go_big_quiet_step (fail) | (refine wpQuiet_step (fun K' hK' => ?_); go_simp; first | (refine hK' _ ?_; clear hK' K') | (refine ⟨_, fun _ _ => rfl, hK' _ ?_⟩; clear hK' K') | ((with_reducible refine ⟨_, fun wx hx => QA.out wx hx, hK' _ ?_⟩); clear hK' K') | ((with_reducible refine ⟨_, fun wx hx => QB.out wx hx, hK' _ ?_⟩); clear hK' K')))
    refine wpQuiet_nil ?_
    intro w5 hb5
    have K5 := Lib.hid (K2.out.below hb5 K2.out.lt)
    have G5 := Lib.hid (HB2.out.trans (Below.mono hb5 HB2.out.size))
    clear hb5 hadd L0 L1 QA QB
    go_wp2
    go_loopw [4, 5] (fun u i wr => ∃ k : Nat, k ≤ a.bl.length ∧ i = .int .i64 (k : Int) ∧ u = .string (tx (enB a k)) ∧ Below w5.heap.size w5 wr) (fun _ i _ => a.bl.length - (intOf i).toNat)
    case atStart => exact ⟨0, by omega, rfl, rfl, Below.refl _ _⟩
    case round =>
      obtain ⟨k, hk, rfl, rfl, gb⟩ := hrel
      have b1 := (K5.out.below gb K5.out.lt).cell 1
      simp only [cellsV, List.getElem?_cons_zero, List.getElem?_cons_succ] at b1
      by_cases hlt : k < a.bl.length
      · obtain ⟨ad, rfl, hc⟩ := ((SB.out.below G5.out).below gb).row (rowsH_at hlt)
        have d1 : (k : Int) < (a.bl.length : Int) := by omega
        have hmem := HK.out.2.1 _ (getN_mem hlt)
        have QC := Lib.hid (fun wx => r_BytesN (a.bl.getD k []) wx hmem.1)
        have hsn : tx (enB a (k + 1)) = tx (enB a k) ++ tx (a.bl.getD k []) := by rw [enB_snoc a hlt, tx_app]
        have hz := HBL.out k
        rw [← tx_size] at hz
        have hz2 : (tx (a.bl.getD k [])).size = 32 := by rw [tx_size, hmem.1]
        have HSN := Lib.hid hsn
        have HC := Lib.hid hc
        have HRL := Lib.hid (rowH_len hmem.1)
        clear hsn hmem hc
        generalize tx (enB a k) = U at *
        generalize tx (a.bl.getD k []) = V at *
        have hadd := fun w' => run_string_add_sum (P := Try.prog) w' U V (by omega)
        generalize hRR : rowH (a.bl.getD k []) = R at *
        have hRR' : (ints .u8 (nn (a.bl.getD k []))) = R := hRR
        rw [hRR'] at QC
        clear hRR hRR' hz hz2
        go_wp2_with (first | (refine wpList_load_addr rfl 44 _ rfl _ rfl R HC.out Try.underlying44 rfl (by rw [size_hashV, HRL.out]) ?_))
        refine (QC.out _).mono ?_
        rintro e w6 ⟨rfl, hb6⟩
        have G6 := Lib.hid (gb.trans (hb6.mono gb.size))
        clear hb6
        go_wp2
        go_roundw
        case rel => exact ⟨k + 1, by omega, by go_num, by rw [HSN.out], G6.out⟩
        case measure => simp [intOf]; omega
      · obtain rfl : k = a.bl.length := by omega
        have b2 := (K5.out.below gb K5.out.lt).cell 2
        simp only [cellsV, List.getElem?_cons_zero, List.getElem?_cons_succ] at b2
        have KW := Lib.hid (K5.out.below gb K5.out.lt)
        have GW := Lib.hid (G5.out.trans (gb.mono G5.out.size))
        have QP := Lib.hid (fun wx => r_VPut a.ns.length wx (by have := H12.out; omega))
        have hsn : tx (enC a) = tx (enB a a.bl.length) ++ tx (putL a.ns.length) := by unfold enC; rw [tx_app]
        have hz := HBL.out a.bl.length
        rw [← tx_size] at hz
        have hz2 : (tx (putL a.ns.length)).size = 1 := by rw [tx_size, put_len_small (by have := H12.out; omega)]
        have HSN := Lib.hid hsn
        clear hsn
        generalize tx (enB a a.bl.length) = U at *
        generalize tx (putL a.ns.length) = V at *
        have hadd := fun w' => run_string_add_sum (P := Try.prog) w' U V (by omega)
        rw [← HSN.out] at hadd
        have i3 : (a.ns.length : Int) ≤ 12 := by have := H12.out; omega
        have u3 : IntKind.u64.wrap (a.ns.length : Int) = (a.ns.length : Int) := wraps_u64 _ (by omega) (by omega)
        clear hz hz2 gb
        go_wp2_with fail
        refine (QP.out _).mono ?_
        rintro e w6 ⟨rfl, hb6⟩
        have K6 := Lib.hid (KW.out.below hb6 KW.out.lt)
        have G6 := Lib.hid (GW.out.trans (hb6.mono GW.out.size))
        clear hb6
        go_wp2
        go_loopw [4, 6] (fun u i wq => ∃ k : Nat, k ≤ a.ns.length ∧ i = .int .i64 (k : Int) ∧ u = .string (tx (enD a k)) ∧ Below w6.heap.size w6 wq) (fun _ i _ => a.ns.length - (intOf i).toNat)
        case atStart => exact ⟨0, by omega, rfl, by unfold enD; simp, Below.refl _ _⟩
        case round =>
          obtain ⟨k, hk, rfl, rfl, gx⟩ := hrel
          have KX := Lib.hid (K6.out.below gx K6.out.lt)
          have GX := Lib.hid (G6.out.trans (gx.mono G6.out.size))
          have b2x := KX.out.cell 2
          simp only [cellsV, List.getElem?_cons_zero, List.getElem?_cons_succ] at b2x
          by_cases hlt2 : k < a.ns.length
          · have hn := fun wy (h : Below w.heap.size w wy) => SlS.cell (SN.out.below h) hlt2
            obtain ⟨an, rfl, _⟩ := hn wr GX.out
            have hzl : k < a.zs.length := by rw [← HL.out]; exact hlt2
            have hz := fun wy (h : Below w.heap.size w wy) => SlZ.cell (l := a.zs) (j := k) (SZ.out.below h) hzl
            obtain ⟨az, rfl, _⟩ := hz wr GX.out
            have dz : (k : Int) < (a.zs.length : Int) := by omega
            have d1x : (k : Int) < (a.ns.length : Int) := by omega
            have q := HF.out k hlt2
            unfold fineH at q
            have hnm : Bys (a.ns.getD k []) := HK.out.2.2.1 _ (getN_mem hlt2)
            obtain ⟨z, hzz⟩ : ∃ z : Nat, a.zs.getD k 0 = (z : Int) := ⟨(a.zs.getD k 0).toNat, by omega⟩
            rw [hzz] at q
            have LN : Hid (∀ wy, NewBut wr wy → wy.cell? (an.add k) = some (.string (tx (a.ns.getD k [])))) := Lib.hid fun wy h => by
              obtain ⟨a', e, hc⟩ := hn wy (GX.out.trans (Below.mono h GX.out.size))
              cases e
              exact hc
            have LZ : Hid (∀ wy, NewBut wr wy → wy.cell? (az.add k) = some (.int .i64 (z : Int))) := Lib.hid fun wy h => by
              obtain ⟨a', e, hc⟩ := hz wy (GX.out.trans (Below.mono h GX.out.size))
              cases e
              rw [hzz] at hc
              exact hc
            have L2 : Hid (∀ wy, NewBut wr wy → wy.cell? ⟨B, 2, none⟩ = some (.slice (some an) a.ns.length cn)) := Lib.hid fun wy h => by
              have := (KX.out.below h KX.out.lt).cell 2
              simpa [cellsV] using this
            have L3 : Hid (∀ wy, NewBut wr wy → wy.cell? ⟨B, 3, none⟩ = some (.slice (some az) a.zs.length cz)) := Lib.hid fun wy h => by
              have := (KX.out.below h KX.out.lt).cell 3
              simpa [cellsV] using this
            have hnz : (tx (a.ns.getD k [])).size = (a.ns.getD k []).length := tx_size _
            have QT := Lib.hid (fun wy (h : NewBut wr wy) => (rv_Text (tx (a.ns.getD k [])) wy (by omega)).mono fun _ _ ⟨x1, x2⟩ => (⟨x1, h.trans (x2.mono h.size)⟩ : _ ∧ NewBut wr _))
            have QZ := Lib.hid (fun wy (h : NewBut wr wy) => (r_VPut z wy (by omega)).mono fun _ _ ⟨x1, x2⟩ => (⟨x1, h.trans (x2.mono h.size)⟩ : _ ∧ NewBut wr _))
            rw [sl_tx hnm, hnz] at QT
            have hsn : tx (enD a (k + 1)) = (tx (enD a k) ++ tx (putL (a.ns.getD k []).length ++ a.ns.getD k [])) ++ tx (putL z) := by
              rw [enD_snoc a hlt2 hzl, hzz, Int.toNat_natCast, tx_app, tx_app]
            have hz1 := HDL.out k hk
            rw [← tx_size] at hz1
            have hz2 : (tx (putL (a.ns.getD k []).length ++ a.ns.getD k [])).size ≤ 21 := by
              rw [tx_size, List.length_append, put_len_small (by omega)]; omega
            have hz3 : (tx (putL z)).size ≤ 2 := by
              rw [tx_size]
              by_cases hh : z < 128
              · rw [put_len_small hh]; decide
              · rw [put_len_two hh (by omega)]; decide
            have HSN := Lib.hid hsn
            have h12 := H12.out
            have uz : IntKind.u64.wrap (z : Int) = (z : Int) := wraps_u64 _ (by omega) (by omega)
            clear hsn hnm hzz hn hz
            generalize tx (enD a k) = U1 at *
            generalize tx (putL (a.ns.getD k []).length ++ a.ns.getD k []) = V1 at *
            generalize tx (putL z) = V2 at *
            generalize tx (a.ns.getD k []) = NM at *
            have hadd1 := fun w' => run_string_add_sum (P := Try.prog) w' U1 V1 (by omega)
            have hadd2 := fun w' => run_string_add_sum (P := Try.prog) w' (U1 ++ V1) V2 (by rw [ByteArray.size_append]; omega)
            have iz : (z : Int) ≤ 300 := by omega
            clear q hz1 hz2 hz3 hnz hadd b2
            go_wp2_with fail
            refine region_quiet_tail (C := NewBut wr) 16 mixed (by kernel_rfl) (show Below _ _ _ from (Below.refl _ _).drew) ?_
            simp only [List.take_succ_cons, List.take_zero, List.drop_succ_cons, List.drop_zero]
            repeat (first | (refine wpQuiet_load_one rfl 24 _ rfl ⟨B, 2, none⟩ rfl _ L2.out Try.underlying24 rfl ?_) | (refine wpQuiet_load_one rfl 25 _ rfl ⟨B, 3, none⟩ rfl _ L3.out Try.underlying25 rfl ?_) | (refine wpQuiet_load_one rfl 9 _ rfl (an.add k) rfl _ LN.out Try.underlying9 rfl ?_) | (refine wpQuiet_load_one rfl 3 _ rfl (az.add k) rfl _ LZ.out Try.underlying3 rfl ?_) | go_big_quiet_step (fail) | (refine wpQuiet_step (fun K' hK' => ?_); go_simp; first | (refine hK' _ ?_; clear hK' K') | (refine ⟨_, fun _ _ => rfl, hK' _ ?_⟩; clear hK' K') | ((with_reducible refine ⟨_, fun wx hx => QT.out wx hx, hK' _ ?_⟩); clear hK' K') | ((with_reducible refine ⟨_, fun wx hx => QZ.out wx hx, hK' _ ?_⟩); clear hK' K')))
            refine wpQuiet_nil ?_
            intro w9 hb9
            have G9 := Lib.hid (gx.trans (Below.mono hb9 gx.size))
            clear hb9 hadd1 hadd2 L2 L3 LN LZ QT QZ
            go_wp2
            go_roundw
            case rel => exact ⟨k + 1, by omega, by go_num, by rw [HSN.out], G9.out⟩
            case measure => simp [intOf]; omega
          · obtain rfl : k = a.ns.length := by omega
            go_wp2
            go_ret2
            exact ⟨rfl, GX.out⟩
  · have e0 : s = ⟨#[]⟩ ∧ er = 1 := by
      unfold encT at hE
      rw [if_neg hm] at hE
      simp only [Prod.mk.injEq] at hE
      exact ⟨hE.1.symm, hE.2.symm⟩
    obtain ⟨rfl, rfl⟩ := e0
    have HMF := Lib.hid (fun wx h => HM.out false wx (by simpa using hm) h)
    clear hE hm sb sn sz h1 h2 h3 hk HM
    generalize hW1 : (w.alloc (.cells (cellsV a.id (.slice pb a.bl.length cb) (.slice pn a.ns.length cn) (.slice pz a.zs.length cz)).toArray 27)) = w1 at *
    go_enter Try.func11, Try.ntmps11
    go_wp2_with (first | (refine wpList_load_blk rfl 27 _ rfl _ rfl K0.out Try.underlying27 rfl (by rw [size_ver, e4]) ?_))
    refine (HMF.out w1 KB.out).mono ?_
    rintro e w2 ⟨rfl, hb2⟩
    have HB2 := Lib.hid (KB.out.trans (hb2.mono KB.out.size))
    clear hb2
    go_wp2
    go_ret2
    exact ⟨rfl, HB2.out⟩
end Go.Proofs.Ytahfjfhiejhddaa
