/-
  For every two versions: whether they may be, their bytes, their blocks, and whether they are the same, are the document's. Versions beyond the bound are answered by the case shown alone. No condition.
-/
import Derived.Test.YtahfjfhiejhddaaRows
import Derived.Test.YtahfjfhiejhddaaHShw
import Derived.ShutString
import Derived.ChangeOld
namespace Go.Proofs.Ytahfjfhiejhddaa.headerTells
open Go.ChangeShapes Go.WideShapes Go.ChangeAt Go.RowKit
open Go.ChangeMaps (open_string shut_string)
set_option linter.unusedVariables false

set_option maxHeartbeats 4000000 in
set_option maxRecDepth 100000 in
theorem walk (a : RawV) (v0 : Value) (b : RawV) (v1 : Value) (hx : a.ok ∧ a.bl.length ≤ maxLen ∧ a.ns.length ≤ maxLen ∧ a.zs.length ≤ maxLen) (hy : b.ok ∧ b.bl.length ≤ maxLen ∧ b.ns.length ≤ maxLen ∧ b.zs.length ≤ maxLen) (w : World) (hV : VV w v0 a) (hU : VV w v1 b) :
    Calls Try.prog 3 #[v0, v1] w fun e w' => e = .returned (.bool true) ∧ Below w.heap.size w w' := by
  have HSh := Lib.hid (fun w => l12_shown w)
  obtain ⟨b0, hb0⟩ : ∃ b0, heavyV a = b0 := ⟨_, rfl⟩
  obtain ⟨b1, hb1⟩ : ∃ b1, heavyV b = b1 := ⟨_, rfl⟩
  have HH0 := Lib.hid (fun (wx : World) (h : Below w.heap.size w wx) => l12_heavy a v0 b0 wx hb0 (hV.below h))
  have HH1 := Lib.hid (fun (wx : World) (h : Below w.heap.size w wx) => l12_heavy b v1 b1 wx hb1 (hU.below h))
  obtain ⟨s, er, hE⟩ : ∃ s er, encT a = (s, er) := ⟨_, _, rfl⟩
  obtain ⟨m, hm⟩ : ∃ m, mayH a.bl.length a.ns a.zs = m := ⟨_, rfl⟩
  obtain ⟨r, hr⟩ : ∃ r, sameV a b = r := ⟨_, rfl⟩
  have HEh := Lib.hid (fun (h40 : a.bl.length ≤ 40 ∧ a.ns.length ≤ 40 ∧ a.zs.length ≤ 40) (wx : World) (h : Below w.heap.size w wx) => h_Encode a v0 s er wx hE (hV.below h) hx.1 (by omega) (by omega) (by omega))
  have HEr := Lib.hid (fun (h40 : a.bl.length ≤ 40 ∧ a.ns.length ≤ 40 ∧ a.zs.length ≤ 40) (wx : World) (h : Below w.heap.size w wx) => hr_Encode a v0 s er wx hE (hV.below h) hx.1 (by omega) (by omega) (by omega))
  have HMh := Lib.hid (fun (h40 : a.bl.length ≤ 40 ∧ a.ns.length ≤ 40 ∧ a.zs.length ≤ 40) (wx : World) (h : Below w.heap.size w wx) => h_May a v0 m wx hm (hV.below h) hx.1.2.2.1 (by omega) (by omega) (by omega))
  have HMr := Lib.hid (fun (h40 : a.bl.length ≤ 40 ∧ a.ns.length ≤ 40 ∧ a.zs.length ≤ 40) (wx : World) (h : Below w.heap.size w wx) => hr_May a v0 m wx hm (hV.below h) hx.1.2.2.1 (by omega) (by omega) (by omega))
  have HSh' := Lib.hid (fun (h40 : a.bl.length ≤ 40 ∧ a.ns.length ≤ 40 ∧ a.zs.length ≤ 40) (wx : World) (h : Below w.heap.size w wx) => h_Same a b v0 v1 r wx hr (hV.below h) (hU.below h) hx.1 hy.1 (by omega) (by omega) (by omega))
  have HSr := Lib.hid (fun (h40 : a.bl.length ≤ 40 ∧ a.ns.length ≤ 40 ∧ a.zs.length ≤ 40) (wx : World) (h : Below w.heap.size w wx) => hr_Same a b v0 v1 r wx hr (hV.below h) (hU.below h) hx.1 hy.1 (by omega) (by omega) (by omega))
  have HSv := Lib.hid (fun (h40 : a.bl.length ≤ 40 ∧ a.ns.length ≤ 40 ∧ a.zs.length ≤ 40) (wx : World) (h : Below w.heap.size w wx) => h_Same a a v0 v0 true wx (same_self a) (hV.below h) (hV.below h) hx.1 hx.1 (by omega) (by omega) (by omega))
  obtain ⟨e1, e2, e3, rfl, ⟨pb, cb, rfl⟩, ⟨pn, cn, rfl⟩, ⟨pz, cz, rfl⟩, sb, sn, sz⟩ := hV
  obtain ⟨f1, f2, f3, rfl, ⟨qb, db, rfl⟩, ⟨qn, dn, rfl⟩, ⟨qz, dz, rfl⟩, tb, tn, tz⟩ := hU
  have SZ := Lib.hid sz
  obtain ⟨B, hB⟩ : ∃ B, w.heap.size = B := ⟨_, rfl⟩
  have HBE := Lib.hid hB
  have k0 := (Blk.newAt w B hB 27 (c := (cellsV a.id (.slice pb a.bl.length cb) (.slice pn a.ns.length cn) (.slice pz a.zs.length cz)).toArray) _ rfl).alloc (.cells (cellsV b.id (.slice qb b.bl.length db) (.slice qn b.ns.length dn) (.slice qz b.zs.length dz)).toArray 27)
  have k1 := Blk.newAt (w.alloc (.cells (cellsV a.id (.slice pb a.bl.length cb) (.slice pn a.ns.length cn) (.slice pz a.zs.length cz)).toArray 27)) (B + 1) (by simp [hB]) 27 (c := (cellsV b.id (.slice qb b.bl.length db) (.slice qn b.ns.length dn) (.slice qz b.zs.length dz)).toArray) _ rfl
  have KA0 := Lib.hid k0
  have KB0 := Lib.hid k1
  have HBa := Lib.hid (((Below.refl w.heap.size w).alloc (Nat.le_refl _) (.cells (cellsV a.id (.slice pb a.bl.length cb) (.slice pn a.ns.length cn) (.slice pz a.zs.length cz)).toArray 27)).alloc (by simp) (.cells (cellsV b.id (.slice qb b.bl.length db) (.slice qn b.ns.length dn) (.slice qz b.zs.length dz)).toArray 27))
  clear k0 k1 sb sn sz tb tn tz hx hy hE hm hr
  cases b0 with
  | true =>
    clear hb0 hb1
    go_enter Try.func3, Try.ntmps3
    go_wp2_with (first | (refine wpList_load_blkV rfl 27 _ rfl B rfl KA0.out Try.underlying27 rfl (by rw [size_ver]; rfl) ?_) | (refine wpList_load_blkV rfl 27 _ rfl (B + 1) rfl KB0.out Try.underlying27 rfl (by rw [size_ver]; rfl) ?_) | (go_at_call 9; (with_reducible refine (HSh.out _).mono ?_); rintro e w9 ⟨rfl, hb9⟩; have HB9 := Lib.hid (HBx.out.trans (hb9.mono HBx.out.size)); clear hb9) | (go_at_call 8; (with_reducible refine (HH0.out _ HBa.out).mono ?_); rintro e w3 ⟨rfl, hb3⟩; have HBx := Lib.hid (HBa.out.trans (hb3.mono HBa.out.size)); clear hb3))
    go_ret
    exact ⟨rfl, by first | exact HB9.out | (have h := HB9.out; rw [hB] at h; exact h)⟩
  | false =>
    obtain ⟨h40, n40, z40, x100⟩ := heavyV_no.1 hb0
    cases b1 with
    | true =>
      clear hb0 hb1 h40 n40 z40 x100
      go_enter Try.func3, Try.ntmps3
      go_wp2_with (first | (refine wpList_load_blkV rfl 27 _ rfl B rfl KA0.out Try.underlying27 rfl (by rw [size_ver]; rfl) ?_) | (refine wpList_load_blkV rfl 27 _ rfl (B + 1) rfl KB0.out Try.underlying27 rfl (by rw [size_ver]; rfl) ?_) | (go_at_call 9; (with_reducible refine (HSh.out _).mono ?_); rintro e w9 ⟨rfl, hb9⟩; have HB9 := Lib.hid (HBx.out.trans (hb9.mono HBx.out.size)); clear hb9) | (go_at_call 8; (with_reducible refine (HH0.out _ HBa.out).mono ?_); rintro e w3 ⟨rfl, hb3⟩; have HB3 := Lib.hid (HBa.out.trans (hb3.mono HBa.out.size)); have KA3 := Lib.hid (KA0.out.below hb3 KA0.out.lt); have KB3 := Lib.hid (KB0.out.below hb3 KB0.out.lt); clear hb3) | (refine wpList_load_blkV rfl 27 _ rfl B rfl KA3.out Try.underlying27 rfl (by rw [size_ver]; rfl) ?_) | (refine wpList_load_blkV rfl 27 _ rfl (B + 1) rfl KB3.out Try.underlying27 rfl (by rw [size_ver]; rfl) ?_) | (go_at_call 8; (with_reducible refine (HH1.out _ HB3.out).mono ?_); rintro e w4 ⟨rfl, hb4⟩; have HBx := Lib.hid (HB3.out.trans (hb4.mono HB3.out.size)); clear hb4))
      go_ret
      exact ⟨rfl, by first | exact HB9.out | (have h := HB9.out; rw [hB] at h; exact h)⟩
    | false =>
      have EH := Lib.hid (HEh.out ⟨h40, n40, z40⟩)
      have ER := Lib.hid (HEr.out ⟨h40, n40, z40⟩)
      have MH := Lib.hid (HMh.out ⟨h40, n40, z40⟩)
      have MR := Lib.hid (HMr.out ⟨h40, n40, z40⟩)
      have SH := Lib.hid (HSh'.out ⟨h40, n40, z40⟩)
      have SR := Lib.hid (HSr.out ⟨h40, n40, z40⟩)
      have SV := Lib.hid (HSv.out ⟨h40, n40, z40⟩)
      have HZ := Lib.hid z40
      clear hb0 hb1 h40 n40 z40 x100 HEh HEr HMh HMr HSh' HSr HSv
      go_enter Try.func3, Try.ntmps3
      go_wp2_with (first | (refine wpList_load_blkV rfl 27 _ rfl B rfl KA0.out Try.underlying27 rfl (by rw [size_ver]; rfl) ?_) | (refine wpList_load_blkV rfl 27 _ rfl (B + 1) rfl KB0.out Try.underlying27 rfl (by rw [size_ver]; rfl) ?_) | (go_at_call 8; (with_reducible refine (HH0.out _ HBa.out).mono ?_); rintro e w3 ⟨rfl, hb3⟩; have HB3 := Lib.hid (HBa.out.trans (hb3.mono HBa.out.size)); have KA3 := Lib.hid (KA0.out.below hb3 KA0.out.lt); have KB3 := Lib.hid (KB0.out.below hb3 KB0.out.lt); clear hb3) | (refine wpList_load_blkV rfl 27 _ rfl B rfl KA3.out Try.underlying27 rfl (by rw [size_ver]; rfl) ?_) | (refine wpList_load_blkV rfl 27 _ rfl (B + 1) rfl KB3.out Try.underlying27 rfl (by rw [size_ver]; rfl) ?_) | (go_at_call 8; (with_reducible refine (HH1.out _ HB3.out).mono ?_); rintro e w4 ⟨rfl, hb4⟩; have HBx := Lib.hid (HB3.out.trans (hb4.mono HB3.out.size)); have KAx := Lib.hid (KA3.out.below hb4 KA3.out.lt); have KBx := Lib.hid (KB3.out.below hb4 KB3.out.lt); clear hb4) | (go_at_call 9; (with_reducible refine (HSh.out _).mono ?_); rintro e w5 ⟨rfl, hb5⟩; have HB5 := Lib.hid (HBx.out.trans (hb5.mono HBx.out.size)); have KA5 := Lib.hid (KAx.out.below hb5 KAx.out.lt); have KB5 := Lib.hid (KBx.out.below hb5 KBx.out.lt); clear hb5) | (refine wpList_load_blkV rfl 27 _ rfl B rfl KA5.out Try.underlying27 rfl (by rw [size_ver]; rfl) ?_) | (refine wpList_load_blkV rfl 27 _ rfl (B + 1) rfl KB5.out Try.underlying27 rfl (by rw [size_ver]; rfl) ?_) | (go_at_call 10; (with_reducible refine (EH.out _ HB5.out).mono ?_); rintro e w6 ⟨rfl, hb6⟩; have HB6 := Lib.hid (HB5.out.trans (hb6.mono HB5.out.size)); have KA6 := Lib.hid (KA5.out.below hb6 KA5.out.lt); have KB6 := Lib.hid (KB5.out.below hb6 KB5.out.lt); clear hb6) | (refine wpList_load_blkV rfl 27 _ rfl B rfl KA6.out Try.underlying27 rfl (by rw [size_ver]; rfl) ?_) | (refine wpList_load_blkV rfl 27 _ rfl (B + 1) rfl KB6.out Try.underlying27 rfl (by rw [size_ver]; rfl) ?_) | (go_at_call 11; (with_reducible refine (ER.out _ HB6.out).mono ?_); rintro e w7 ⟨rfl, hb7⟩; have HB7 := Lib.hid (HB6.out.trans (hb7.mono HB6.out.size)); have KA7 := Lib.hid (KA6.out.below hb7 KA6.out.lt); have KB7 := Lib.hid (KB6.out.below hb7 KB6.out.lt); clear hb7))
      clear KA0 KB0 HBa HB3 KA3 KB3 HBx KAx KBx HB5 KA5 KB5 HB6 KA6 KB6 EH ER HH0 HH1 HSh
      have inB := fun (wx : World) (h : NewBut w7 wx) => HB7.out.trans (Below.mono h HB7.out.size)
      have QMh := Lib.hid (fun (wx : World) (h : NewBut w7 wx) => (MH.out wx (inB wx h)).mono fun _ _ ⟨x1, x2⟩ => (⟨x1, h.trans (x2.mono h.size)⟩ : _ ∧ NewBut w7 _))
      have QMr := Lib.hid (fun (wx : World) (h : NewBut w7 wx) => (MR.out wx (inB wx h)).mono fun _ _ ⟨x1, x2⟩ => (⟨x1, h.trans (x2.mono h.size)⟩ : _ ∧ NewBut w7 _))
      have QSh := Lib.hid (fun (wx : World) (h : NewBut w7 wx) => (SH.out wx (inB wx h)).mono fun _ _ ⟨x1, x2⟩ => (⟨x1, h.trans (x2.mono h.size)⟩ : _ ∧ NewBut w7 _))
      have QSr := Lib.hid (fun (wx : World) (h : NewBut w7 wx) => (SR.out wx (inB wx h)).mono fun _ _ ⟨x1, x2⟩ => (⟨x1, h.trans (x2.mono h.size)⟩ : _ ∧ NewBut w7 _))
      have QSv := Lib.hid (fun (wx : World) (h : NewBut w7 wx) => (SV.out wx (inB wx h)).mono fun _ _ ⟨x1, x2⟩ => (⟨x1, h.trans (x2.mono h.size)⟩ : _ ∧ NewBut w7 _))
      have QBh := Lib.hid (fun (wx : World) (h : NewBut w7 wx) => (h_Blocks a.zs pz cz wx (by have := HZ.out; omega) (SZ.out.below (inB wx h))).mono fun _ _ ⟨x1, x2⟩ => (⟨x1, h.trans (x2.mono h.size)⟩ : _ ∧ NewBut w7 _))
      have QBr := Lib.hid (fun (wx : World) (h : NewBut w7 wx) => (hr_Blocks a.zs pz cz wx (by have := HZ.out; omega) (SZ.out.below (inB wx h))).mono fun _ _ ⟨x1, x2⟩ => (⟨x1, h.trans (x2.mono h.size)⟩ : _ ∧ NewBut w7 _))
      have PA : Hid (∀ wx, NewBut w7 wx → ∀ j v, (cellsV a.id (.slice pb a.bl.length cb) (.slice pn a.ns.length cn) (.slice pz a.zs.length cz))[j]? = some v → wx.cell? ((⟨B, 0, none⟩ : Addr).add j) = some v) := Lib.hid fun wx h j v hv => by
        have := (KA7.out.below h KA7.out.lt).cell j
        rw [hv] at this
        rw [Addr.add_mid, Nat.zero_add]
        exact this
      have PB : Hid (∀ wx, NewBut w7 wx → ∀ j v, (cellsV b.id (.slice qb b.bl.length db) (.slice qn b.ns.length dn) (.slice qz b.zs.length dz))[j]? = some v → wx.cell? ((⟨B + 1, 0, none⟩ : Addr).add j) = some v) := Lib.hid fun wx h j v hv => by
        have := (KB7.out.below h KB7.out.lt).cell j
        rw [hv] at this
        rw [Addr.add_mid, Nat.zero_add]
        exact this
      have PZ : Hid (∀ wx, NewBut w7 wx → wx.cell? ⟨B, 3, none⟩ = some (.slice pz a.zs.length cz)) := Lib.hid fun wx h => by
        rw [(KA7.out.below h KA7.out.lt).cell]
        rfl
      have t1 := txt_same s
      clear MH MR SH SR SV SZ HZ inB
      obtain ⟨nB, hnB⟩ : ∃ nB : Int, ((blocksH a.zs : Nat) : Int) = nB := ⟨_, rfl⟩
      rw [hnB] at QBh QBr
      clear hnB
      obtain ⟨eI, heI⟩ : ∃ eI : Int, ((er : Nat) : Int) = eI := ⟨_, rfl⟩
      simp only [heI]
      clear heI
      have t2 : (eI == eI) = true := by simp
      have t3 : (m == m) = true := by simp
      have t4 : (nB == nB) = true := by simp
      have t5 : (r == r) = true := by simp
      go_wp2_with fail
      refine region_quiet_tail (C := NewBut w7) 38 mixed (by kernel_rfl) (show Below _ _ _ from (Below.refl _ _).drew) ?_
      simp only [List.take_succ_cons, List.take_zero, List.drop_succ_cons, List.drop_zero]
      repeat (first | (refine wpQuiet_load_addr rfl 27 _ rfl ⟨B, 0, none⟩ rfl (cellsV a.id (.slice pb a.bl.length cb) (.slice pn a.ns.length cn) (.slice pz a.zs.length cz)) PA.out Try.underlying27 rfl (by rw [size_ver]; rfl) ?_) | (refine wpQuiet_load_addr rfl 27 _ rfl ⟨B + 1, 0, none⟩ rfl (cellsV b.id (.slice qb b.bl.length db) (.slice qn b.ns.length dn) (.slice qz b.zs.length dz)) PB.out Try.underlying27 rfl (by rw [size_ver]; rfl) ?_) | (refine wpQuiet_load_one rfl 25 _ rfl ⟨B, 3, none⟩ rfl _ PZ.out Try.underlying25 rfl ?_) | go_big_quiet_step (fail) | (refine wpQuiet_step (fun K' hK' => ?_); go_simp; first | (refine hK' _ ?_; clear hK' K') | (refine ⟨_, fun _ _ => rfl, hK' _ ?_⟩; clear hK' K') | ((with_reducible refine ⟨_, fun wx hx => QMh.out wx hx, hK' _ ?_⟩); clear hK' K') | ((with_reducible refine ⟨_, fun wx hx => QMr.out wx hx, hK' _ ?_⟩); clear hK' K') | ((with_reducible refine ⟨_, fun wx hx => QBh.out wx hx, hK' _ ?_⟩); clear hK' K') | ((with_reducible refine ⟨_, fun wx hx => QBr.out wx hx, hK' _ ?_⟩); clear hK' K') | ((with_reducible refine ⟨_, fun wx hx => QSh.out wx hx, hK' _ ?_⟩); clear hK' K') | ((with_reducible refine ⟨_, fun wx hx => QSr.out wx hx, hK' _ ?_⟩); clear hK' K') | ((with_reducible refine ⟨_, fun wx hx => QSv.out wx hx, hK' _ ?_⟩); clear hK' K')))
      refine wpQuiet_nil ?_
      intro w8 hb8
      have HB8 := Lib.hid (HB7.out.trans (Below.mono hb8 HB7.out.size))
      clear hb8
      go_wp2
      go_ret
      exact ⟨by simp, by first | exact HB8.out | (have h := HB8.out; rw [hB] at h; exact h)⟩

set_option maxRecDepth 100000 in
theorem lifted (os : Os) (started : os.Started) (H : Type) (enc : TypeId × Value → H) :
    ReturnsInHanded {} Try.checked os 3 .any (Rows.headerTellsSpec.pre6 enc Try.prog Try.f3 Rows.headerTellsRow.domain false) (Rows.headerTellsSpec.post enc Try.prog Try.f3 false true false false) := by
  refine returnsInHanded_of_change (C := Try.checked) own started (by kernel_rfl) Try.func3
    (ChangeSpec.witness6 (enc := enc) (C := Try.checked) false ⟨#[], #[.agg #[.int .u32 0, .slice none 0 0, .slice none 0 0, .slice none 0 0], .agg #[.int .u32 0, .slice none 0 0, .slice none 0 0, .slice none 0 0]], []⟩ 8 (by kernel_rfl) (by kernel_rfl) (by kernel_rfl) (by kernel_rfl)) ?_
  intro W base args ds gs before hval0 hW hcnd _
  have hval : ∀ (j : Nat) t v, Try.f3.params[j]? = some t → args[j]? = some v → Value.okWide Try.prog W .any base t v := hval0
  have hW' := hW
  obtain ⟨p, q, hA0, hV, rfl, hfz, hnd⟩ := hW
  have hA : DataW.TrodAll enc Try.prog W 0 (fun _ => true) true Try.f3.params.toList args.toList ds p := hA0
  rw [Try.params3] at hA hval
  obtain ⟨v0, vs0, d0, ds0, p0, q0, hargs, rfl, rfl, h0, r0⟩ := trodAll_cons hA
  obtain ⟨v1, vs1, d1, ds1, p1, q1, rfl, rfl, rfl, h1, r1⟩ := trodAll_cons r0
  obtain ⟨rfl, rfl, rfl⟩ := trodAll_nil r1
  obtain rfl : args = #[v0, v1] := by cases args; simp_all
  obtain ⟨rfl, rfl⟩ := trodVars_none hV
  have k0 := h0
  have lt0 : ∀ x ∈ p0, x.block < W.heap.size := by obtain ⟨m, hm⟩ := k0; exact DataW.trod_lt m _ _ _ hm
  obtain ⟨l0, S0, n0⟩ := open_version (hval 0 27 v0 rfl rfl) h0
  have k1 := h1
  have lt1 : ∀ x ∈ p1, x.block < W.heap.size := by obtain ⟨m, hm⟩ := k1; exact DataW.trod_lt m _ _ _ hm
  obtain ⟨l1, S1, n1⟩ := open_version (hval 1 27 v1 rfl rfl) h1
  clear hA0 hval0
  simp only [List.append_nil] at hW'
  refine (walk l0 v0 l1 v1 n0 n1 W S0 S1).mono fun e W' ⟨he, bel⟩ => ?_
  subst he
  exact ⟨_, rfl, _, _, _, [], _, [], hW', trodAll_mk1 (shut_bool Try.underlying4 _), (trodAll_cons_mk (Below.trod laidOut (by kernel_rfl) (of_decide_eq_true (by kernel_rfl)) k0 bel lt0) (trodAll_cons_mk (Below.trod laidOut (by kernel_rfl) (of_decide_eq_true (by kernel_rfl)) k1 bel lt1) trodAll_mk0)), rfl, bel.frame _, fun h => by cases h⟩

theorem over : Rows.headerTellsRow.holds Try.pinned (OpenSpec.ofChange Rows.headerTellsSpec) :=
  OpenClaim.holds_of_wide 3 Try.f3 rfl rfl rfl rfl rfl rfl rfl ⟨rfl, rfl, rfl, rfl, rfl⟩ rfl rfl rfl rfl rfl (by kernel_rfl) Try.func3 (by kernel_rfl)
    (of_decide_eq_true (by kernel_rfl)) (by unfold Func.isWrapper; first | (rw [if_pos (by decide +kernel)]; kernel_rfl) | (rw [if_neg (by decide +kernel)]; exact ⟨rfl, rfl⟩))
    (fun os started H enc _ => lifted os started H enc)

theorem proved : Rows.HeaderTellsSaid :=
  over
#print axioms proved
end Go.Proofs.Ytahfjfhiejhddaa.headerTells
