/-
  For every version: it has so many bytes as its names, sizes and blocks come to, or none. Versions beyond the bound are answered by the case shown alone. No condition.
-/
import Derived.Test.YtahfjfhiejhddaaRows
import Derived.Test.YtahfjfhiejhddaaHShw
import Derived.ShutString
import Derived.ChangeOld
namespace Go.Proofs.Ytahfjfhiejhddaa.headerSizes
open Go.ChangeShapes Go.WideShapes Go.ChangeAt Go.RowKit
open Go.ChangeMaps (open_string shut_string)
set_option linter.unusedVariables false

theorem sumZ_snoc {l : List (List Nat × Nat)} {k : Nat} {f : List Nat × Nat} (h : l[k]? = some f) : sumF ((l.take (k + 1)).map fileZ) = sumF ((l.take k).map fileZ) + fileZ f := by
  obtain ⟨hk, rfl⟩ := List.getElem?_eq_some_iff.1 h
  rw [List.take_succ_eq_append_getElem hk, List.map_append, sumF_app]
  simp [sumF]
theorem sumZ_le (l : List (List Nat × Nat)) (h : ∀ f ∈ l, f.1.length ≤ 100) (k : Nat) : sumF ((l.take k).map fileZ) ≤ 103 * l.length := by
  have h1 := sumF_le (l := (l.take k).map fileZ) (n := 103) fun x hx => by
    obtain ⟨f, hf, rfl⟩ := List.mem_map.1 hx
    have := h f (List.mem_of_mem_take hf)
    unfold fileZ
    split <;> omega
  rw [List.length_map, List.length_take] at h1
  have h2 : 103 * min k l.length ≤ 103 * l.length := Nat.mul_le_mul_left _ (by omega)
  omega
set_option maxHeartbeats 4000000 in
set_option maxRecDepth 100000 in
theorem walk (a : RawV) (v : Value) (hx : a.ok ∧ a.bl.length ≤ maxLen ∧ a.ns.length ≤ maxLen ∧ a.zs.length ≤ maxLen) (w : World) (hV : VV w v a) :
    Calls Try.prog 7 #[v] w fun e w' => e = .returned (.bool true) ∧ Below w.heap.size w w' := by
  have HSh := Lib.hid (fun w => l12_shown w)
  obtain ⟨b, hb⟩ : ∃ b, heavyV a = b := ⟨_, rfl⟩
  have HHv := Lib.hid (fun (wx : World) (h : Below w.heap.size w wx) => l12_heavy a v b wx hb (hV.below h))
  have HK := Lib.hid hx.1
  obtain ⟨s, er, hE⟩ : ∃ s er, encT a = (s, er) := ⟨_, _, rfl⟩
  have HEn := Lib.hid (fun (h40 : a.bl.length ≤ 40 ∧ a.ns.length ≤ 40 ∧ a.zs.length ≤ 40) (wx : World) (h : Below w.heap.size w wx) => h_Encode a v s er wx hE (hV.below h) hx.1 (by omega) (by omega) (by omega))
  obtain ⟨vb, vn, vz, rfl, ⟨pb, cb, rfl⟩, ⟨pn, cn, rfl⟩, ⟨pz, cz, rfl⟩, sb, sn, sz⟩ := hV
  obtain ⟨B, hB⟩ : ∃ B, w.heap.size = B := ⟨_, rfl⟩
  have HBE := Lib.hid hB
  have k0 := Blk.newAt w B hB 27 (c := (cellsV a.id (.slice pb a.bl.length cb) (.slice pn a.ns.length cn) (.slice pz a.zs.length cz)).toArray) _ rfl
  have K0 := Lib.hid k0
  have KB := Lib.hid ((Below.refl w.heap.size w).alloc (Nat.le_refl _) (.cells (cellsV a.id (.slice pb a.bl.length cb) (.slice pn a.ns.length cn) (.slice pz a.zs.length cz)).toArray 27))
  have SN := Lib.hid sn
  have SZ := Lib.hid sz
  clear k0 sb sn sz hx
  generalize hW1 : (w.alloc (.cells (cellsV a.id (.slice pb a.bl.length cb) (.slice pn a.ns.length cn) (.slice pz a.zs.length cz)).toArray 27)) = w1 at *
  cases b with
  | true =>
    clear hb hE
    go_enter Try.func7, Try.ntmps7
    go_wp2_with (first | (refine wpList_load_blk rfl 27 _ rfl B rfl K0.out Try.underlying27 rfl (by rw [size_ver]; rfl) ?_) | (go_at_call 9; (with_reducible refine (HSh.out _).mono ?_); rintro e w3 ⟨rfl, hb3⟩; have HB3 := Lib.hid (HB2.out.trans (hb3.mono HB2.out.size)); clear hb3) | (go_at_call 8; (refine (HHv.out w1 KB.out).mono ?_); rintro e w2 ⟨rfl, hb2⟩; have HB2 := Lib.hid (KB.out.trans (hb2.mono KB.out.size)); clear hb2))
    go_ret
    exact ⟨rfl, by first | exact HB3.out | (have h := HB3.out; rw [hB] at h; exact h)⟩
  | false =>
    obtain ⟨h40, n40, z40, x100⟩ := heavyV_no.1 hb
    have HEn2 := Lib.hid (HEn.out ⟨h40, n40, z40⟩)
    clear hb HEn
    go_enter Try.func7, Try.ntmps7
    go_wp2_with (first | (refine wpList_load_blk rfl 27 _ rfl B rfl K0.out Try.underlying27 rfl (by rw [size_ver]; rfl) ?_) | (go_at_call 8; (refine (HHv.out w1 KB.out).mono ?_); rintro e w2 ⟨rfl, hb2⟩; have HB2 := Lib.hid (KB.out.trans (hb2.mono KB.out.size)); have K2 := Lib.hid (K0.out.below hb2 K0.out.lt); clear hb2) | (go_at_call 9; (with_reducible refine (HSh.out _).mono ?_); rintro e w3 ⟨rfl, hb3⟩; have HB3 := Lib.hid (HB2.out.trans (hb3.mono HB2.out.size)); have K3 := Lib.hid (K2.out.below hb3 K2.out.lt); clear hb3) | (refine wpList_load_blk rfl 27 _ rfl B rfl K3.out Try.underlying27 rfl (by rw [size_ver]; rfl) ?_))
    refine (HEn2.out _ HB3.out).mono ?_
    rintro e w4 ⟨rfl, hb4⟩
    have HB4 := Lib.hid (HB3.out.trans (hb4.mono HB3.out.size))
    have K4 := Lib.hid (K3.out.below hb4 K3.out.lt)
    clear hb4 HB2 HB3 K2 K3 K0 KB HHv HSh HEn2 hW1
    by_cases hm : mayH a.bl.length a.ns a.zs = true
    · obtain ⟨hok, hnm, hzm⟩ := ver_okR HK.out hm
      have hes : tx (verE a.ver) = s ∧ 0 = er := by
        unfold encT at hE
        rw [if_pos hm] at hE
        simpa using hE
      obtain ⟨rfl, rfl⟩ := hes
      obtain ⟨m1, m2, m3, m4, _⟩ := mayH_iff.1 hm
      have hlen := ver_len hok
      have hz := tx_size (verE a.ver)
      have hbl : a.ver.blocks.length = a.bl.length := rfl
      rw [hlen, hbl] at hz
      have hfl := files_len' (a := a) m2
      have HS := Lib.hid (show (tx (verE a.ver)).size = 6 + 32 * a.bl.length + sumF ((a.ver.files.take a.ns.length).map fileZ) by rw [hz, ← hfl, List.take_length]; omega)
      have HLE := Lib.hid (sumZ_le a.ver.files fun f hf => x100 f.1 (by rw [← hnm]; exact List.mem_map.2 ⟨f, hf, rfl⟩))
      have HFL := Lib.hid hfl
      have HL := Lib.hid m2
      have HMZ := Lib.hid (fun z hz => m4 z hz)
      have c1 : w4.cell? ⟨B, 1, none⟩ = some (.slice pb a.bl.length cb) := by rw [K4.out.cell]; rfl
      generalize tx (verE a.ver) = S at *
      clear hE hm hok hnm hzm hlen hz hfl m1 m2 m3 m4 x100 hbl
      go_wp2
      clear c1
      go_loopw [5, 6] (fun u i wr => ∃ k : Nat, k ≤ a.ns.length ∧ i = .int .i64 (k : Int) ∧ u = .int .i64 ((6 + 32 * a.bl.length + sumF ((a.ver.files.take k).map fileZ) : Nat) : Int) ∧ Below w4.heap.size w4 wr) (fun _ i _ => a.ns.length - (intOf i).toNat)
      case atStart => exact ⟨0, by omega, rfl, by simp [sumF]; omega, Below.refl _ _⟩
      case round =>
        obtain ⟨k, hk, rfl, rfl, gb⟩ := hrel
        have KR := Lib.hid (K4.out.below gb K4.out.lt)
        have HBR := Lib.hid (HB4.out.trans (gb.mono HB4.out.size))
        have c2 : wr.cell? ⟨B, 2, none⟩ = some (.slice pn a.ns.length cn) := by rw [KR.out.cell]; rfl
        have c3 : wr.cell? ⟨B, 3, none⟩ = some (.slice pz a.zs.length cz) := by rw [KR.out.cell]; rfl
        have hle := HLE.out k
        rw [HFL.out] at hle
        by_cases hlt : k < a.ns.length
        · have hzl : k < a.zs.length := by rw [← HL.out]; exact hlt
          obtain ⟨an, rfl, y1⟩ := SlS.cell (SN.out.below HBR.out) hlt
          obtain ⟨az, rfl, y2⟩ := SlZ.cell (l := a.zs) (j := k) (SZ.out.below HBR.out) hzl
          have dk : (k : Int) < (a.ns.length : Int) := by omega
          have dz : (k : Int) < (a.zs.length : Int) := by omega
          have hf := file_at a hlt hzl
          have HSN := Lib.hid (sumZ_snoc hf)
          have hq := HMZ.out _ (getZ_mem hzl)
          have hxz := tx_size (a.ns.getD k [])
          have hfz : fileZ (a.ns.getD k [], (a.zs.getD k 0).toNat) = 2 + (tx (a.ns.getD k [])).size + (if (127 : Int) < a.zs.getD k 0 then 1 else 0) := by
            unfold fileZ
            rw [hxz]
            simp only
            split <;> split <;> omega
          have HFZ := Lib.hid hfz
          have hxl : (tx (a.ns.getD k [])).size ≤ 100000 := by
            have h2 := HLE.out (k + 1)
            rw [HSN.out, HFL.out, hfz] at h2
            omega
          clear hfz hf hxz
          generalize tx (a.ns.getD k []) = X at *
          generalize sumF ((a.ver.files.take k).map fileZ) = N at *
          generalize a.zs.getD k 0 = z at *
          by_cases h127 : (127 : Int) < z
          · have HFY := Lib.hid (show fileZ (a.ns.getD k [], z.toNat) = 2 + X.size + 1 by rw [HFZ.out, if_pos h127])
            clear HFZ
            go_wp2
            go_roundw
            case rel => exact ⟨k + 1, by omega, by go_num, by rw [HSN.out, HFY.out]; go_num, gb⟩
            case measure => (simp [intOf]; omega)
          · have HFY := Lib.hid (show fileZ (a.ns.getD k [], z.toNat) = 2 + X.size by rw [HFZ.out, if_neg h127, Nat.add_zero])
            clear HFZ
            go_wp2
            go_roundw
            case rel => exact ⟨k + 1, by omega, by go_num, by rw [HSN.out, HFY.out]; go_num, gb⟩
            case measure => (simp [intOf]; omega)
        · obtain rfl : k = a.ns.length := by omega
          rw [← HS.out]
          go_wp2
          go_ret
          exact ⟨by simp, HBR.out⟩
    · have hes : (⟨#[]⟩ : ByteArray) = s ∧ 1 = er := by
        unfold encT at hE
        rw [if_neg hm] at hE
        simpa using hE
      obtain ⟨rfl, rfl⟩ := hes
      clear hE hm x100
      go_wp2
      go_ret
      exact ⟨rfl, by first | exact HB4.out | (have h := HB4.out; rw [hB] at h; exact h)⟩

set_option maxRecDepth 100000 in
theorem lifted (os : Os) (started : os.Started) (H : Type) (enc : TypeId × Value → H) :
    ReturnsInHanded {} Try.checked os 7 .any (Rows.headerSizesSpec.pre6 enc Try.prog Try.f7 Rows.headerSizesRow.domain false) (Rows.headerSizesSpec.post enc Try.prog Try.f7 false true false false) := by
  refine returnsInHanded_of_change (C := Try.checked) own started (by kernel_rfl) Try.func7
    (ChangeSpec.witness6 (enc := enc) (C := Try.checked) false ⟨#[], #[.agg #[.int .u32 0, .slice none 0 0, .slice none 0 0, .slice none 0 0]], []⟩ 8 (by kernel_rfl) (by kernel_rfl) (by kernel_rfl) (by kernel_rfl)) ?_
  intro W base args ds gs before hval0 hW hcnd _
  have hval : ∀ (j : Nat) t v, Try.f7.params[j]? = some t → args[j]? = some v → Value.okWide Try.prog W .any base t v := hval0
  have hW' := hW
  obtain ⟨p, q, hA0, hV, rfl, hfz, hnd⟩ := hW
  have hA : DataW.TrodAll enc Try.prog W 0 (fun _ => true) true Try.f7.params.toList args.toList ds p := hA0
  rw [Try.params7] at hA hval
  obtain ⟨v0, vs0, d0, ds0, p0, q0, hargs, rfl, rfl, h0, r0⟩ := trodAll_cons hA
  obtain ⟨rfl, rfl, rfl⟩ := trodAll_nil r0
  obtain rfl : args = #[v0] := by cases args; simp_all
  obtain ⟨rfl, rfl⟩ := trodVars_none hV
  have k0 := h0
  have lt0 : ∀ x ∈ p0, x.block < W.heap.size := by obtain ⟨m, hm⟩ := k0; exact DataW.trod_lt m _ _ _ hm
  obtain ⟨l0, S0, n0⟩ := open_version (hval 0 27 v0 rfl rfl) h0
  clear hA0 hval0
  simp only [List.append_nil] at hW'
  refine (walk l0 v0 n0 W S0).mono fun e W' ⟨he, bel⟩ => ?_
  subst he
  exact ⟨_, rfl, _, _, _, [], _, [], hW', trodAll_mk1 (shut_bool Try.underlying4 _), (trodAll_cons_mk (Below.trod laidOut (by kernel_rfl) (of_decide_eq_true (by kernel_rfl)) k0 bel lt0) trodAll_mk0), rfl, bel.frame _, fun h => by cases h⟩

theorem over : Rows.headerSizesRow.holds Try.pinned (OpenSpec.ofChange Rows.headerSizesSpec) :=
  OpenClaim.holds_of_wide 7 Try.f7 rfl rfl rfl rfl rfl rfl rfl ⟨rfl, rfl, rfl, rfl, rfl⟩ rfl rfl rfl rfl rfl (by kernel_rfl) Try.func7 (by kernel_rfl)
    (of_decide_eq_true (by kernel_rfl)) (by unfold Func.isWrapper; first | (rw [if_pos (by decide +kernel)]; kernel_rfl) | (rw [if_neg (by decide +kernel)]; exact ⟨rfl, rfl⟩))
    (fun os started H enc _ => lifted os started H enc)

theorem proved : Rows.HeaderSizesSaid :=
  over
#print axioms proved
end Go.Proofs.Ytahfjfhiejhddaa.headerSizes
