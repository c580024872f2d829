/- The walk of digest's Sum. -/
import Derived.Test.YtadppbjchacjiaaDW5
import Derived.Deep.WholeRow
namespace Go.Proofs.Ytadppbjchacjiaa
open Go.RowKit
set_option linter.unusedVariables false

def shaTail (s : ByteArray) : ByteArray := s.extract (s.size / 64 * 64) s.size ++ bs (fillL (s.size - s.size / 64 * 64) s.size)
theorem shaTail_size (s : ByteArray) : (shaTail s).size = 64 * ((shaTail s).size / 64) ∧ (shaTail s).size ≤ 128 := by
  have h := fillL_len (s.size - s.size / 64 * 64) s.size
  have : (shaTail s).size = (s.size - s.size / 64 * 64) + fillLen (s.size - s.size / 64 * 64) := by
    rw [shaTail, ByteArray.size_append, bs_size, h, ByteArray.size_extract]; omega
  rw [this]
  unfold fillLen
  omega

theorem built43 : Try.prog.built 43 [(0, Value.agg (ints .u32 kTable).toArray), (1, Value.agg (ints .u32 startL).toArray)] = some (ints .u32 (kTable ++ startL)).toArray := by kernel_rfl
theorem info43 : (Try.prog.info? 43).map (fun i => (i.zero, i.size)) = some (some (.agg (ints .u32 (zer 72)).toArray), 72) := by kernel_rfl
theorem size43 : (Try.prog.info? 43).map (·.size) = some 72 := by kernel_rfl

section
variable {P : Program} {ops : Array Oper} {rest : List Oper} {o : Oper} {a : Act} {w : World} {Q : Exit → Act → World → Prop}
/-- a composite that is known to come to these cells -/
theorem wpList_build_to (hg : o.guard = none) (t : TypeId) (parts : Array (Nat × Operand)) (ho : o.op = .build t parts) (vals : List (Nat × Value)) (cells : Array Value)
    (hv : (parts.map fun (i, x) => (i, a.eval x)).toList = vals) (hb : P.built t vals = some cells)
    (h : wpList P ops Q rest (a.put o.dst (.agg cells)) w) : wpList P ops Q (o :: rest) a w := by
  subst hv
  refine wpList_build hg t parts ho (by rw [hb]; rfl) ?_
  rw [hb]; exact h
end
def shaSumOf (K V : List Int) (s : ByteArray) : List Int :=
  hashL (shaBlocks K (shaBlocks K V (s.extract 0 (s.size / 64 * 64)) (s.size / 64)) (shaTail s) ((shaTail s).size / 64))

set_option maxHeartbeats 1000000 in
set_option maxRecDepth 100000 in
theorem d_Sum_of (K V : List Int) (hK : K.length = 64) (hV : V.length = 8)
    (hroots : ∀ w : World, Calls Try.prog 19 #[] w fun e w' => e = .returned (.agg (ints .u32 K).toArray) ∧ Below w.heap.size w w')
    (hstart : ∀ w : World, Calls Try.prog 20 #[] w fun e w' => e = .returned (.agg (ints .u32 V).toArray) ∧ Below w.heap.size w w')
    (hbuilt : Try.prog.built 43 [(0, Value.agg (ints .u32 K).toArray), (1, Value.agg (ints .u32 V).toArray)] = some (ints .u32 (K ++ V)).toArray)
    (s : ByteArray) (w : World) (hs : s.size ≤ 1099511627000) :
    Calls Try.prog 9 #[.string s] w fun e w' => e = .returned (.agg (ints .u8 (shaSumOf K V s)).toArray) ∧ Below w.heap.size w w' := by
  obtain ⟨hz43, _⟩ := zero_of_info info43
  have HB := Lib.hid hbuilt
  have hT := shaTail_size s
  have hfull : s.size / 64 * 64 ≤ s.size := Nat.div_mul_le_self _ _
  have HK := Lib.hid hK
  have HV := Lib.hid hV
  have HR := Lib.hid hroots
  have HS := Lib.hid hstart
  have HT := Lib.hid hT
  clear hK hV hroots hstart hbuilt hT
  generalize hZ : (ints IntKind.u32 (zer 72)) = Z at *
  have hZl : Z.length = 72 := by rw [← hZ]; rfl
  have HZ := Lib.hid hZl
  clear hZ hZl
  go_enter Try.func9, Try.ntmps9
  go_wp2_with (first | (go_at_call 19; refine (HR.out _).mono ?_; rintro e w1 ⟨rfl, hb1⟩) | (go_at_call 20; refine (HS.out _).mono ?_; rintro e w2 ⟨rfl, hb2⟩) | (refine wpList_store_blk rfl 43 _ _ rfl w2.heap.size (ints .u32 (K ++ V)) rfl rfl (Blk.new' w2 43 Z rfl) (by rw [size43, ints_length, List.length_append, HK.out, HV.out]) (by rw [ints_length, List.length_append, HK.out, HV.out, HZ.out]) (ints_one _ _) ?_) | (refine wpList_build_to rfl 43 _ rfl _ _ ?hv HB.out ?_; case hv => (simp only [List.map_toArray, List.map_cons, List.map_nil]; go_loud (rfl))))
  have hb3 : Below w.heap.size w ((w2.alloc (.cells Z.toArray 43)).setRow w2.heap.size (ints .u32 (K ++ V)).toArray) := by
    have h1 : Below w.heap.size w w1 := ((Below.refl _ _).alloc (Nat.le_refl _) _).trans (hb1.mono (by simp))
    have h2 : Below w.heap.size w w2 := h1.trans (hb2.mono h1.size)
    exact below_setRow (h2.alloc h2.size _) h2.size _
  have hr3 : Blk ((w2.alloc (.cells Z.toArray 43)).setRow w2.heap.size (ints .u32 (K ++ V)).toArray) w2.heap.size 43 (ints .u32 (K ++ V)) :=
    (Blk.new' w2 43 Z rfl).row _ (by rw [ints_length, List.length_append, HK.out, HV.out, HZ.out])
  have hB : w.heap.size < w2.heap.size := by
    have h1 := hb1.size
    have h2 := hb2.size
    simp at h1
    omega
  have hz3 : Blk ((w2.alloc (.cells Z.toArray 43)).setRow w2.heap.size (ints .u32 (K ++ V)).toArray) w.heap.size 23 (ints .u8 (zer 32)) := by
    refine Blk.rowOther (Blk.alloc ?_ _) (by omega) _
    exact ((Blk.new' w 23 (ints .u8 (zer 32)) rfl).below hb1 (by simp)).below hb2 (by have := hb1.size; simp at this; omega)
  generalize hw3 : World.setRow _ _ _ = w3 at *
  generalize w2.heap.size = B at *
  clear hw3
  refine (d_eachBlock B (s.size / 64) _ K V _ HK.out HV.out hr3 (by rw [ByteArray.size_extract]; omega) (by omega)).mono ?_
  rintro e w4 ⟨rfl, hr4, hb4⟩
  go_wp2_with fail
  have e0 : (0 : Int) ≤ (s.size : Int) / 64 * 64 := by omega
  have e1 : (s.size : Int) / 64 * 64 ≤ (s.size : Int) := by omega
  have e2 : ((s.size : Int) / 64 * 64).toNat = s.size / 64 * 64 := by omega
  have e3 : IntKind.i64.wrap ((s.size : Int) - (s.size : Int) / 64 * 64) = ((s.size - s.size / 64 * 64 : Nat) : Int) := by rw [IntWalk.i64_in _ (by omega)]; omega
  have hfil : ∀ wx, NewBut w4 wx → Calls Try.prog 23 #[.int .i64 ((s.size - s.size / 64 * 64 : Nat) : Int), .int .i64 (s.size : Int)] wx fun e w' => e = .returned (.string (bs (fillL (s.size - s.size / 64 * 64) s.size))) ∧ NewBut w4 w' := fun wx hx =>
    (d_filling (s.size - s.size / 64 * 64) s.size wx (by omega) (by omega)).mono fun e w' ⟨he, hb⟩ => ⟨he, hx.trans (hb.mono hx.size)⟩
  have HFil := Lib.hid hfil
  clear hfil
  have hts : (s.extract (s.size / 64 * 64) s.size).size + (bs (fillL (s.size - s.size / 64 * 64) s.size)).size ≤ 9223372036854775807 := by
    rw [bs_size, fillL_len, ByteArray.size_extract]
    have := fillLen_ge (s.size - s.size / 64 * 64)
    omega
  have hcat := fun w' => run_string_add_sum (P := Try.prog) w' _ _ hts
  clear hts
  refine region_quiet_tail (C := NewBut w4) 12 mixed (by kernel_rfl) (show Below _ _ _ from (Below.refl _ _).drew) ?_
  simp only [List.take_succ_cons, List.take_zero, List.drop_succ_cons, List.drop_zero]
  repeat (refine wpQuiet_step (fun K' hK' => ?_); go_simp; first | (refine ⟨_, fun _ _ => rfl, hK' _ ?_⟩; clear hK' K') | (refine ⟨_, fun wx hx => HFil.out wx hx, hK' _ ?_⟩; clear hK' K'))
  refine wpQuiet_nil ?_
  intro w5 hb5
  have hr5 := hr4.below hb5 hr4.lt
  have hV1 : Hid ((shaBlocks K V (s.extract 0 (s.size / 64 * 64)) (s.size / 64)).length = 8) := Lib.hid (by rw [shaBlocks_len, HV.out])
  have hBlt := hr3.lt
  go_wp2_with fail
  refine (d_eachBlock B ((shaTail s).size / 64) (shaTail s) K _ _ HK.out hV1.out hr5 HT.out.1 (by have := HT.out.2; omega)).mono ?_
  rintro e w6 ⟨rfl, hr6, hb6⟩
  have hV2 : Hid ((shaBlocks K (shaBlocks K V (s.extract 0 (s.size / 64 * 64)) (s.size / 64)) (shaTail s) ((shaTail s).size / 64)).length = 8) := Lib.hid (by rw [shaBlocks_len, hV1.out])
  have hz6 : Blk w6 w.heap.size 23 (ints .u8 (zer 32)) := ((hz3.below hb4 hB).below hb5 (by have := hb4.size; omega)).below hb6 hB
  have hw6 : Below w.heap.size w w6 := ((hb3.trans (hb4.mono (by omega))).trans (hb5.mono (by have := hb4.size; omega))).trans (hb6.mono (by omega))
  have hz7 : ∀ w7, Below w6.heap.size w6 w7 → Blk w7 w.heap.size 23 (ints .u8 (zer 32)) := fun w7 h => hz6.below h hz6.lt
  have HL : Hid (∀ v, (hashL v).length = 32) := Lib.hid hashL_len
  have HO : Hid (∀ v : List Int, (ints .u8 (hashL v)).length = 32) := Lib.hid (fun v => by rw [ints_length, hashL_len])
  go_wp2_with (first | (go_at_call 24; refine (d_hash B K _ _ HK.out hV2.out hr6).mono ?_; rintro e w7 ⟨rfl, hb7⟩) | (refine wpList_store_blk rfl 23 _ _ rfl w.heap.size (ints .u8 (shaSumOf K V s)) rfl rfl (hz7 _ hb7) (by rw [size_hash]; exact congrArg some (HO.out _).symm) (by rw [ints_length]; exact (HO.out _).symm) (ints_one _ _) ?_))
  refine bodyPost_ret (v := .agg (ints .u8 (shaSumOf K V s)).toArray) (results_cell_blk rfl _ _ _ rfl ((hz7 _ hb7).row (ints .u8 (shaSumOf K V s)) ((HO.out _).trans rfl)) Try.underlying23 rfl (by rw [size_hash]; exact congrArg some (HO.out _).symm)) rfl ⟨rfl, below_setRow (hw6.trans (hb7.mono hw6.size)) (Nat.le_refl _) _⟩

theorem d_Sum (s : ByteArray) (w : World) (hs : s.size ≤ 1099511627000) :
    Calls Try.prog 9 #[.string s] w fun e w' => e = .returned (.agg (ints .u8 (shaSumOf kTable startL s)).toArray) ∧ Below w.heap.size w w' :=
  d_Sum_of kTable startL kTable_len rfl d_roots d_start built43 s w hs
end Go.Proofs.Ytadppbjchacjiaa
