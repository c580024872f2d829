/- Walks of digest's hash, start, eachBlock and Sum. -/
import Derived.Test.YtbobdbdknapdcaaD2
import Derived.Test.YtbobdbdknapdcaaD3
import Derived.Test.YtbobdbdknapdcaaD4
import Derived.Deep.WholeRow
import Derived.Test.YtbobdbdknapdcaaG1
import Derived.Test.YtbobdbdknapdcaaDByt
import Derived.Lib.BufferWrite
import Derived.Stop.BytesEq
namespace Go.Proofs.Ytbobdbdknapdcaa
open Go.RowKit
set_option linter.unusedVariables false

def hashAt (v : List Int) (q : Nat) : Int := v.getD (q / 4) 0 / 2 ^ (24 - 8 * (q % 4)) % 256
def hashT (v : List Int) (m : Nat) : List Int := (List.range m).map (hashAt v) ++ zer (32 - m)
def hashL (v : List Int) : List Int := (List.range 32).map (hashAt v)
theorem hashT_len (v : List Int) (m : Nat) (h : m ≤ 32) : (hashT v m).length = 32 := by simp [hashT, zer]; omega
theorem hashT_set (v : List Int) (m : Nat) (h : m < 32) : (hashT v m).set m (hashAt v m) = hashT v (m + 1) := by
  unfold hashT zer
  rw [show 32 - m = (32 - (m + 1)) + 1 by omega, List.replicate_succ, List.set_append_right _ _ (by simp), List.range_succ]
  simp
theorem hashT_done (v : List Int) : hashT v 32 = hashL v := by simp [hashT, hashL, zer]
theorem hashL_len (v : List Int) : (hashL v).length = 32 := by simp [hashL]
set_option maxHeartbeats 1000000 in
set_option maxRecDepth 100000 in
theorem d_hash (b : Nat) (K v : List Int) (w : World) (hK : K.length = 64) (hv : v.length = 8) (hr : Blk w b 85 (ints .u32 (K ++ v))) :
    Calls Try.prog 38 #[.pointer (some ⟨b, 0, none⟩)] w fun e w' => e = .returned (.agg (ints .u8 (hashL v)).toArray) ∧ Below w.heap.size w w' := by
  have hlt := hr.lt
  have HK := Lib.hid hK
  have HV := Lib.hid hv
  clear hK hv
  have hrg : ∀ A B, ((w.alloc A).alloc B).rangeAt b 64 (ints .u32 v) := fun A B => by
    have := Blk.range (x := ints .u32 K) (y := ints .u32 v) (z := []) (w := (w.alloc A).alloc B) (b := b) (t := 85) (by rw [← ints_app, List.append_nil]; exact (hr.alloc A).alloc B)
    rwa [ints_length, HK.out] at this
  go_enter Try.func38, Try.ntmps38
  go_wp2_with (first | (refine wpList_load_mid rfl 70 _ rfl b 64 rfl (ints .u32 v) _ (hrg _ _) Try.underlying70 rfl (by rw [size_h8, ints_length, HV.out]) ?_))
  generalize hw2 : World.alloc (World.alloc w _) _ = w2
  have hb2 : Below w.heap.size w w2 := by rw [← hw2]; exact ((Below.refl _ _).alloc (Nat.le_refl _) _).alloc (by simp) _
  have hk0 : Blk w2 w.heap.size 30 (ints .u8 (zer 32)) := by
    rw [← hw2]; exact Blk.alloc (Blk.new' _ _ _ rfl) _
  have hk1 : Blk w2 (w.heap.size + 1) 30 (ints .u8 (hashT v 0)) := by
    rw [← hw2]
    exact Blk.new2 _ _ _ _ rfl
  clear hw2 hrg
  go_loopw [4, 5, 11] (fun _ _ i wr => ∃ k : Nat, k ≤ 8 ∧ i = .int .i64 k ∧ Blk wr w.heap.size 30 (ints .u8 (zer 32)) ∧ Blk wr (w.heap.size + 1) 30 (ints .u8 (hashT v (4 * k))) ∧ Below w.heap.size w wr) (fun _ _ i _ => 8 - (intOf i).toNat)
  case atStart => exact ⟨0, by omega, rfl, hk0, hk1, hb2⟩
  case round =>
    obtain ⟨k, hk, rfl, hz, hf, hb⟩ := hrel
    clear hk0 hk1 hb2
    by_cases hl8 : k < 8
    · have hix := fun w => run_index_ints (P := Try.prog) 70 69 8 .u32 .i64 v k Try.underlying70 ⟨_, Try.underlying69, rfl⟩ size_u32 HV.out hl8 w
      have hk8 : (k : Int) < 8 := by omega
      go_wp2
      obtain ⟨wo, rfl⟩ : ∃ wo : World, wo = wr := ⟨_, rfl⟩
      go_loopw [6, 15] (fun _ i wq => ∃ j : Nat, j ≤ 4 ∧ i = .int .i64 j ∧ Blk wq w.heap.size 30 (ints .u8 (zer 32)) ∧ Blk wq (w.heap.size + 1) 30 (ints .u8 (hashT v (4 * k + j))) ∧ Below w.heap.size w wq) (fun _ i _ => 4 - (intOf i).toNat)
      case atStart => exact ⟨0, by omega, rfl, hz, hf, hb⟩
      case round =>
        obtain ⟨j, hj, rfl, hz', hf', hb'⟩ := hrel
        clear hz hf hb hix
        by_cases hlj : j < 4
        · have hset := hashT_set v (4 * k + j) (by omega)
          have hat : hashAt v (4 * k + j) = v.getD k 0 / 2 ^ (24 - 8 * j) % 256 := by
            unfold hashAt
            rw [show (4 * k + j) / 4 = k by omega, show (4 * k + j) % 4 = j by omega]
          rw [hat] at hset
          have Hs := Lib.hid hset
          clear hset hat
          have hlen := hashT_len v (4 * k + j) (by omega)
          have hc := hf'.int (j := 4 * k + j) (by omega)
          have hfr := hf'.free (4 * k + j)
          clear hlen
          have i1 : (0 : Int) ≤ 4 * (k : Int) + (j : Int) := by omega
          have i2 : (4 * (k : Int) + (j : Int)).toNat = 4 * k + j := by omega
          have i3 : 4 * (k : Int) + (j : Int) < 32 := by omega
          have i4 : (0 : Int) ≤ 24 - 8 * (j : Int) := by omega
          have i5 : (24 - 8 * (j : Int)).toNat = 24 - 8 * j := by omega
          have i6 : 8 * (j : Int) ≤ 24 := by omega
          go_wp2
          go_roundw
          case rel =>
            refine ⟨j + 1, by omega, by go_num, hz'.other (by simp) _, ?_, hb'.setCell (by simp) _⟩
            rw [show 4 * k + (j + 1) = 4 * k + j + 1 by omega, ← Hs.out]
            have := hf'.setInt (4 * k + j) (v.getD k 0 / 2 ^ (24 - 8 * j) % 256)
            simp only [List.getD_eq_getElem?_getD] at this ⊢
            exact this
          case measure => simp [intOf]; omega
        · obtain rfl : j = 4 := by omega
          go_wp2
          go_roundw
          case rel => exact ⟨k + 1, by omega, by go_num, hz', by rw [show 4 * (k + 1) = 4 * k + 4 by omega]; exact hf', hb'⟩
          case measure => simp [intOf]; omega
    · obtain rfl : k = 8 := by omega
      have hS : Blk wr (w.heap.size + 1) 30 (ints .u8 (hashL v)) := by rw [← hashT_done]; exact hf
      clear hf
      go_wp2_with (first | (refine wpList_load_blk rfl 30 _ rfl _ rfl hS Try.underlying30 rfl (by rw [size_hash, ints_length, hashL_len]) ?_) | (refine wpList_store_blk rfl 30 _ _ rfl _ _ rfl rfl hz (by rw [size_hash, ints_length, hashL_len]) (by rw [ints_length, ints_length, hashL_len]; rfl) (ints_one _ _) ?_))
      refine bodyPost_ret (v := .agg (ints .u8 (hashL v)).toArray) (results_cell_blk rfl _ _ _ rfl (hz.row (ints .u8 (hashL v)) (by rw [ints_length, ints_length, hashL_len]; rfl)) Try.underlying30 rfl (by rw [size_hash, ints_length, hashL_len])) rfl ⟨rfl, below_setRow hb (Nat.le_refl _) _⟩

def startL : List Int := [1779033703, 3144134277, 1013904242, 2773480762, 1359893119, 2600822924, 528734635, 1541459225]
set_option maxHeartbeats 1000000 in
set_option maxRecDepth 100000 in
theorem d_start (w : World) :
    Calls Try.prog 34 #[] w fun e w' => e = .returned (.agg (ints .u32 startL).toArray) ∧ Below w.heap.size w w' := by
  go_enter Try.func34, Try.ntmps34
  go_wp2_with (first | (refine wpList_store_blk rfl 70 _ _ rfl w.heap.size (ints .u32 startL) rfl rfl (Blk.new' w 70 (ints .u32 (zer 8)) rfl) (by rw [size_h8]; rfl) rfl (ints_one _ _) ?_))
  exact bodyPost_ret (v := .agg (ints .u32 startL).toArray) (results_cell_blk rfl _ _ _ rfl ((Blk.new' w 70 (ints .u32 (zer 8)) rfl).row (ints .u32 startL) rfl) Try.underlying70 rfl (by rw [size_h8]; rfl)) rfl ⟨rfl, below_setRow ((Below.refl _ _).alloc (Nat.le_refl _) _) (Nat.le_refl _) _⟩

/-- the numbers behind so many whole blocks of s -/
def shaBlocks (K : List Int) (v : List Int) (s : ByteArray) : Nat → List Int
  | 0 => v
  | n + 1 => shaBlocks K (shaBlock K v (s.extract 0 64)) (s.extract 64 s.size) n
theorem shaBlocks_len (K : List Int) : ∀ (n : Nat) (v : List Int) (s : ByteArray), (shaBlocks K v s n).length = v.length
  | 0, _, _ => rfl
  | n + 1, v, s => by rw [shaBlocks, shaBlocks_len K n, shaBlock_len]

def strLen : Value → Nat | .string s => s.size | _ => 0
set_option maxHeartbeats 1000000 in
set_option maxRecDepth 100000 in
theorem d_eachBlock (b : Nat) (n : Nat) (s : ByteArray) (K v : List Int) (w : World) (hK : K.length = 64) (hv : v.length = 8) (hr : Blk w b 85 (ints .u32 (K ++ v))) (hs : s.size = 64 * n) (hn : n < 1099511627776) :
    Calls Try.prog 35 #[.string s, .func (.func 36) #[.pointer (some ⟨b, 0, none⟩)] #[]] w fun e w' => e = .returned (.tuple #[]) ∧ Blk w' b 85 (ints .u32 (K ++ shaBlocks K v s n)) ∧ Below b w w' := by
  have HK := Lib.hid hK
  have HV := Lib.hid hv
  have HS := Lib.hid hs
  clear hK hv hs
  go_enter Try.func35, Try.ntmps35
  go_wp2_with fail
  have hlt := hr.lt
  go_loopw [0] (fun x wr => ∃ (m : Nat) (s' : ByteArray) (v' : List Int), m ≤ n ∧ Hid (s'.size = 64 * m) ∧ Hid (v'.length = 8) ∧ x = .string s' ∧ Blk wr b 85 (ints .u32 (K ++ v')) ∧ Below b w wr ∧ Hid (shaBlocks K v' s' m = shaBlocks K v s n)) (fun x _ => strLen x)
  case atStart => exact ⟨n, s, v, Nat.le_refl _, HS, HV, rfl, hr, Below.refl _ _, Lib.hid rfl⟩
  case round =>
    obtain ⟨m, s', v', hm, hs', hv', rfl, hr', hb', hq⟩ := hrel
    have hsz := hs'.out
    have hbb := hr'.lt
    by_cases h0 : m = 0
    · subst h0
      have h1 : s'.size < 64 := by omega
      have h2 : (s'.size : Int) < 64 := by omega
      clear hsz h1
      go_wp2_with fail
      go_end0
      refine ⟨rfl, ?_, hb'⟩
      rw [← hq.out]; exact hr'
    · obtain ⟨k, rfl⟩ : ∃ k, m = k + 1 := ⟨m - 1, by omega⟩
      have h1 : 64 ≤ s'.size := by omega
      have h2 : (64 : Int) ≤ (s'.size : Int) := by omega
      have hx : Hid ((s'.extract 0 64).size = 64) := Lib.hid (by rw [ByteArray.size_extract]; omega)
      have hy : Hid ((s'.extract 64 s'.size).size = 64 * k) := Lib.hid (by rw [ByteArray.size_extract]; omega)
      have hbig : s'.size ≤ 9223372036854775807 := by omega
      clear hsz
      go_wp2_with (go_at_call 36; refine (d_take b _ K v' _ HK.out hv'.out hr' hx.out).mono ?_; rintro e w2 ⟨rfl, hr2, hb2⟩)
      go_roundw
      case rel =>
        exact ⟨k, _, shaBlock K v' (s'.extract 0 64), by omega, hy, Lib.hid (by rw [shaBlock_len]; exact hv'.out), rfl, hr2, hb'.trans hb2, hq⟩
      case measure => simp [strLen]; omega
end Go.Proofs.Ytbobdbdknapdcaa
namespace Go.Proofs.Ytbobdbdknapdcaa
open Go.RowKit
set_option linter.unusedVariables false

def shaTail (s : ByteArray) : ByteArray := s.extract (s.size / 64 * 64) s.size ++ bs (fillL (s.size - s.size / 64 * 64) s.size)
theorem shaTail_size (s : ByteArray) : (shaTail s).size = 64 * ((shaTail s).size / 64) ∧ (shaTail s).size ≤ 128 := by
  have h := fillL_len (s.size - s.size / 64 * 64) s.size
  have : (shaTail s).size = (s.size - s.size / 64 * 64) + fillLen (s.size - s.size / 64 * 64) := by
    rw [shaTail, ByteArray.size_append, bs_size, h, ByteArray.size_extract]; omega
  rw [this]
  unfold fillLen
  omega

theorem built43 : Try.prog.built 85 [(0, Value.agg (ints .u32 kTable).toArray), (1, Value.agg (ints .u32 startL).toArray)] = some (ints .u32 (kTable ++ startL)).toArray := by kernel_rfl
theorem info43 : (Try.prog.info? 85).map (fun i => (i.zero, i.size)) = some (some (.agg (ints .u32 (zer 72)).toArray), 72) := by kernel_rfl
theorem size43 : (Try.prog.info? 85).map (·.size) = some 72 := by kernel_rfl

section
variable {P : Program} {ops : Array Oper} {rest : List Oper} {o : Oper} {a : Act} {w : World} {Q : Exit → Act → World → Prop}
/-- a composite that is known to come to these cells -/
theorem wpList_build_to (hg : o.guard = none) (t : TypeId) (parts : Array (Nat × Operand)) (ho : o.op = .build t parts) (vals : List (Nat × Value)) (cells : Array Value)
    (hv : (parts.map fun (i, x) => (i, a.eval x)).toList = vals) (hb : P.built t vals = some cells)
    (h : wpList P ops Q rest (a.put o.dst (.agg cells)) w) : wpList P ops Q (o :: rest) a w := by
  subst hv
  refine wpList_build hg t parts ho (by rw [hb]; rfl) ?_
  rw [hb]; exact h
end
def shaSumOf (K V : List Int) (s : ByteArray) : List Int :=
  hashL (shaBlocks K (shaBlocks K V (s.extract 0 (s.size / 64 * 64)) (s.size / 64)) (shaTail s) ((shaTail s).size / 64))

set_option maxHeartbeats 1000000 in
set_option maxRecDepth 100000 in
theorem d_Sum_of (K V : List Int) (hK : K.length = 64) (hV : V.length = 8)
    (hroots : ∀ w : World, Calls Try.prog 33 #[] w fun e w' => e = .returned (.agg (ints .u32 K).toArray) ∧ Below w.heap.size w w')
    (hstart : ∀ w : World, Calls Try.prog 34 #[] w fun e w' => e = .returned (.agg (ints .u32 V).toArray) ∧ Below w.heap.size w w')
    (hbuilt : Try.prog.built 85 [(0, Value.agg (ints .u32 K).toArray), (1, Value.agg (ints .u32 V).toArray)] = some (ints .u32 (K ++ V)).toArray)
    (s : ByteArray) (w : World) (hs : s.size ≤ 1099511627000) :
    Calls Try.prog 18 #[.string s] w fun e w' => e = .returned (.agg (ints .u8 (shaSumOf K V s)).toArray) ∧ Below w.heap.size w w' := by
  obtain ⟨hz43, _⟩ := zero_of_info info43
  have HB := Lib.hid hbuilt
  have hT := shaTail_size s
  have hfull : s.size / 64 * 64 ≤ s.size := Nat.div_mul_le_self _ _
  have HK := Lib.hid hK
  have HV := Lib.hid hV
  have HR := Lib.hid hroots
  have HS := Lib.hid hstart
  have HT := Lib.hid hT
  clear hK hV hroots hstart hbuilt hT
  generalize hZ : (ints IntKind.u32 (zer 72)) = Z at *
  have hZl : Z.length = 72 := by rw [← hZ]; rfl
  have HZ := Lib.hid hZl
  clear hZ hZl
  go_enter Try.func18, Try.ntmps18
  go_wp2_with (first | (go_at_call 33; refine (HR.out _).mono ?_; rintro e w1 ⟨rfl, hb1⟩) | (go_at_call 34; refine (HS.out _).mono ?_; rintro e w2 ⟨rfl, hb2⟩) | (refine wpList_store_blk rfl 85 _ _ rfl w2.heap.size (ints .u32 (K ++ V)) rfl rfl (Blk.new' w2 85 Z rfl) (by rw [size43, ints_length, List.length_append, HK.out, HV.out]) (by rw [ints_length, List.length_append, HK.out, HV.out, HZ.out]) (ints_one _ _) ?_) | (refine wpList_build_to rfl 85 _ rfl _ _ ?hv HB.out ?_; case hv => (simp only [List.map_toArray, List.map_cons, List.map_nil]; go_loud (rfl))))
  have hb3 : Below w.heap.size w ((w2.alloc (.cells Z.toArray 85)).setRow w2.heap.size (ints .u32 (K ++ V)).toArray) := by
    have h1 : Below w.heap.size w w1 := ((Below.refl _ _).alloc (Nat.le_refl _) _).trans (hb1.mono (by simp))
    have h2 : Below w.heap.size w w2 := h1.trans (hb2.mono h1.size)
    exact below_setRow (h2.alloc h2.size _) h2.size _
  have hr3 : Blk ((w2.alloc (.cells Z.toArray 85)).setRow w2.heap.size (ints .u32 (K ++ V)).toArray) w2.heap.size 85 (ints .u32 (K ++ V)) :=
    (Blk.new' w2 85 Z rfl).row _ (by rw [ints_length, List.length_append, HK.out, HV.out, HZ.out])
  have hB : w.heap.size < w2.heap.size := by
    have h1 := hb1.size
    have h2 := hb2.size
    simp at h1
    omega
  have hz3 : Blk ((w2.alloc (.cells Z.toArray 85)).setRow w2.heap.size (ints .u32 (K ++ V)).toArray) w.heap.size 30 (ints .u8 (zer 32)) := by
    refine Blk.rowOther (Blk.alloc ?_ _) (by omega) _
    exact ((Blk.new' w 30 (ints .u8 (zer 32)) rfl).below hb1 (by simp)).below hb2 (by have := hb1.size; simp at this; omega)
  generalize hw3 : World.setRow _ _ _ = w3 at *
  generalize w2.heap.size = B at *
  clear hw3
  refine (d_eachBlock B (s.size / 64) _ K V _ HK.out HV.out hr3 (by rw [ByteArray.size_extract]; omega) (by omega)).mono ?_
  rintro e w4 ⟨rfl, hr4, hb4⟩
  go_wp2_with fail
  have e0 : (0 : Int) ≤ (s.size : Int) / 64 * 64 := by omega
  have e1 : (s.size : Int) / 64 * 64 ≤ (s.size : Int) := by omega
  have e2 : ((s.size : Int) / 64 * 64).toNat = s.size / 64 * 64 := by omega
  have e3 : IntKind.i64.wrap ((s.size : Int) - (s.size : Int) / 64 * 64) = ((s.size - s.size / 64 * 64 : Nat) : Int) := by rw [IntWalk.i64_in _ (by omega)]; omega
  have hfil : ∀ wx, NewBut w4 wx → Calls Try.prog 37 #[.int .i64 ((s.size - s.size / 64 * 64 : Nat) : Int), .int .i64 (s.size : Int)] wx fun e w' => e = .returned (.string (bs (fillL (s.size - s.size / 64 * 64) s.size))) ∧ NewBut w4 w' := fun wx hx =>
    (d_filling (s.size - s.size / 64 * 64) s.size wx (by omega) (by omega)).mono fun e w' ⟨he, hb⟩ => ⟨he, hx.trans (hb.mono hx.size)⟩
  have HFil := Lib.hid hfil
  clear hfil
  have hts : (s.extract (s.size / 64 * 64) s.size).size + (bs (fillL (s.size - s.size / 64 * 64) s.size)).size ≤ 9223372036854775807 := by
    rw [bs_size, fillL_len, ByteArray.size_extract]
    have := fillLen_ge (s.size - s.size / 64 * 64)
    omega
  have hcat := fun w' => run_string_add_sum (P := Try.prog) w' _ _ hts
  clear hts
  refine region_quiet_tail (C := NewBut w4) 12 mixed (by kernel_rfl) (show Below _ _ _ from (Below.refl _ _).drew) ?_
  simp only [List.take_succ_cons, List.take_zero, List.drop_succ_cons, List.drop_zero]
  repeat (refine wpQuiet_step (fun K' hK' => ?_); go_simp; first | (refine ⟨_, fun _ _ => rfl, hK' _ ?_⟩; clear hK' K') | (refine ⟨_, fun wx hx => HFil.out wx hx, hK' _ ?_⟩; clear hK' K'))
  refine wpQuiet_nil ?_
  intro w5 hb5
  have hr5 := hr4.below hb5 hr4.lt
  have hV1 : Hid ((shaBlocks K V (s.extract 0 (s.size / 64 * 64)) (s.size / 64)).length = 8) := Lib.hid (by rw [shaBlocks_len, HV.out])
  have hBlt := hr3.lt
  go_wp2_with fail
  refine (d_eachBlock B ((shaTail s).size / 64) (shaTail s) K _ _ HK.out hV1.out hr5 HT.out.1 (by have := HT.out.2; omega)).mono ?_
  rintro e w6 ⟨rfl, hr6, hb6⟩
  have hV2 : Hid ((shaBlocks K (shaBlocks K V (s.extract 0 (s.size / 64 * 64)) (s.size / 64)) (shaTail s) ((shaTail s).size / 64)).length = 8) := Lib.hid (by rw [shaBlocks_len, hV1.out])
  have hz6 : Blk w6 w.heap.size 30 (ints .u8 (zer 32)) := ((hz3.below hb4 hB).below hb5 (by have := hb4.size; omega)).below hb6 hB
  have hw6 : Below w.heap.size w w6 := ((hb3.trans (hb4.mono (by omega))).trans (hb5.mono (by have := hb4.size; omega))).trans (hb6.mono (by omega))
  have hz7 : ∀ w7, Below w6.heap.size w6 w7 → Blk w7 w.heap.size 30 (ints .u8 (zer 32)) := fun w7 h => hz6.below h hz6.lt
  have HL : Hid (∀ v, (hashL v).length = 32) := Lib.hid hashL_len
  have HO : Hid (∀ v : List Int, (ints .u8 (hashL v)).length = 32) := Lib.hid (fun v => by rw [ints_length, hashL_len])
  go_wp2_with (first | (go_at_call 38; refine (d_hash B K _ _ HK.out hV2.out hr6).mono ?_; rintro e w7 ⟨rfl, hb7⟩) | (refine wpList_store_blk rfl 30 _ _ rfl w.heap.size (ints .u8 (shaSumOf K V s)) rfl rfl (hz7 _ hb7) (by rw [size_hash]; exact congrArg some (HO.out _).symm) (by rw [ints_length]; exact (HO.out _).symm) (ints_one _ _) ?_))
  refine bodyPost_ret (v := .agg (ints .u8 (shaSumOf K V s)).toArray) (results_cell_blk rfl _ _ _ rfl ((hz7 _ hb7).row (ints .u8 (shaSumOf K V s)) ((HO.out _).trans rfl)) Try.underlying30 rfl (by rw [size_hash]; exact congrArg some (HO.out _).symm)) rfl ⟨rfl, below_setRow (hw6.trans (hb7.mono hw6.size)) (Nat.le_refl _) _⟩

theorem d_Sum (s : ByteArray) (w : World) (hs : s.size ≤ 1099511627000) :
    Calls Try.prog 18 #[.string s] w fun e w' => e = .returned (.agg (ints .u8 (shaSumOf kTable startL s)).toArray) ∧ Below w.heap.size w w' :=
  d_Sum_of kTable startL kTable_len rfl d_roots d_start built43 s w hs
end Go.Proofs.Ytbobdbdknapdcaa
namespace Go.Proofs.Ytbobdbdknapdcaa
open Go.RowKit
set_option linter.unusedVariables false

theorem step_append_bytes {P : Program} {ops : Array Oper} {o : Oper} {a : Act} {w : World} {K : Act → World → Prop} {Q : Exit → Act → World → Prop} {E : Prop} (hgd : o.guard = none) (s x : Operand) (t : TypeId)
    (ho : o.op = .call { callee := .builtin .append, args := #[s, x], argTypes := #[t, t] })
    (base : Nat) (e : TypeId) (ht : P.underlying t = some (.slice e)) (hinfo : (P.info? e).map (fun i => (i.zero, i.size, i.bytes)) = some (some (.int .u8 0), 1, 1))
    (v : Value) (l : List Int) (hs : a.eval s = v) (hown : OwnB w base e v l)
    (b m c : Nat) (news : List Int) (hx : a.eval x = .slice (some ⟨b, 0, none⟩) m c) (hl : m = news.length) (hnews : w.rangeAt b 0 (ints .u8 news))
    (hbig : l.length + news.length ≤ 140737488355328) (hbase : base ≤ w.heap.size)
    (h : ∀ v' w', OwnB w' base e v' (l ++ news) → w.grownBy w' v.ownBlock → K (a.put o.dst v') w') : if Region.wanted o (yielded ops a.tmps) = true then Oper.wp P o a w K Q else E := by
  obtain ⟨i0, hi0, hz0, hz1, hz2⟩ := info_parts hinfo
  subst hl
  rw [if_pos (by simp [Region.wanted, hgd])]
  refine wp_append_own w s x t ho base e i0 (.int .u8 0) 1 1 ht hi0 hz0 hz1 hz2 rfl (by decide) v l.length (ints .u8 l) hs hown ⟨b, 0, none⟩ news.length c (ints .u8 news) hx (by simp [ints_length])
    (fun j u hj => by rw [Addr.add_mid]; exact hnews j u hj) (fun u hu => ?_) (by unfold maxLen; omega) (by omega) hbase (fun v' w' h1 h2 _ => h v' w' ?_ h2)
  · simp only [ints, List.mem_map] at hu
    obtain ⟨n, _, rfl⟩ := hu
    rfl
  · unfold OwnB
    rw [List.length_append, ints_app]; exact h1
end Go.Proofs.Ytbobdbdknapdcaa
namespace Go.Proofs.Ytbobdbdknapdcaa
open Go.RowKit
set_option linter.unusedVariables false

def padMc (key : ByteArray) : List Int := is key ++ zer (64 - key.size)
theorem padK_len (key : ByteArray) (h : key.size ≤ 64) : (padMc key).length = 64 := by simp [padMc, is_length, zer]; omega
def xorTo (m : Int) (l : List Int) : Nat → List Int
  | 0 => l
  | k + 1 => (xorTo m l k).set k (bits .xor .u8 ((xorTo m l k).getD k 0) m)
theorem xorTo_len (m : Int) (l : List Int) : ∀ k, (xorTo m l k).length = l.length
  | 0 => rfl
  | k + 1 => by simp [xorTo, xorTo_len m l k]
def maskL (key : ByteArray) (m : Int) : List Int := xorTo m (padMc key) 64

theorem byteCells_is (s : ByteArray) : Lib.byteCells s.data.toList = ints .u8 (is s) := by
  simp [Lib.byteCells, ints, is, Function.comp_def]

section
variable {P : Program} {ops : Array Oper} {rest : List Oper} {o : Oper} {a : Act} {w : World} {Q : Exit → Act → World → Prop}
theorem wpList_copy_string_blk (hgd : o.guard = none) (d s : Operand) (dT sT elem : TypeId) (ho : o.op = .call { callee := .builtin .copy, args := #[d, s], argTypes := #[dT, sT] })
    (g dLen dCap : Nat) (hd : a.eval d = .slice (some ⟨g, 0, none⟩) dLen dCap) (t : ByteArray) (hx : a.eval s = .string t) {ty : TypeId} {old : List Int} (hg : Blk w g ty (ints .u8 old))
    (hu : P.underlying dT = some (.slice elem)) (hs : (P.info? elem).map (·.size) = some 1) (hle : t.size ≤ dLen) (hfit : t.size ≤ old.length)
    (h : wpList P ops Q rest (a.put o.dst (goInt t.size)) (w.setRow g (ints .u8 (is t ++ old.drop t.size)).toArray)) : wpList P ops Q (o :: rest) a w :=
  wpList_plain hgd fun _ hK => by
    have hr := Lib.run_copy_row_string (P := P) w dT sT o.type elem g 0 dLen dCap t (ints .u8 old).toArray ty hu hs hg hle (by simpa [ints_length] using hfit)
    have e : (List.take 0 (ints .u8 old).toArray.toList ++ Lib.byteCells t.data.toList ++ List.drop (0 + t.size) (ints .u8 old).toArray.toList).toArray = (ints .u8 (is t ++ old.drop t.size)).toArray := by
      rw [byteCells_is]; simp [ints]
    rw [e] at hr
    unfold Oper.wp
    simp [execOp, ho, resolve, invoke, builtin, hd, hx, hr, Result.andThen]
    exact hK _ _ h
end

section
variable {P : Program} {C : World → Prop} {zs : Array Oper} {Q : Act → Prop} {op : Oper} {rest : List Oper} {a : Act}
theorem wpQuiet_run (hgd : op.guard = none) (v : Value) (hr : ∀ w', C w' → (execOp a.eval op).run P w' = .ok (.value v) w') (h : wpQuiet P zs C Q rest (a.put op.dst v)) : wpQuiet P zs C Q (op :: rest) a := by
  unfold wpQuiet
  rw [if_pos (wanted_free hgd [] zs a.tmps)]
  refine ⟨v, fun w' hw' => ?_, h⟩
  unfold Oper.quietAt
  rw [hr w' hw']
  exact ⟨rfl, rfl⟩
theorem wpQuiet_bytes_string (hgd : op.guard = none) (src dst e : TypeId) (x : Operand) (ho : op.op = .convert src dst x) (b n cap : Nat) (l : List Int)
    (hx : a.eval x = .slice (some ⟨b, 0, none⟩) n cap) (hs : P.underlying src = some (.slice e)) (he : P.underlying e = some (.int .u8)) (hd : P.underlying dst = some .string)
    (hc : ∀ w', C w' → w'.rangeAt b 0 (ints .u8 l)) (hn : n = l.length) (h : wpQuiet P zs C Q rest (a.put op.dst (.string (bs l)))) : wpQuiet P zs C Q (op :: rest) a :=
  wpQuiet_run hgd (.string (bs l)) (fun w' hw' => by
    unfold execOp
    simp only [ho, hx, Sem.run_bind, run_bytes_string (P := P) (w := w') src dst e b n cap l hs he hd (hc w' hw') hn, Result.andThen_ok]
    rfl) h
end

def sumL (s : ByteArray) : List Int := shaSumOf kTable startL s
theorem sumL_len (s : ByteArray) : (sumL s).length = 32 := hashL_len _
def keyOf (key : ByteArray) : ByteArray := if key.size ≤ 64 then key else bs (sumL key)
theorem keyOf_size (key : ByteArray) : (keyOf key).size ≤ 64 := by
  unfold keyOf; split
  · assumption
  · rw [bs_size, sumL_len]; omega
def innerL (k s : ByteArray) : List Int := sumL (bs (maskL k 54) ++ s)
def macOf (k s : ByteArray) : List Int := sumL (bs (maskL k 92) ++ bs (innerL k s))
def macL (key s : ByteArray) : List Int := macOf (keyOf key) s
theorem maskL_len (k : ByteArray) (h : k.size ≤ 64) (m : Int) : (maskL k m).length = 64 := by rw [maskL, xorTo_len, padK_len k h]

end Go.Proofs.Ytbobdbdknapdcaa
namespace Go.Proofs.Ytbobdbdknapdcaa
open Go.RowKit
set_option linter.unusedVariables false

theorem hashL_octets (v : List Int) : Octets (hashL v) := by
  intro n hn
  simp only [hashL, List.mem_map] at hn
  obtain ⟨q, _, rfl⟩ := hn
  unfold hashAt
  omega
theorem sumL_octets (s : ByteArray) : Octets (sumL s) := hashL_octets _
theorem macL_len (k s : ByteArray) : (macL k s).length = 32 := sumL_len _
theorem macL_octets (k s : ByteArray) : Octets (macL k s) := sumL_octets _

end Go.Proofs.Ytbobdbdknapdcaa
