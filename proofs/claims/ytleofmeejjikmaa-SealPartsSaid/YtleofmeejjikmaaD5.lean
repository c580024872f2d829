/- Walks of digest's hash, start, eachBlock and Sum. -/
import Derived.Test.YtleofmeejjikmaaD2
import Derived.Test.YtleofmeejjikmaaD3
import Derived.Test.YtleofmeejjikmaaD4
import Derived.Deep.WholeRow
import Derived.Test.YtleofmeejjikmaaG1
import Derived.Lib.BufferWrite
import Derived.Stop.BytesEq
namespace Go.Proofs.Ytleofmeejjikmaa
open Go.RowKit
set_option linter.unusedVariables false

def hashAt (v : List Int) (q : Nat) : Int := v.getD (q / 4) 0 / 2 ^ (24 - 8 * (q % 4)) % 256
def hashT (v : List Int) (m : Nat) : List Int := (List.range m).map (hashAt v) ++ zer (32 - m)
def hashL (v : List Int) : List Int := (List.range 32).map (hashAt v)
theorem hashT_len (v : List Int) (m : Nat) (h : m ≤ 32) : (hashT v m).length = 32 := by simp [hashT, zer]; omega
theorem hashT_set (v : List Int) (m : Nat) (h : m < 32) : (hashT v m).set m (hashAt v m) = hashT v (m + 1) := by
  unfold hashT zer
  rw [show 32 - m = (32 - (m + 1)) + 1 by omega, List.replicate_succ, List.set_append_right _ _ (by simp), List.range_succ]
  simp
theorem hashT_done (v : List Int) : hashT v 32 = hashL v := by simp [hashT, hashL, zer]
theorem hashL_len (v : List Int) : (hashL v).length = 32 := by simp [hashL]
set_option maxHeartbeats 1000000 in
set_option maxRecDepth 100000 in
theorem d_hash (b : Nat) (K v : List Int) (w : World) (hK : K.length = 64) (hv : v.length = 8) (hr : Blk w b 77 (ints .u32 (K ++ v))) :
    Calls Try.prog 43 #[.pointer (some ⟨b, 0, none⟩)] w fun e w' => e = .returned (.agg (ints .u8 (hashL v)).toArray) ∧ Below w.heap.size w w' := by
  have hlt := hr.lt
  have HK := Lib.hid hK
  have HV := Lib.hid hv
  clear hK hv
  have hrg : ∀ A B, ((w.alloc A).alloc B).rangeAt b 64 (ints .u32 v) := fun A B => by
    have := Blk.range (x := ints .u32 K) (y := ints .u32 v) (z := []) (w := (w.alloc A).alloc B) (b := b) (t := 77) (by rw [← ints_app, List.append_nil]; exact (hr.alloc A).alloc B)
    rwa [ints_length, HK.out] at this
  go_enter Try.func43, Try.ntmps43
  go_wp2_with (first | (refine wpList_load_mid rfl 61 _ rfl b 64 rfl (ints .u32 v) _ (hrg _ _) Try.underlying61 rfl (by rw [size_h8, ints_length, HV.out]) ?_))
  generalize hw2 : World.alloc (World.alloc w _) _ = w2
  have hb2 : Below w.heap.size w w2 := by rw [← hw2]; exact ((Below.refl _ _).alloc (Nat.le_refl _) _).alloc (by simp) _
  have hk0 : Blk w2 w.heap.size 29 (ints .u8 (zer 32)) := by
    rw [← hw2]; exact Blk.alloc (Blk.new' _ _ _ rfl) _
  have hk1 : Blk w2 (w.heap.size + 1) 29 (ints .u8 (hashT v 0)) := by
    rw [← hw2]
    exact Blk.new2 _ _ _ _ rfl
  clear hw2 hrg
  go_loopw [4, 5, 11] (fun _ _ i wr => ∃ k : Nat, k ≤ 8 ∧ i = .int .i64 k ∧ Blk wr w.heap.size 29 (ints .u8 (zer 32)) ∧ Blk wr (w.heap.size + 1) 29 (ints .u8 (hashT v (4 * k))) ∧ Below w.heap.size w wr) (fun _ _ i _ => 8 - (intOf i).toNat)
  case atStart => exact ⟨0, by omega, rfl, hk0, hk1, hb2⟩
  case round =>
    obtain ⟨k, hk, rfl, hz, hf, hb⟩ := hrel
    clear hk0 hk1 hb2
    by_cases hl8 : k < 8
    · have hix := fun w => run_index_ints (P := Try.prog) 61 60 8 .u32 .i64 v k Try.underlying61 ⟨_, Try.underlying60, rfl⟩ size_u32 HV.out hl8 w
      have hk8 : (k : Int) < 8 := by omega
      go_wp2
      obtain ⟨wo, rfl⟩ : ∃ wo : World, wo = wr := ⟨_, rfl⟩
      go_loopw [6, 15] (fun _ i wq => ∃ j : Nat, j ≤ 4 ∧ i = .int .i64 j ∧ Blk wq w.heap.size 29 (ints .u8 (zer 32)) ∧ Blk wq (w.heap.size + 1) 29 (ints .u8 (hashT v (4 * k + j))) ∧ Below w.heap.size w wq) (fun _ i _ => 4 - (intOf i).toNat)
      case atStart => exact ⟨0, by omega, rfl, hz, hf, hb⟩
      case round =>
        obtain ⟨j, hj, rfl, hz', hf', hb'⟩ := hrel
        clear hz hf hb hix
        by_cases hlj : j < 4
        · have hset := hashT_set v (4 * k + j) (by omega)
          have hat : hashAt v (4 * k + j) = v.getD k 0 / 2 ^ (24 - 8 * j) % 256 := by
            unfold hashAt
            rw [show (4 * k + j) / 4 = k by omega, show (4 * k + j) % 4 = j by omega]
          rw [hat] at hset
          have Hs := Lib.hid hset
          clear hset hat
          have hlen := hashT_len v (4 * k + j) (by omega)
          have hc := hf'.int (j := 4 * k + j) (by omega)
          have hfr := hf'.free (4 * k + j)
          clear hlen
          have i1 : (0 : Int) ≤ 4 * (k : Int) + (j : Int) := by omega
          have i2 : (4 * (k : Int) + (j : Int)).toNat = 4 * k + j := by omega
          have i3 : 4 * (k : Int) + (j : Int) < 32 := by omega
          have i4 : (0 : Int) ≤ 24 - 8 * (j : Int) := by omega
          have i5 : (24 - 8 * (j : Int)).toNat = 24 - 8 * j := by omega
          have i6 : 8 * (j : Int) ≤ 24 := by omega
          go_wp2
          go_roundw
          case rel =>
            refine ⟨j + 1, by omega, by go_num, hz'.other (by simp) _, ?_, hb'.setCell (by simp) _⟩
            rw [show 4 * k + (j + 1) = 4 * k + j + 1 by omega, ← Hs.out]
            have := hf'.setInt (4 * k + j) (v.getD k 0 / 2 ^ (24 - 8 * j) % 256)
            simp only [List.getD_eq_getElem?_getD] at this ⊢
            exact this
          case measure => simp [intOf]; omega
        · obtain rfl : j = 4 := by omega
          go_wp2
          go_roundw
          case rel => exact ⟨k + 1, by omega, by go_num, hz', by rw [show 4 * (k + 1) = 4 * k + 4 by omega]; exact hf', hb'⟩
          case measure => simp [intOf]; omega
    · obtain rfl : k = 8 := by omega
      have hS : Blk wr (w.heap.size + 1) 29 (ints .u8 (hashL v)) := by rw [← hashT_done]; exact hf
      clear hf
      go_wp2_with (first | (refine wpList_load_blk rfl 29 _ rfl _ rfl hS Try.underlying29 rfl (by rw [size_hash, ints_length, hashL_len]) ?_) | (refine wpList_store_blk rfl 29 _ _ rfl _ _ rfl rfl hz (by rw [size_hash, ints_length, hashL_len]) (by rw [ints_length, ints_length, hashL_len]; rfl) (ints_one _ _) ?_))
      refine bodyPost_ret (v := .agg (ints .u8 (hashL v)).toArray) (results_cell_blk rfl _ _ _ rfl (hz.row (ints .u8 (hashL v)) (by rw [ints_length, ints_length, hashL_len]; rfl)) Try.underlying29 rfl (by rw [size_hash, ints_length, hashL_len])) rfl ⟨rfl, below_setRow hb (Nat.le_refl _) _⟩

def startL : List Int := [1779033703, 3144134277, 1013904242, 2773480762, 1359893119, 2600822924, 528734635, 1541459225]
set_option maxHeartbeats 1000000 in
set_option maxRecDepth 100000 in
theorem d_start (w : World) :
    Calls Try.prog 39 #[] w fun e w' => e = .returned (.agg (ints .u32 startL).toArray) ∧ Below w.heap.size w w' := by
  go_enter Try.func39, Try.ntmps39
  go_wp2_with (first | (refine wpList_store_blk rfl 61 _ _ rfl w.heap.size (ints .u32 startL) rfl rfl (Blk.new' w 61 (ints .u32 (zer 8)) rfl) (by rw [size_h8]; rfl) rfl (ints_one _ _) ?_))
  exact bodyPost_ret (v := .agg (ints .u32 startL).toArray) (results_cell_blk rfl _ _ _ rfl ((Blk.new' w 61 (ints .u32 (zer 8)) rfl).row (ints .u32 startL) rfl) Try.underlying61 rfl (by rw [size_h8]; rfl)) rfl ⟨rfl, below_setRow ((Below.refl _ _).alloc (Nat.le_refl _) _) (Nat.le_refl _) _⟩

/-- the numbers behind so many whole blocks of s -/
def shaBlocks (K : List Int) (v : List Int) (s : ByteArray) : Nat → List Int
  | 0 => v
  | n + 1 => shaBlocks K (shaBlock K v (s.extract 0 64)) (s.extract 64 s.size) n
theorem shaBlocks_len (K : List Int) : ∀ (n : Nat) (v : List Int) (s : ByteArray), (shaBlocks K v s n).length = v.length
  | 0, _, _ => rfl
  | n + 1, v, s => by rw [shaBlocks, shaBlocks_len K n, shaBlock_len]

def strLen : Value → Nat | .string s => s.size | _ => 0
set_option maxHeartbeats 1000000 in
set_option maxRecDepth 100000 in
theorem d_eachBlock (b : Nat) (n : Nat) (s : ByteArray) (K v : List Int) (w : World) (hK : K.length = 64) (hv : v.length = 8) (hr : Blk w b 77 (ints .u32 (K ++ v))) (hs : s.size = 64 * n) (hn : n < 1099511627776) :
    Calls Try.prog 40 #[.string s, .func (.func 41) #[.pointer (some ⟨b, 0, none⟩)] #[]] w fun e w' => e = .returned (.tuple #[]) ∧ Blk w' b 77 (ints .u32 (K ++ shaBlocks K v s n)) ∧ Below b w w' := by
  have HK := Lib.hid hK
  have HV := Lib.hid hv
  have HS := Lib.hid hs
  clear hK hv hs
  go_enter Try.func40, Try.ntmps40
  go_wp2_with fail
  have hlt := hr.lt
  go_loopw [0] (fun x wr => ∃ (m : Nat) (s' : ByteArray) (v' : List Int), m ≤ n ∧ Hid (s'.size = 64 * m) ∧ Hid (v'.length = 8) ∧ x = .string s' ∧ Blk wr b 77 (ints .u32 (K ++ v')) ∧ Below b w wr ∧ Hid (shaBlocks K v' s' m = shaBlocks K v s n)) (fun x _ => strLen x)
  case atStart => exact ⟨n, s, v, Nat.le_refl _, HS, HV, rfl, hr, Below.refl _ _, Lib.hid rfl⟩
  case round =>
    obtain ⟨m, s', v', hm, hs', hv', rfl, hr', hb', hq⟩ := hrel
    have hsz := hs'.out
    have hbb := hr'.lt
    by_cases h0 : m = 0
    · subst h0
      have h1 : s'.size < 64 := by omega
      have h2 : (s'.size : Int) < 64 := by omega
      clear hsz h1
      go_wp2_with fail
      go_end0
      refine ⟨rfl, ?_, hb'⟩
      rw [← hq.out]; exact hr'
    · obtain ⟨k, rfl⟩ : ∃ k, m = k + 1 := ⟨m - 1, by omega⟩
      have h1 : 64 ≤ s'.size := by omega
      have h2 : (64 : Int) ≤ (s'.size : Int) := by omega
      have hx : Hid ((s'.extract 0 64).size = 64) := Lib.hid (by rw [ByteArray.size_extract]; omega)
      have hy : Hid ((s'.extract 64 s'.size).size = 64 * k) := Lib.hid (by rw [ByteArray.size_extract]; omega)
      have hbig : s'.size ≤ 9223372036854775807 := by omega
      clear hsz
      go_wp2_with (go_at_call 41; refine (d_take b _ K v' _ HK.out hv'.out hr' hx.out).mono ?_; rintro e w2 ⟨rfl, hr2, hb2⟩)
      go_roundw
      case rel =>
        exact ⟨k, _, shaBlock K v' (s'.extract 0 64), by omega, hy, Lib.hid (by rw [shaBlock_len]; exact hv'.out), rfl, hr2, hb'.trans hb2, hq⟩
      case measure => simp [strLen]; omega
end Go.Proofs.Ytleofmeejjikmaa
namespace Go.Proofs.Ytleofmeejjikmaa
open Go.RowKit
set_option linter.unusedVariables false

def shaTail (s : ByteArray) : ByteArray := s.extract (s.size / 64 * 64) s.size ++ bs (fillL (s.size - s.size / 64 * 64) s.size)
theorem shaTail_size (s : ByteArray) : (shaTail s).size = 64 * ((shaTail s).size / 64) ∧ (shaTail s).size ≤ 128 := by
  have h := fillL_len (s.size - s.size / 64 * 64) s.size
  have : (shaTail s).size = (s.size - s.size / 64 * 64) + fillLen (s.size - s.size / 64 * 64) := by
    rw [shaTail, ByteArray.size_append, bs_size, h, ByteArray.size_extract]; omega
  rw [this]
  unfold fillLen
  omega

theorem built43 : Try.prog.built 77 [(0, Value.agg (ints .u32 kTable).toArray), (1, Value.agg (ints .u32 startL).toArray)] = some (ints .u32 (kTable ++ startL)).toArray := by kernel_rfl
theorem info43 : (Try.prog.info? 77).map (fun i => (i.zero, i.size)) = some (some (.agg (ints .u32 (zer 72)).toArray), 72) := by kernel_rfl
theorem size43 : (Try.prog.info? 77).map (·.size) = some 72 := by kernel_rfl

section
variable {P : Program} {ops : Array Oper} {rest : List Oper} {o : Oper} {a : Act} {w : World} {Q : Exit → Act → World → Prop}
/-- a composite that is known to come to these cells -/
theorem wpList_build_to (hg : o.guard = none) (t : TypeId) (parts : Array (Nat × Operand)) (ho : o.op = .build t parts) (vals : List (Nat × Value)) (cells : Array Value)
    (hv : (parts.map fun (i, x) => (i, a.eval x)).toList = vals) (hb : P.built t vals = some cells)
    (h : wpList P ops Q rest (a.put o.dst (.agg cells)) w) : wpList P ops Q (o :: rest) a w := by
  subst hv
  refine wpList_build hg t parts ho (by rw [hb]; rfl) ?_
  rw [hb]; exact h
end
def shaSumOf (K V : List Int) (s : ByteArray) : List Int :=
  hashL (shaBlocks K (shaBlocks K V (s.extract 0 (s.size / 64 * 64)) (s.size / 64)) (shaTail s) ((shaTail s).size / 64))

set_option maxHeartbeats 1000000 in
set_option maxRecDepth 100000 in
theorem d_Sum_of (K V : List Int) (hK : K.length = 64) (hV : V.length = 8)
    (hroots : ∀ w : World, Calls Try.prog 38 #[] w fun e w' => e = .returned (.agg (ints .u32 K).toArray) ∧ Below w.heap.size w w')
    (hstart : ∀ w : World, Calls Try.prog 39 #[] w fun e w' => e = .returned (.agg (ints .u32 V).toArray) ∧ Below w.heap.size w w')
    (hbuilt : Try.prog.built 77 [(0, Value.agg (ints .u32 K).toArray), (1, Value.agg (ints .u32 V).toArray)] = some (ints .u32 (K ++ V)).toArray)
    (s : ByteArray) (w : World) (hs : s.size ≤ 1099511627000) :
    Calls Try.prog 30 #[.string s] w fun e w' => e = .returned (.agg (ints .u8 (shaSumOf K V s)).toArray) ∧ Below w.heap.size w w' := by
  obtain ⟨hz43, _⟩ := zero_of_info info43
  have HB := Lib.hid hbuilt
  have hT := shaTail_size s
  have hfull : s.size / 64 * 64 ≤ s.size := Nat.div_mul_le_self _ _
  have HK := Lib.hid hK
  have HV := Lib.hid hV
  have HR := Lib.hid hroots
  have HS := Lib.hid hstart
  have HT := Lib.hid hT
  clear hK hV hroots hstart hbuilt hT
  generalize hZ : (ints IntKind.u32 (zer 72)) = Z at *
  have hZl : Z.length = 72 := by rw [← hZ]; rfl
  have HZ := Lib.hid hZl
  clear hZ hZl
  go_enter Try.func30, Try.ntmps30
  go_wp2_with (first | (go_at_call 38; refine (HR.out _).mono ?_; rintro e w1 ⟨rfl, hb1⟩) | (go_at_call 39; refine (HS.out _).mono ?_; rintro e w2 ⟨rfl, hb2⟩) | (refine wpList_store_blk rfl 77 _ _ rfl w2.heap.size (ints .u32 (K ++ V)) rfl rfl (Blk.new' w2 77 Z rfl) (by rw [size43, ints_length, List.length_append, HK.out, HV.out]) (by rw [ints_length, List.length_append, HK.out, HV.out, HZ.out]) (ints_one _ _) ?_) | (refine wpList_build_to rfl 77 _ rfl _ _ ?hv HB.out ?_; case hv => (simp only [List.map_toArray, List.map_cons, List.map_nil]; go_loud (rfl))))
  have hb3 : Below w.heap.size w ((w2.alloc (.cells Z.toArray 77)).setRow w2.heap.size (ints .u32 (K ++ V)).toArray) := by
    have h1 : Below w.heap.size w w1 := ((Below.refl _ _).alloc (Nat.le_refl _) _).trans (hb1.mono (by simp))
    have h2 : Below w.heap.size w w2 := h1.trans (hb2.mono h1.size)
    exact below_setRow (h2.alloc h2.size _) h2.size _
  have hr3 : Blk ((w2.alloc (.cells Z.toArray 77)).setRow w2.heap.size (ints .u32 (K ++ V)).toArray) w2.heap.size 77 (ints .u32 (K ++ V)) :=
    (Blk.new' w2 77 Z rfl).row _ (by rw [ints_length, List.length_append, HK.out, HV.out, HZ.out])
  have hB : w.heap.size < w2.heap.size := by
    have h1 := hb1.size
    have h2 := hb2.size
    simp at h1
    omega
  have hz3 : Blk ((w2.alloc (.cells Z.toArray 77)).setRow w2.heap.size (ints .u32 (K ++ V)).toArray) w.heap.size 29 (ints .u8 (zer 32)) := by
    refine Blk.rowOther (Blk.alloc ?_ _) (by omega) _
    exact ((Blk.new' w 29 (ints .u8 (zer 32)) rfl).below hb1 (by simp)).below hb2 (by have := hb1.size; simp at this; omega)
  generalize hw3 : World.setRow _ _ _ = w3 at *
  generalize w2.heap.size = B at *
  clear hw3
  refine (d_eachBlock B (s.size / 64) _ K V _ HK.out HV.out hr3 (by rw [ByteArray.size_extract]; omega) (by omega)).mono ?_
  rintro e w4 ⟨rfl, hr4, hb4⟩
  go_wp2_with fail
  have e0 : (0 : Int) ≤ (s.size : Int) / 64 * 64 := by omega
  have e1 : (s.size : Int) / 64 * 64 ≤ (s.size : Int) := by omega
  have e2 : ((s.size : Int) / 64 * 64).toNat = s.size / 64 * 64 := by omega
  have e3 : IntKind.i64.wrap ((s.size : Int) - (s.size : Int) / 64 * 64) = ((s.size - s.size / 64 * 64 : Nat) : Int) := by rw [IntWalk.i64_in _ (by omega)]; omega
  have hfil : ∀ wx, NewBut w4 wx → Calls Try.prog 42 #[.int .i64 ((s.size - s.size / 64 * 64 : Nat) : Int), .int .i64 (s.size : Int)] wx fun e w' => e = .returned (.string (bs (fillL (s.size - s.size / 64 * 64) s.size))) ∧ NewBut w4 w' := fun wx hx =>
    (d_filling (s.size - s.size / 64 * 64) s.size wx (by omega) (by omega)).mono fun e w' ⟨he, hb⟩ => ⟨he, hx.trans (hb.mono hx.size)⟩
  have HFil := Lib.hid hfil
  clear hfil
  have hts : (s.extract (s.size / 64 * 64) s.size).size + (bs (fillL (s.size - s.size / 64 * 64) s.size)).size ≤ 9223372036854775807 := by
    rw [bs_size, fillL_len, ByteArray.size_extract]
    have := fillLen_ge (s.size - s.size / 64 * 64)
    omega
  have hcat := fun w' => run_string_add_sum (P := Try.prog) w' _ _ hts
  clear hts
  refine region_quiet_tail (C := NewBut w4) 12 mixed (by kernel_rfl) (show Below _ _ _ from (Below.refl _ _).drew) ?_
  simp only [List.take_succ_cons, List.take_zero, List.drop_succ_cons, List.drop_zero]
  repeat (refine wpQuiet_step (fun K' hK' => ?_); go_simp; first | (refine ⟨_, fun _ _ => rfl, hK' _ ?_⟩; clear hK' K') | (refine ⟨_, fun wx hx => HFil.out wx hx, hK' _ ?_⟩; clear hK' K'))
  refine wpQuiet_nil ?_
  intro w5 hb5
  have hr5 := hr4.below hb5 hr4.lt
  have hV1 : Hid ((shaBlocks K V (s.extract 0 (s.size / 64 * 64)) (s.size / 64)).length = 8) := Lib.hid (by rw [shaBlocks_len, HV.out])
  have hBlt := hr3.lt
  go_wp2_with fail
  refine (d_eachBlock B ((shaTail s).size / 64) (shaTail s) K _ _ HK.out hV1.out hr5 HT.out.1 (by have := HT.out.2; omega)).mono ?_
  rintro e w6 ⟨rfl, hr6, hb6⟩
  have hV2 : Hid ((shaBlocks K (shaBlocks K V (s.extract 0 (s.size / 64 * 64)) (s.size / 64)) (shaTail s) ((shaTail s).size / 64)).length = 8) := Lib.hid (by rw [shaBlocks_len, hV1.out])
  have hz6 : Blk w6 w.heap.size 29 (ints .u8 (zer 32)) := ((hz3.below hb4 hB).below hb5 (by have := hb4.size; omega)).below hb6 hB
  have hw6 : Below w.heap.size w w6 := ((hb3.trans (hb4.mono (by omega))).trans (hb5.mono (by have := hb4.size; omega))).trans (hb6.mono (by omega))
  have hz7 : ∀ w7, Below w6.heap.size w6 w7 → Blk w7 w.heap.size 29 (ints .u8 (zer 32)) := fun w7 h => hz6.below h hz6.lt
  have HL : Hid (∀ v, (hashL v).length = 32) := Lib.hid hashL_len
  have HO : Hid (∀ v : List Int, (ints .u8 (hashL v)).length = 32) := Lib.hid (fun v => by rw [ints_length, hashL_len])
  go_wp2_with (first | (go_at_call 43; refine (d_hash B K _ _ HK.out hV2.out hr6).mono ?_; rintro e w7 ⟨rfl, hb7⟩) | (refine wpList_store_blk rfl 29 _ _ rfl w.heap.size (ints .u8 (shaSumOf K V s)) rfl rfl (hz7 _ hb7) (by rw [size_hash]; exact congrArg some (HO.out _).symm) (by rw [ints_length]; exact (HO.out _).symm) (ints_one _ _) ?_))
  refine bodyPost_ret (v := .agg (ints .u8 (shaSumOf K V s)).toArray) (results_cell_blk rfl _ _ _ rfl ((hz7 _ hb7).row (ints .u8 (shaSumOf K V s)) ((HO.out _).trans rfl)) Try.underlying29 rfl (by rw [size_hash]; exact congrArg some (HO.out _).symm)) rfl ⟨rfl, below_setRow (hw6.trans (hb7.mono hw6.size)) (Nat.le_refl _) _⟩

theorem d_Sum (s : ByteArray) (w : World) (hs : s.size ≤ 1099511627000) :
    Calls Try.prog 30 #[.string s] w fun e w' => e = .returned (.agg (ints .u8 (shaSumOf kTable startL s)).toArray) ∧ Below w.heap.size w w' :=
  d_Sum_of kTable startL kTable_len rfl d_roots d_start built43 s w hs
end Go.Proofs.Ytleofmeejjikmaa
namespace Go.Proofs.Ytleofmeejjikmaa
open Go.RowKit
set_option linter.unusedVariables false

theorem range_new (w : World) (t : TypeId) (l : List Int) : (w.alloc (.cells (ints .u8 l).toArray t)).rangeAt w.heap.size 0 (ints .u8 l) :=
  Blk.range (x := []) (y := ints .u8 l) (z := []) (by simpa using Blk.new w t (ints .u8 l))
theorem alloc_ge (w : World) (o : Obj) {B : Nat} (h : B ≤ w.heap.size) : B ≤ (w.alloc o).heap.size := by
  simp; omega
theorem step_append_bytes {P : Program} {ops : Array Oper} {o : Oper} {a : Act} {w : World} {K : Act → World → Prop} {Q : Exit → Act → World → Prop} {E : Prop} (hgd : o.guard = none) (s x : Operand) (t : TypeId)
    (ho : o.op = .call { callee := .builtin .append, args := #[s, x], argTypes := #[t, t] })
    (base : Nat) (e : TypeId) (ht : P.underlying t = some (.slice e)) (hinfo : (P.info? e).map (fun i => (i.zero, i.size, i.bytes)) = some (some (.int .u8 0), 1, 1))
    (v : Value) (l : List Int) (hs : a.eval s = v) (hown : OwnB w base e v l)
    (b m c : Nat) (news : List Int) (hx : a.eval x = .slice (some ⟨b, 0, none⟩) m c) (hl : m = news.length) (hnews : w.rangeAt b 0 (ints .u8 news))
    (hbig : l.length + news.length ≤ 140737488355328) (hbase : base ≤ w.heap.size)
    (h : ∀ v' w', OwnB w' base e v' (l ++ news) → w.grownBy w' v.ownBlock → K (a.put o.dst v') w') : if Region.wanted o (yielded ops a.tmps) = true then Oper.wp P o a w K Q else E := by
  obtain ⟨i0, hi0, hz0, hz1, hz2⟩ := info_parts hinfo
  subst hl
  rw [if_pos (by simp [Region.wanted, hgd])]
  refine wp_append_own w s x t ho base e i0 (.int .u8 0) 1 1 ht hi0 hz0 hz1 hz2 rfl (by decide) v l.length (ints .u8 l) hs hown ⟨b, 0, none⟩ news.length c (ints .u8 news) hx (by simp [ints_length])
    (fun j u hj => by rw [Addr.add_mid]; exact hnews j u hj) (fun u hu => ?_) (by unfold maxLen; omega) (by omega) hbase (fun v' w' h1 h2 _ => h v' w' ?_ h2)
  · simp only [ints, List.mem_map] at hu
    obtain ⟨n, _, rfl⟩ := hu
    rfl
  · unfold OwnB
    rw [List.length_append, ints_app]; exact h1
end Go.Proofs.Ytleofmeejjikmaa
namespace Go.Proofs.Ytleofmeejjikmaa
open Go.RowKit
set_option linter.unusedVariables false

def padK (key : ByteArray) : List Int := is key ++ zer (64 - key.size)
theorem padK_len (key : ByteArray) (h : key.size ≤ 64) : (padK key).length = 64 := by simp [padK, is_length, zer]; omega
def xorTo (m : Int) (l : List Int) : Nat → List Int
  | 0 => l
  | k + 1 => (xorTo m l k).set k (bits .xor .u8 ((xorTo m l k).getD k 0) m)
theorem xorTo_len (m : Int) (l : List Int) : ∀ k, (xorTo m l k).length = l.length
  | 0 => rfl
  | k + 1 => by simp [xorTo, xorTo_len m l k]
def maskL (key : ByteArray) (m : Int) : List Int := xorTo m (padK key) 64

theorem byteCells_is (s : ByteArray) : Lib.byteCells s.data.toList = ints .u8 (is s) := by
  simp [Lib.byteCells, ints, is, Function.comp_def]

section
variable {P : Program} {ops : Array Oper} {rest : List Oper} {o : Oper} {a : Act} {w : World} {Q : Exit → Act → World → Prop}
theorem wpList_copy_string_blk (hgd : o.guard = none) (d s : Operand) (dT sT elem : TypeId) (ho : o.op = .call { callee := .builtin .copy, args := #[d, s], argTypes := #[dT, sT] })
    (g dLen dCap : Nat) (hd : a.eval d = .slice (some ⟨g, 0, none⟩) dLen dCap) (t : ByteArray) (hx : a.eval s = .string t) {ty : TypeId} {old : List Int} (hg : Blk w g ty (ints .u8 old))
    (hu : P.underlying dT = some (.slice elem)) (hs : (P.info? elem).map (·.size) = some 1) (hle : t.size ≤ dLen) (hfit : t.size ≤ old.length)
    (h : wpList P ops Q rest (a.put o.dst (goInt t.size)) (w.setRow g (ints .u8 (is t ++ old.drop t.size)).toArray)) : wpList P ops Q (o :: rest) a w :=
  wpList_plain hgd fun _ hK => by
    have hr := Lib.run_copy_row_string (P := P) w dT sT o.type elem g 0 dLen dCap t (ints .u8 old).toArray ty hu hs hg hle (by simpa [ints_length] using hfit)
    have e : (List.take 0 (ints .u8 old).toArray.toList ++ Lib.byteCells t.data.toList ++ List.drop (0 + t.size) (ints .u8 old).toArray.toList).toArray = (ints .u8 (is t ++ old.drop t.size)).toArray := by
      rw [byteCells_is]; simp [ints]
    rw [e] at hr
    unfold Oper.wp
    simp [execOp, ho, resolve, invoke, builtin, hd, hx, hr, Result.andThen]
    exact hK _ _ h
end

set_option maxHeartbeats 1000000 in
set_option maxRecDepth 100000 in
theorem d_mask (kb : Nat) (key : ByteArray) (m : Int) (w : World) (hk : key.size ≤ 64) (hb : Blk w kb 9 [.string key]) :
    Calls Try.prog 31 #[.int .u8 m, .pointer (some ⟨kb, 0, none⟩)] w fun e w' => e = .returned (.string (bs (maskL key m))) ∧ Below w.heap.size w w' := by
  have hlt := hb.lt
  have hc := hb.cell 0
  have hc0 : w.cell? ⟨kb, 0, none⟩ = some (.string key) := by rw [hc]; rfl
  clear hc
  go_enter Try.func31, Try.ntmps31
  go_wp2
  generalize hw2 : World.alloc w _ = w2
  have hb2 : Below w.heap.size w w2 := by rw [← hw2]; exact (Below.refl _ _).alloc (Nat.le_refl _) _
  have hk1 : Blk w2 w.heap.size 58 (ints .u8 (zer 64)) := by rw [← hw2]; exact Blk.new' _ _ _ rfl
  have hc2 : w2.cell? ⟨kb, 0, none⟩ = some (.string key) := by rw [hb2.cell hlt]; exact hc0
  clear hw2 hc0 hb
  have hlen := padK_len key hk
  have hpad : is key ++ (zer 64).drop key.size = padK key := by unfold padK zer; rw [List.drop_replicate]
  refine region_drew_tail 2 mixed (by kernel_rfl) ?_
  simp only [List.take_succ_cons, List.take_zero, List.drop_succ_cons, List.drop_zero]
  repeat (first | go_big_quiet_step (fail) | quiet_step (fail))
  refine wpQuiet_nil ?_
  rintro _ ⟨nq, rfl⟩
  have hk3 := hk1.drewN nq
  have hb3 := below_drewN hb2 nq
  generalize w2.drewN nq = w3 at *
  clear hc2
  go_wp2_with (first | (refine wpList_copy_string_blk rfl _ _ 53 9 5 rfl w.heap.size 64 64 rfl key rfl hk3 Try.underlying53 size_u8 hk (by simp [zer]; exact hk) ?_))
  have hk4 := hk3.row (ints .u8 (padK key)) (by rw [ints_length, hlen]; rfl)
  have hb4 := below_setRow hb3 (Nat.le_refl _) (ints .u8 (padK key)).toArray
  generalize World.setRow _ _ _ = w4 at *
  have HP := Lib.hid hlen
  clear hpad hlen
  go_loopw [5, 9] (fun _ i wr => ∃ k : Nat, k ≤ 64 ∧ i = .int .i64 k ∧ Blk wr w.heap.size 58 (ints .u8 (xorTo m (padK key) k)) ∧ Below w.heap.size w wr) (fun _ i _ => 64 - (intOf i).toNat)
  case atStart => exact ⟨0, by omega, rfl, hk4, hb4⟩
  case round =>
    obtain ⟨k, hkk, rfl, hz, hbel⟩ := hrel
    have hl := xorTo_len m (padK key) k
    rw [HP.out] at hl
    by_cases hlt2 : k < 64
    · have hstep : xorTo m (padK key) (k + 1) = (xorTo m (padK key) k).set k (bits .xor .u8 ((xorTo m (padK key) k).getD k 0) m) := rfl
      have Hs := Lib.hid hstep
      clear hstep
      have hc := hz.int (j := k) (by omega)
      have hfr := hz.free k
      have hk64 : (k : Int) < 64 := by omega
      generalize xorTo m (padK key) k = l at *
      clear hl
      go_wp2
      go_roundw
      case rel =>
        refine ⟨k + 1, by omega, by go_num, ?_, hbel.setCell (Nat.le_refl _) _⟩
        rw [Hs.out]
        have := hz.setInt k (bits .xor .u8 (l.getD k 0) m)
        simp only [List.getD_eq_getElem?_getD] at this ⊢
        exact this
      case measure => simp [intOf]; omega
    · obtain rfl : k = 64 := by omega
      have hz' : Blk wr w.heap.size 58 (ints .u8 (maskL key m)) := hz
      have hrg : wr.rangeAt w.heap.size 0 (ints .u8 (maskL key m)) :=
        Blk.range (x := []) (y := ints .u8 (maskL key m)) (z := []) (by simpa using hz')
      go_wp2_with (first | (refine wpList_bytes_string rfl 53 9 5 _ rfl w.heap.size 64 64 (maskL key m) rfl Try.underlying53 Try.underlying5 Try.underlying9 hrg hl.symm ?_))
      go_ret
      exact ⟨rfl, hbel⟩

section
variable {P : Program} {C : World → Prop} {zs : Array Oper} {Q : Act → Prop} {op : Oper} {rest : List Oper} {a : Act}
theorem wpQuiet_run (hgd : op.guard = none) (v : Value) (hr : ∀ w', C w' → (execOp a.eval op).run P w' = .ok (.value v) w') (h : wpQuiet P zs C Q rest (a.put op.dst v)) : wpQuiet P zs C Q (op :: rest) a := by
  unfold wpQuiet
  rw [if_pos (wanted_free hgd [] zs a.tmps)]
  refine ⟨v, fun w' hw' => ?_, h⟩
  unfold Oper.quietAt
  rw [hr w' hw']
  exact ⟨rfl, rfl⟩
theorem wpQuiet_bytes_string (hgd : op.guard = none) (src dst e : TypeId) (x : Operand) (ho : op.op = .convert src dst x) (b n cap : Nat) (l : List Int)
    (hx : a.eval x = .slice (some ⟨b, 0, none⟩) n cap) (hs : P.underlying src = some (.slice e)) (he : P.underlying e = some (.int .u8)) (hd : P.underlying dst = some .string)
    (hc : ∀ w', C w' → w'.rangeAt b 0 (ints .u8 l)) (hn : n = l.length) (h : wpQuiet P zs C Q rest (a.put op.dst (.string (bs l)))) : wpQuiet P zs C Q (op :: rest) a :=
  wpQuiet_run hgd (.string (bs l)) (fun w' hw' => by
    unfold execOp
    simp only [ho, hx, Sem.run_bind, run_bytes_string (P := P) (w := w') src dst e b n cap l hs he hd (hc w' hw') hn, Result.andThen_ok]
    rfl) h
end

def sumL (s : ByteArray) : List Int := shaSumOf kTable startL s
theorem sumL_len (s : ByteArray) : (sumL s).length = 32 := hashL_len _
def keyOf (key : ByteArray) : ByteArray := if key.size ≤ 64 then key else bs (sumL key)
theorem keyOf_size (key : ByteArray) : (keyOf key).size ≤ 64 := by
  unfold keyOf; split
  · assumption
  · rw [bs_size, sumL_len]; omega
def innerL (k s : ByteArray) : List Int := sumL (bs (maskL k 54) ++ s)
def macOf (k s : ByteArray) : List Int := sumL (bs (maskL k 92) ++ bs (innerL k s))
def macL (key s : ByteArray) : List Int := macOf (keyOf key) s
theorem maskL_len (k : ByteArray) (h : k.size ≤ 64) (m : Int) : (maskL k m).length = 64 := by rw [maskL, xorTo_len, padK_len k h]

set_option maxHeartbeats 2000000 in
set_option maxRecDepth 100000 in
theorem d_Mac_short (key s : ByteArray) (w : World) (hk : key.size ≤ 64) (hs : s.size ≤ 549755813888) :
    Calls Try.prog 23 #[.string key, .string s] w fun e w' => e = .returned (.agg (ints .u8 (macOf key s)).toArray) ∧ Below w.heap.size w w' := by
  have hm := fun m => maskL_len key hk m
  have hin : ∀ w, Calls Try.prog 30 #[.string (bs (maskL key 54) ++ s)] w fun e w' => e = .returned (.agg (ints .u8 (innerL key s)).toArray) ∧ Below w.heap.size w w' := fun w => d_Sum _ w (by rw [ByteArray.size_append, bs_size, hm]; omega)
  have hou : ∀ w, Calls Try.prog 30 #[.string (bs (maskL key 92) ++ bs (innerL key s))] w fun e w' => e = .returned (.agg (ints .u8 (macOf key s)).toArray) ∧ Below w.heap.size w w' := fun w => d_Sum _ w (by rw [ByteArray.size_append, bs_size, hm, bs_size, innerL, sumL_len]; omega)
  have hil : (innerL key s).length = 32 := sumL_len _
  have hol : (macOf key s).length = 32 := sumL_len _
  have hcat1 := fun w' => run_string_add_sum (P := Try.prog) w' (bs (maskL key 54)) s (by rw [bs_size, hm]; omega)
  have hcat2 := fun w' => run_string_add_sum (P := Try.prog) w' (bs (maskL key 92)) (bs (innerL key s)) (by rw [bs_size, hm, bs_size, hil]; omega)
  have HI := Lib.hid hin
  have HO := Lib.hid hou
  have HIL := Lib.hid hil
  have HOL := Lib.hid hol
  generalize innerL key s = I at *
  generalize macOf key s = O at *
  have HM := Lib.hid hm
  have hkz : (key.size : Int) ≤ 64 := by omega
  clear hin hou hil hol hm
  have hkb : ∀ o, Blk ((w.alloc (.cells #[.string key] 9)).alloc o) w.heap.size 9 [.string key] := fun o => (Blk.new' w 9 [.string key] rfl).alloc o
  go_enter Try.func23, Try.ntmps23
  go_wp2_with fail
  have hbel1 : ∀ o, Below w.heap.size w ((w.alloc (.cells #[.string key] 9)).alloc o) := fun o => ((Below.refl _ _).alloc (Nat.le_refl _) _).alloc (by simp) _
  have hres1 : Blk ((w.alloc (.cells #[.string key] 9)).alloc (.cells (ints .u8 (zer 32)).toArray 29)) (w.heap.size + 1) 29 (ints .u8 (zer 32)) := Blk.new2 _ _ _ _ rfl
  have hk1 := hkb (.cells (ints .u8 (zer 32)).toArray 29)
  have hb1 := hbel1 (.cells (ints .u8 (zer 32)).toArray 29)
  have ez : (.cells (ints .u8 (zer 32)).toArray 29 : Obj) = .cells #[.int .u8 0, .int .u8 0, .int .u8 0, .int .u8 0, .int .u8 0, .int .u8 0, .int .u8 0, .int .u8 0, .int .u8 0, .int .u8 0, .int .u8 0, .int .u8 0, .int .u8 0, .int .u8 0, .int .u8 0, .int .u8 0, .int .u8 0, .int .u8 0, .int .u8 0, .int .u8 0, .int .u8 0, .int .u8 0, .int .u8 0, .int .u8 0, .int .u8 0, .int .u8 0, .int .u8 0, .int .u8 0, .int .u8 0, .int .u8 0, .int .u8 0, .int .u8 0] 29 := rfl
  rw [ez] at hres1 hk1 hb1
  generalize World.alloc (World.alloc w _) _ = w1 at *
  clear ez hkb hbel1
  refine (d_mask w.heap.size key 54 _ hk hk1).mono ?_
  rintro e w2 ⟨rfl, hb2⟩
  have hk2 := hk1.below hb2 hk1.lt
  have hr2 := hres1.below hb2 hres1.lt
  have hbel2 := hb1.trans (hb2.mono hb1.size)
  go_wp2_with (first | (go_at_call 30; refine (HI.out _).mono ?_; rintro e w3 ⟨rfl, hb3⟩) | (refine wpList_store_blk rfl 29 _ _ rfl w3.heap.size (ints .u8 I) rfl rfl (Blk.new' w3 29 (ints .u8 (zer 32)) rfl) (by rw [size_hash, ints_length, HIL.out]) (by rw [ints_length, ints_length, HIL.out]; rfl) (ints_one _ _) ?_))
  have hsz3 := hb3.size
  have hI4 : Blk ((w3.alloc (.cells #[.int .u8 0, .int .u8 0, .int .u8 0, .int .u8 0, .int .u8 0, .int .u8 0, .int .u8 0, .int .u8 0, .int .u8 0, .int .u8 0, .int .u8 0, .int .u8 0, .int .u8 0, .int .u8 0, .int .u8 0, .int .u8 0, .int .u8 0, .int .u8 0, .int .u8 0, .int .u8 0, .int .u8 0, .int .u8 0, .int .u8 0, .int .u8 0, .int .u8 0, .int .u8 0, .int .u8 0, .int .u8 0, .int .u8 0, .int .u8 0, .int .u8 0, .int .u8 0] 29)).setRow w3.heap.size (ints .u8 I).toArray) w3.heap.size 29 (ints .u8 I) := (Blk.new' w3 29 (ints .u8 (zer 32)) rfl).row _ (by rw [ints_length, ints_length, HIL.out]; rfl)
  have hk4 : Blk ((w3.alloc (.cells #[.int .u8 0, .int .u8 0, .int .u8 0, .int .u8 0, .int .u8 0, .int .u8 0, .int .u8 0, .int .u8 0, .int .u8 0, .int .u8 0, .int .u8 0, .int .u8 0, .int .u8 0, .int .u8 0, .int .u8 0, .int .u8 0, .int .u8 0, .int .u8 0, .int .u8 0, .int .u8 0, .int .u8 0, .int .u8 0, .int .u8 0, .int .u8 0, .int .u8 0, .int .u8 0, .int .u8 0, .int .u8 0, .int .u8 0, .int .u8 0, .int .u8 0, .int .u8 0] 29)).setRow w3.heap.size (ints .u8 I).toArray) w.heap.size 9 [.string key] := ((hk2.below hb3 hk2.lt).alloc _).rowOther (by have := hk2.lt; omega) _
  have hr4 : Blk ((w3.alloc (.cells #[.int .u8 0, .int .u8 0, .int .u8 0, .int .u8 0, .int .u8 0, .int .u8 0, .int .u8 0, .int .u8 0, .int .u8 0, .int .u8 0, .int .u8 0, .int .u8 0, .int .u8 0, .int .u8 0, .int .u8 0, .int .u8 0, .int .u8 0, .int .u8 0, .int .u8 0, .int .u8 0, .int .u8 0, .int .u8 0, .int .u8 0, .int .u8 0, .int .u8 0, .int .u8 0, .int .u8 0, .int .u8 0, .int .u8 0, .int .u8 0, .int .u8 0, .int .u8 0] 29)).setRow w3.heap.size (ints .u8 I).toArray) (w.heap.size + 1) 29 (ints .u8 (zer 32)) := ((hr2.below hb3 hr2.lt).alloc _).rowOther (by have := hr2.lt; omega) _
  have hbel3 : Below w.heap.size w w3 := hbel2.trans (hb3.mono hbel2.size)
  have hbel4 : Below w.heap.size w ((w3.alloc (.cells #[.int .u8 0, .int .u8 0, .int .u8 0, .int .u8 0, .int .u8 0, .int .u8 0, .int .u8 0, .int .u8 0, .int .u8 0, .int .u8 0, .int .u8 0, .int .u8 0, .int .u8 0, .int .u8 0, .int .u8 0, .int .u8 0, .int .u8 0, .int .u8 0, .int .u8 0, .int .u8 0, .int .u8 0, .int .u8 0, .int .u8 0, .int .u8 0, .int .u8 0, .int .u8 0, .int .u8 0, .int .u8 0, .int .u8 0, .int .u8 0, .int .u8 0, .int .u8 0] 29)).setRow w3.heap.size (ints .u8 I).toArray) := below_setRow (hbel3.alloc hbel3.size _) hbel3.size _
  generalize World.setRow _ _ _ = w4 at *
  generalize w3.heap.size = B at *
  have hmask : ∀ wx, NewBut w4 wx → Calls Try.prog 31 #[.int .u8 92, .pointer (some ⟨w.heap.size, 0, none⟩)] wx fun e w' => e = .returned (.string (bs (maskL key 92))) ∧ NewBut w4 w' := fun wx hx =>
    (d_mask w.heap.size key 92 wx hk (hk4.below hx hk4.lt)).mono fun e w' ⟨he, hb⟩ => ⟨he, hx.trans (hb.mono hx.size)⟩
  have HMask := Lib.hid hmask
  clear hmask
  have hIr : ∀ wx, NewBut w4 wx → wx.rangeAt B 0 (ints .u8 I) := fun wx hx => Blk.range (x := []) (y := ints .u8 I) (z := []) (by simpa using hI4.below hx hI4.lt)
  have HIr := Lib.hid hIr
  clear hIr
  refine region_quiet_tail (C := NewBut w4) 5 mixed (by kernel_rfl) (show Below _ _ _ from (Below.refl _ _).drew) ?_
  simp only [List.take_succ_cons, List.take_zero, List.drop_succ_cons, List.drop_zero]
  repeat (first | (refine wpQuiet_bytes_string rfl 53 9 5 _ rfl B 32 32 I rfl Try.underlying53 Try.underlying5 Try.underlying9 HIr.out HIL.out.symm ?_) | (refine wpQuiet_step (fun K' hK' => ?_); go_simp; first | (refine ⟨_, fun _ _ => rfl, hK' _ ?_⟩; clear hK' K') | (refine ⟨_, fun wx hx => HMask.out wx hx, hK' _ ?_⟩; clear hK' K')))
  refine wpQuiet_nil ?_
  intro w5 hb5
  have hb5' : Below w4.heap.size w4 w5 := hb5
  clear hb5
  have hr5 := hr4.below hb5' hr4.lt
  have hbel5 := hbel4.trans (hb5'.mono hbel4.size)
  have hr6 : ∀ w6, Below w5.heap.size w5 w6 → Blk w6 (w.heap.size + 1) 29 (ints .u8 (zer 32)) := fun w6 h => hr5.below h hr5.lt
  go_wp2_with (first | (go_at_call 30; refine (HO.out _).mono ?_; rintro e w6 ⟨rfl, hb6⟩) | (refine wpList_store_blk rfl 29 _ _ rfl (w.heap.size + 1) (ints .u8 O) rfl rfl (hr6 _ hb6) (by rw [size_hash, ints_length, HOL.out]) (by rw [ints_length, ints_length, HOL.out]; rfl) (ints_one _ _) ?_))
  refine bodyPost_ret (v := .agg (ints .u8 O).toArray) (results_cell_blk rfl _ _ _ rfl ((hr6 _ hb6).row (ints .u8 O) (by rw [ints_length, ints_length, HOL.out]; rfl)) Try.underlying29 rfl (by rw [size_hash, ints_length, HOL.out])) rfl ⟨rfl, below_setRow (hbel5.trans (hb6.mono hbel5.size)) (by omega) _⟩

set_option maxHeartbeats 2000000 in
set_option maxRecDepth 100000 in
theorem d_Mac_long (key0 s : ByteArray) (w : World) (hk0 : 64 < key0.size) (hk1' : key0.size ≤ 549755813888) (hs : s.size ≤ 549755813888) :
    Calls Try.prog 23 #[.string key0, .string s] w fun e w' => e = .returned (.agg (ints .u8 (macOf (bs (sumL key0)) s)).toArray) ∧ Below w.heap.size w w' := by
  have hkey : ∀ w, Calls Try.prog 30 #[.string key0] w fun e w' => e = .returned (.agg (ints .u8 (sumL key0)).toArray) ∧ Below w.heap.size w w' := fun w => d_Sum _ w (by omega)
  have hsl : (sumL key0).length = 32 := sumL_len _
  have hk : (bs (sumL key0)).size ≤ 64 := by rw [bs_size, hsl]; omega
  generalize sumL key0 = S0 at *
  have HKey := Lib.hid hkey
  have HSL := Lib.hid hsl
  clear hkey hsl
  generalize hkk : bs S0 = key at *
  have HKK := Lib.hid hkk
  clear hkk
  have hm := fun m => maskL_len key hk m
  have hin : ∀ w, Calls Try.prog 30 #[.string (bs (maskL key 54) ++ s)] w fun e w' => e = .returned (.agg (ints .u8 (innerL key s)).toArray) ∧ Below w.heap.size w w' := fun w => d_Sum _ w (by rw [ByteArray.size_append, bs_size, hm]; omega)
  have hou : ∀ w, Calls Try.prog 30 #[.string (bs (maskL key 92) ++ bs (innerL key s))] w fun e w' => e = .returned (.agg (ints .u8 (macOf key s)).toArray) ∧ Below w.heap.size w w' := fun w => d_Sum _ w (by rw [ByteArray.size_append, bs_size, hm, bs_size, innerL, sumL_len]; omega)
  have hil : (innerL key s).length = 32 := sumL_len _
  have hol : (macOf key s).length = 32 := sumL_len _
  have hcat1 := fun w' => run_string_add_sum (P := Try.prog) w' (bs (maskL key 54)) s (by rw [bs_size, hm]; omega)
  have hcat2 := fun w' => run_string_add_sum (P := Try.prog) w' (bs (maskL key 92)) (bs (innerL key s)) (by rw [bs_size, hm, bs_size, hil]; omega)
  have HI := Lib.hid hin
  have HO := Lib.hid hou
  have HIL := Lib.hid hil
  have HOL := Lib.hid hol
  generalize innerL key s = I at *
  generalize macOf key s = O at *
  have HM := Lib.hid hm
  have hkz : (64 : Int) < (key0.size : Int) := by omega
  have hkz1 : (key0.size : Int) ≤ 549755813888 := by omega
  clear hin hou hil hol hm
  have hkA : Blk ((w.alloc (.cells #[.string key0] 9)).alloc (.cells #[.int .u8 0, .int .u8 0, .int .u8 0, .int .u8 0, .int .u8 0, .int .u8 0, .int .u8 0, .int .u8 0, .int .u8 0, .int .u8 0, .int .u8 0, .int .u8 0, .int .u8 0, .int .u8 0, .int .u8 0, .int .u8 0, .int .u8 0, .int .u8 0, .int .u8 0, .int .u8 0, .int .u8 0, .int .u8 0, .int .u8 0, .int .u8 0, .int .u8 0, .int .u8 0, .int .u8 0, .int .u8 0, .int .u8 0, .int .u8 0, .int .u8 0, .int .u8 0] 29)) w.heap.size 9 [.string key0] := (Blk.new' w 9 [.string key0] rfl).alloc _
  have hrA : Blk ((w.alloc (.cells #[.string key0] 9)).alloc (.cells #[.int .u8 0, .int .u8 0, .int .u8 0, .int .u8 0, .int .u8 0, .int .u8 0, .int .u8 0, .int .u8 0, .int .u8 0, .int .u8 0, .int .u8 0, .int .u8 0, .int .u8 0, .int .u8 0, .int .u8 0, .int .u8 0, .int .u8 0, .int .u8 0, .int .u8 0, .int .u8 0, .int .u8 0, .int .u8 0, .int .u8 0, .int .u8 0, .int .u8 0, .int .u8 0, .int .u8 0, .int .u8 0, .int .u8 0, .int .u8 0, .int .u8 0, .int .u8 0] 29)) (w.heap.size + 1) 29 (ints .u8 (zer 32)) := Blk.new2 _ _ _ _ rfl
  have hbA : Below w.heap.size w ((w.alloc (.cells #[.string key0] 9)).alloc (.cells #[.int .u8 0, .int .u8 0, .int .u8 0, .int .u8 0, .int .u8 0, .int .u8 0, .int .u8 0, .int .u8 0, .int .u8 0, .int .u8 0, .int .u8 0, .int .u8 0, .int .u8 0, .int .u8 0, .int .u8 0, .int .u8 0, .int .u8 0, .int .u8 0, .int .u8 0, .int .u8 0, .int .u8 0, .int .u8 0, .int .u8 0, .int .u8 0, .int .u8 0, .int .u8 0, .int .u8 0, .int .u8 0, .int .u8 0, .int .u8 0, .int .u8 0, .int .u8 0] 29)) := ((Below.refl _ _).alloc (Nat.le_refl _) _).alloc (by simp) _
  have hcA := hkA.cell 0
  have hcA' : ((w.alloc (.cells #[.string key0] 9)).alloc (.cells #[.int .u8 0, .int .u8 0, .int .u8 0, .int .u8 0, .int .u8 0, .int .u8 0, .int .u8 0, .int .u8 0, .int .u8 0, .int .u8 0, .int .u8 0, .int .u8 0, .int .u8 0, .int .u8 0, .int .u8 0, .int .u8 0, .int .u8 0, .int .u8 0, .int .u8 0, .int .u8 0, .int .u8 0, .int .u8 0, .int .u8 0, .int .u8 0, .int .u8 0, .int .u8 0, .int .u8 0, .int .u8 0, .int .u8 0, .int .u8 0, .int .u8 0, .int .u8 0] 29)).cell? ⟨w.heap.size, 0, none⟩ = some (.string key0) := by rw [hcA]; rfl
  clear hcA
  go_enter Try.func23, Try.ntmps23
  go_wp2_with fail
  generalize World.alloc (World.alloc w _) _ = wA at *
  clear hcA'
  refine (HKey.out _).mono ?_
  rintro e wB ⟨rfl, hbB⟩
  have hkB := (hkA.below hbB hkA.lt)
  have hrB := (hrA.below hbB hrA.lt)
  have hbB' := hbA.trans (hbB.mono hbA.size)
  have hk3 : Blk ((wB.alloc (.cells #[.int .u8 0, .int .u8 0, .int .u8 0, .int .u8 0, .int .u8 0, .int .u8 0, .int .u8 0, .int .u8 0, .int .u8 0, .int .u8 0, .int .u8 0, .int .u8 0, .int .u8 0, .int .u8 0, .int .u8 0, .int .u8 0, .int .u8 0, .int .u8 0, .int .u8 0, .int .u8 0, .int .u8 0, .int .u8 0, .int .u8 0, .int .u8 0, .int .u8 0, .int .u8 0, .int .u8 0, .int .u8 0, .int .u8 0, .int .u8 0, .int .u8 0, .int .u8 0] 29)).setRow wB.heap.size (ints .u8 S0).toArray) w.heap.size 9 [.string key0] := (hkB.alloc _).rowOther (by have := hkB.lt; omega) _
  have hr3 : Blk ((wB.alloc (.cells #[.int .u8 0, .int .u8 0, .int .u8 0, .int .u8 0, .int .u8 0, .int .u8 0, .int .u8 0, .int .u8 0, .int .u8 0, .int .u8 0, .int .u8 0, .int .u8 0, .int .u8 0, .int .u8 0, .int .u8 0, .int .u8 0, .int .u8 0, .int .u8 0, .int .u8 0, .int .u8 0, .int .u8 0, .int .u8 0, .int .u8 0, .int .u8 0, .int .u8 0, .int .u8 0, .int .u8 0, .int .u8 0, .int .u8 0, .int .u8 0, .int .u8 0, .int .u8 0] 29)).setRow wB.heap.size (ints .u8 S0).toArray) (w.heap.size + 1) 29 (ints .u8 (zer 32)) := (hrB.alloc _).rowOther (by have := hrB.lt; omega) _
  have hh3 : Blk ((wB.alloc (.cells #[.int .u8 0, .int .u8 0, .int .u8 0, .int .u8 0, .int .u8 0, .int .u8 0, .int .u8 0, .int .u8 0, .int .u8 0, .int .u8 0, .int .u8 0, .int .u8 0, .int .u8 0, .int .u8 0, .int .u8 0, .int .u8 0, .int .u8 0, .int .u8 0, .int .u8 0, .int .u8 0, .int .u8 0, .int .u8 0, .int .u8 0, .int .u8 0, .int .u8 0, .int .u8 0, .int .u8 0, .int .u8 0, .int .u8 0, .int .u8 0, .int .u8 0, .int .u8 0] 29)).setRow wB.heap.size (ints .u8 S0).toArray) wB.heap.size 29 (ints .u8 S0) := (Blk.new' wB 29 (ints .u8 (zer 32)) rfl).row _ (by rw [ints_length, ints_length, HSL.out]; rfl)
  have hb3 : Below w.heap.size w ((wB.alloc (.cells #[.int .u8 0, .int .u8 0, .int .u8 0, .int .u8 0, .int .u8 0, .int .u8 0, .int .u8 0, .int .u8 0, .int .u8 0, .int .u8 0, .int .u8 0, .int .u8 0, .int .u8 0, .int .u8 0, .int .u8 0, .int .u8 0, .int .u8 0, .int .u8 0, .int .u8 0, .int .u8 0, .int .u8 0, .int .u8 0, .int .u8 0, .int .u8 0, .int .u8 0, .int .u8 0, .int .u8 0, .int .u8 0, .int .u8 0, .int .u8 0, .int .u8 0, .int .u8 0] 29)).setRow wB.heap.size (ints .u8 S0).toArray) := below_setRow (hbB'.alloc hbB'.size _) hbB'.size _
  have hc3 : ((wB.alloc (.cells #[.int .u8 0, .int .u8 0, .int .u8 0, .int .u8 0, .int .u8 0, .int .u8 0, .int .u8 0, .int .u8 0, .int .u8 0, .int .u8 0, .int .u8 0, .int .u8 0, .int .u8 0, .int .u8 0, .int .u8 0, .int .u8 0, .int .u8 0, .int .u8 0, .int .u8 0, .int .u8 0, .int .u8 0, .int .u8 0, .int .u8 0, .int .u8 0, .int .u8 0, .int .u8 0, .int .u8 0, .int .u8 0, .int .u8 0, .int .u8 0, .int .u8 0, .int .u8 0] 29)).setRow wB.heap.size (ints .u8 S0).toArray).cell? ⟨w.heap.size, 0, none⟩ = some (.string key0) := by rw [hk3.cell]; rfl
  have hf3 := hk3.free 0
  have hrg3 : ((wB.alloc (.cells #[.int .u8 0, .int .u8 0, .int .u8 0, .int .u8 0, .int .u8 0, .int .u8 0, .int .u8 0, .int .u8 0, .int .u8 0, .int .u8 0, .int .u8 0, .int .u8 0, .int .u8 0, .int .u8 0, .int .u8 0, .int .u8 0, .int .u8 0, .int .u8 0, .int .u8 0, .int .u8 0, .int .u8 0, .int .u8 0, .int .u8 0, .int .u8 0, .int .u8 0, .int .u8 0, .int .u8 0, .int .u8 0, .int .u8 0, .int .u8 0, .int .u8 0, .int .u8 0] 29)).setRow wB.heap.size (ints .u8 S0).toArray).rangeAt wB.heap.size 0 (ints .u8 S0) := Blk.range (x := []) (y := ints .u8 S0) (z := []) (by simpa using hh3)
  go_wp2_with (first | (refine wpList_store_blk rfl 29 _ _ rfl wB.heap.size (ints .u8 S0) rfl rfl (Blk.new' wB 29 (ints .u8 (zer 32)) rfl) (by rw [size_hash, ints_length, HSL.out]) (by rw [ints_length, ints_length, HSL.out]; rfl) (ints_one _ _) ?_) | (refine wpList_bytes_string rfl 53 9 5 _ rfl wB.heap.size 32 32 S0 rfl Try.underlying53 Try.underlying5 Try.underlying9 hrg3 HSL.out.symm ?_; rw [HKK.out]))
  have hk1 : Blk (((wB.alloc (.cells #[.int .u8 0, .int .u8 0, .int .u8 0, .int .u8 0, .int .u8 0, .int .u8 0, .int .u8 0, .int .u8 0, .int .u8 0, .int .u8 0, .int .u8 0, .int .u8 0, .int .u8 0, .int .u8 0, .int .u8 0, .int .u8 0, .int .u8 0, .int .u8 0, .int .u8 0, .int .u8 0, .int .u8 0, .int .u8 0, .int .u8 0, .int .u8 0, .int .u8 0, .int .u8 0, .int .u8 0, .int .u8 0, .int .u8 0, .int .u8 0, .int .u8 0, .int .u8 0] 29)).setRow wB.heap.size (ints .u8 S0).toArray).setCell ⟨w.heap.size, 0, none⟩ (.string key)) w.heap.size 9 [.string key] := hk3.set 0 (.string key)
  have hres1 : Blk (((wB.alloc (.cells #[.int .u8 0, .int .u8 0, .int .u8 0, .int .u8 0, .int .u8 0, .int .u8 0, .int .u8 0, .int .u8 0, .int .u8 0, .int .u8 0, .int .u8 0, .int .u8 0, .int .u8 0, .int .u8 0, .int .u8 0, .int .u8 0, .int .u8 0, .int .u8 0, .int .u8 0, .int .u8 0, .int .u8 0, .int .u8 0, .int .u8 0, .int .u8 0, .int .u8 0, .int .u8 0, .int .u8 0, .int .u8 0, .int .u8 0, .int .u8 0, .int .u8 0, .int .u8 0] 29)).setRow wB.heap.size (ints .u8 S0).toArray).setCell ⟨w.heap.size, 0, none⟩ (.string key)) (w.heap.size + 1) 29 (ints .u8 (zer 32)) := hr3.other (by simp) _
  have hb1 : Below w.heap.size w (((wB.alloc (.cells #[.int .u8 0, .int .u8 0, .int .u8 0, .int .u8 0, .int .u8 0, .int .u8 0, .int .u8 0, .int .u8 0, .int .u8 0, .int .u8 0, .int .u8 0, .int .u8 0, .int .u8 0, .int .u8 0, .int .u8 0, .int .u8 0, .int .u8 0, .int .u8 0, .int .u8 0, .int .u8 0, .int .u8 0, .int .u8 0, .int .u8 0, .int .u8 0, .int .u8 0, .int .u8 0, .int .u8 0, .int .u8 0, .int .u8 0, .int .u8 0, .int .u8 0, .int .u8 0] 29)).setRow wB.heap.size (ints .u8 S0).toArray).setCell ⟨w.heap.size, 0, none⟩ (.string key)) := hb3.setCell (Nat.le_refl _) _
  generalize World.setCell _ _ _ = w1 at *
  clear hc3 hf3 hrg3 hk3 hr3 hh3 hb3 hbB hkB hrB hbB' hkA hrA hbA
  refine (d_mask w.heap.size key 54 _ hk hk1).mono ?_
  rintro e w2 ⟨rfl, hb2⟩
  have hk2 := hk1.below hb2 hk1.lt
  have hr2 := hres1.below hb2 hres1.lt
  have hbel2 := hb1.trans (hb2.mono hb1.size)
  go_wp2_with (first | (go_at_call 30; refine (HI.out _).mono ?_; rintro e w3 ⟨rfl, hb3⟩) | (refine wpList_store_blk rfl 29 _ _ rfl w3.heap.size (ints .u8 I) rfl rfl (Blk.new' w3 29 (ints .u8 (zer 32)) rfl) (by rw [size_hash, ints_length, HIL.out]) (by rw [ints_length, ints_length, HIL.out]; rfl) (ints_one _ _) ?_))
  have hsz3 := hb3.size
  have hI4 : Blk ((w3.alloc (.cells #[.int .u8 0, .int .u8 0, .int .u8 0, .int .u8 0, .int .u8 0, .int .u8 0, .int .u8 0, .int .u8 0, .int .u8 0, .int .u8 0, .int .u8 0, .int .u8 0, .int .u8 0, .int .u8 0, .int .u8 0, .int .u8 0, .int .u8 0, .int .u8 0, .int .u8 0, .int .u8 0, .int .u8 0, .int .u8 0, .int .u8 0, .int .u8 0, .int .u8 0, .int .u8 0, .int .u8 0, .int .u8 0, .int .u8 0, .int .u8 0, .int .u8 0, .int .u8 0] 29)).setRow w3.heap.size (ints .u8 I).toArray) w3.heap.size 29 (ints .u8 I) := (Blk.new' w3 29 (ints .u8 (zer 32)) rfl).row _ (by rw [ints_length, ints_length, HIL.out]; rfl)
  have hk4 : Blk ((w3.alloc (.cells #[.int .u8 0, .int .u8 0, .int .u8 0, .int .u8 0, .int .u8 0, .int .u8 0, .int .u8 0, .int .u8 0, .int .u8 0, .int .u8 0, .int .u8 0, .int .u8 0, .int .u8 0, .int .u8 0, .int .u8 0, .int .u8 0, .int .u8 0, .int .u8 0, .int .u8 0, .int .u8 0, .int .u8 0, .int .u8 0, .int .u8 0, .int .u8 0, .int .u8 0, .int .u8 0, .int .u8 0, .int .u8 0, .int .u8 0, .int .u8 0, .int .u8 0, .int .u8 0] 29)).setRow w3.heap.size (ints .u8 I).toArray) w.heap.size 9 [.string key] := ((hk2.below hb3 hk2.lt).alloc _).rowOther (by have := hk2.lt; omega) _
  have hr4 : Blk ((w3.alloc (.cells #[.int .u8 0, .int .u8 0, .int .u8 0, .int .u8 0, .int .u8 0, .int .u8 0, .int .u8 0, .int .u8 0, .int .u8 0, .int .u8 0, .int .u8 0, .int .u8 0, .int .u8 0, .int .u8 0, .int .u8 0, .int .u8 0, .int .u8 0, .int .u8 0, .int .u8 0, .int .u8 0, .int .u8 0, .int .u8 0, .int .u8 0, .int .u8 0, .int .u8 0, .int .u8 0, .int .u8 0, .int .u8 0, .int .u8 0, .int .u8 0, .int .u8 0, .int .u8 0] 29)).setRow w3.heap.size (ints .u8 I).toArray) (w.heap.size + 1) 29 (ints .u8 (zer 32)) := ((hr2.below hb3 hr2.lt).alloc _).rowOther (by have := hr2.lt; omega) _
  have hbel3 : Below w.heap.size w w3 := hbel2.trans (hb3.mono hbel2.size)
  have hbel4 : Below w.heap.size w ((w3.alloc (.cells #[.int .u8 0, .int .u8 0, .int .u8 0, .int .u8 0, .int .u8 0, .int .u8 0, .int .u8 0, .int .u8 0, .int .u8 0, .int .u8 0, .int .u8 0, .int .u8 0, .int .u8 0, .int .u8 0, .int .u8 0, .int .u8 0, .int .u8 0, .int .u8 0, .int .u8 0, .int .u8 0, .int .u8 0, .int .u8 0, .int .u8 0, .int .u8 0, .int .u8 0, .int .u8 0, .int .u8 0, .int .u8 0, .int .u8 0, .int .u8 0, .int .u8 0, .int .u8 0] 29)).setRow w3.heap.size (ints .u8 I).toArray) := below_setRow (hbel3.alloc hbel3.size _) hbel3.size _
  generalize World.setRow _ _ _ = w4 at *
  generalize w3.heap.size = B at *
  have hmask : ∀ wx, NewBut w4 wx → Calls Try.prog 31 #[.int .u8 92, .pointer (some ⟨w.heap.size, 0, none⟩)] wx fun e w' => e = .returned (.string (bs (maskL key 92))) ∧ NewBut w4 w' := fun wx hx =>
    (d_mask w.heap.size key 92 wx hk (hk4.below hx hk4.lt)).mono fun e w' ⟨he, hb⟩ => ⟨he, hx.trans (hb.mono hx.size)⟩
  have HMask := Lib.hid hmask
  clear hmask
  have hIr : ∀ wx, NewBut w4 wx → wx.rangeAt B 0 (ints .u8 I) := fun wx hx => Blk.range (x := []) (y := ints .u8 I) (z := []) (by simpa using hI4.below hx hI4.lt)
  have HIr := Lib.hid hIr
  clear hIr
  refine region_quiet_tail (C := NewBut w4) 5 mixed (by kernel_rfl) (show Below _ _ _ from (Below.refl _ _).drew) ?_
  simp only [List.take_succ_cons, List.take_zero, List.drop_succ_cons, List.drop_zero]
  repeat (first | (refine wpQuiet_bytes_string rfl 53 9 5 _ rfl B 32 32 I rfl Try.underlying53 Try.underlying5 Try.underlying9 HIr.out HIL.out.symm ?_) | (refine wpQuiet_step (fun K' hK' => ?_); go_simp; first | (refine ⟨_, fun _ _ => rfl, hK' _ ?_⟩; clear hK' K') | (refine ⟨_, fun wx hx => HMask.out wx hx, hK' _ ?_⟩; clear hK' K')))
  refine wpQuiet_nil ?_
  intro w5 hb5
  have hb5' : Below w4.heap.size w4 w5 := hb5
  clear hb5
  have hr5 := hr4.below hb5' hr4.lt
  have hbel5 := hbel4.trans (hb5'.mono hbel4.size)
  have hr6 : ∀ w6, Below w5.heap.size w5 w6 → Blk w6 (w.heap.size + 1) 29 (ints .u8 (zer 32)) := fun w6 h => hr5.below h hr5.lt
  go_wp2_with (first | (go_at_call 30; refine (HO.out _).mono ?_; rintro e w6 ⟨rfl, hb6⟩) | (refine wpList_store_blk rfl 29 _ _ rfl (w.heap.size + 1) (ints .u8 O) rfl rfl (hr6 _ hb6) (by rw [size_hash, ints_length, HOL.out]) (by rw [ints_length, ints_length, HOL.out]; rfl) (ints_one _ _) ?_))
  refine bodyPost_ret (v := .agg (ints .u8 O).toArray) (results_cell_blk rfl _ _ _ rfl ((hr6 _ hb6).row (ints .u8 O) (by rw [ints_length, ints_length, HOL.out]; rfl)) Try.underlying29 rfl (by rw [size_hash, ints_length, HOL.out])) rfl ⟨rfl, below_setRow (hbel5.trans (hb6.mono hbel5.size)) (by omega) _⟩

theorem d_Mac (key s : ByteArray) (w : World) (hk : key.size ≤ 549755813888) (hs : s.size ≤ 549755813888) :
    Calls Try.prog 23 #[.string key, .string s] w fun e w' => e = .returned (.agg (ints .u8 (macL key s)).toArray) ∧ Below w.heap.size w w' := by
  unfold macL keyOf
  split
  · exact d_Mac_short key s w (by assumption) hs
  · exact d_Mac_long key s w (by omega) hk hs
end Go.Proofs.Ytleofmeejjikmaa
namespace Go.Proofs.Ytleofmeejjikmaa
open Go.RowKit
set_option linter.unusedVariables false

theorem ints_cells (l : List Int) (h : Octets l) : ints .u8 l = (l.map fun n => UInt8.ofNat n.toNat).map Extern.Stop.cell := by
  unfold ints
  rw [List.map_map]
  refine List.map_congr_left fun n hn => ?_
  obtain ⟨h0, h1⟩ := h n hn
  show Value.int .u8 n = Value.int .u8 ((UInt8.ofNat n.toNat).toNat : Int)
  congr 1
  rw [UInt8.toNat_ofNat']
  omega
theorem eql_hash (l : List Int) (h : Octets l) (hl : l.length = 32) (w : World) :
    (binOp .eql 29 (.agg (ints .u8 l).toArray) (.agg (ints .u8 l).toArray)).run Try.prog w = .ok (.bool true) w := by
  have := run_eql_bytes (P := Try.prog) w 29 5 32 Try.underlying29 Try.underlying5 sizeOf_u8 (l.map fun n => UInt8.ofNat n.toNat) (l.map fun n => UInt8.ofNat n.toNat) (by simpa using hl) (by simpa using hl)
  rw [← ints_cells l h] at this
  simpa using this
theorem hashL_octets (v : List Int) : Octets (hashL v) := by
  intro n hn
  simp only [hashL, List.mem_map] at hn
  obtain ⟨q, _, rfl⟩ := hn
  unfold hashAt
  omega
theorem sumL_octets (s : ByteArray) : Octets (sumL s) := hashL_octets _
theorem macL_len (k s : ByteArray) : (macL k s).length = 32 := sumL_len _
theorem macL_octets (k s : ByteArray) : Octets (macL k s) := sumL_octets _

set_option maxHeartbeats 1000000 in
set_option maxRecDepth 100000 in
theorem r_Bytes (h : List Int) (w : World) (hh : h.length = 32) :
    Calls Try.prog 17 #[.agg (ints .u8 h).toArray] w fun e w' => e = .returned (.string (bs h)) ∧ Below w.heap.size w w' := by
  have HH := Lib.hid hh
  clear hh
  go_enter Try.func17, Try.ntmps17
  go_wp2
  have hh1 : Blk ((w.alloc (.cells (ints .u8 h).toArray 29)).alloc (.cells #[] 5)) w.heap.size 29 (ints .u8 h) := (Blk.new w 29 (ints .u8 h)).alloc _
  have hk : OwnB ((w.alloc (.cells (ints .u8 h).toArray 29)).alloc (.cells #[] 5)) (w.heap.size + 1) 5 (.slice (some ⟨w.heap.size + 1, 0, none⟩) 0 0) (h.take 0) :=
    OwnB.ofBlk (l := []) [] (Blk.new2 w _ 5 (ints .u8 []) rfl) (Nat.le_refl _) rfl (by unfold maxLen; omega)
  have hbw : Below w.heap.size w ((w.alloc (.cells (ints .u8 h).toArray 29)).alloc (.cells #[] 5)) := ((Below.refl _ _).alloc (Nat.le_refl _) _).alloc (by simp) _
  have hs2 : w.heap.size + 1 ≤ ((w.alloc (.cells (ints .u8 h).toArray 29)).alloc (.cells #[] 5)).heap.size := by simp
  generalize World.alloc (World.alloc w _) _ = w2 at *
  go_loopw [3, 4] (fun v i wr => ∃ k : Nat, k ≤ 32 ∧ i = .int .i64 k ∧ OwnB wr (w.heap.size + 1) 5 v (h.take k) ∧ Below (w.heap.size + 1) w2 wr) (fun _ i _ => 32 - (intOf i).toNat)
  case atStart => exact ⟨0, by omega, rfl, hk, Below.refl _ _⟩
  case round =>
    obtain ⟨k, hk32, rfl, hown, hbel⟩ := hrel
    have hbelw : Below w.heap.size w wr := hbw.trans (hbel.mono (by omega))
    by_cases hlt : k < 32
    · have hc := (hh1.below hbel (Nat.lt_succ_self _)).int (j := k) (by rw [HH.out]; omega)
      have hstep : h.take (k + 1) = h.take k ++ [h.getD k 0] := by
        rw [List.take_succ_eq_append_getElem (by rw [HH.out]; omega)]
        simp [HH.out, hlt]
      have hlen : (h.take k).length = k := by rw [List.length_take, HH.out]; omega
      have Hs := Lib.hid hstep
      have Hl := Lib.hid hlen
      clear hstep hlen hk
      generalize h.getD k 0 = x at *
      generalize h.take k = l at *
      have hcap : l.length + [x].length ≤ 140737488355328 := by rw [Hl.out]; simp; omega
      have hsz : w.heap.size + 1 ≤ wr.heap.size := Nat.le_trans hs2 hbel.size
      have hk64 : (k : Int) < 32 := by omega
      go_wp2_with (first | (at_builtin; refine wpList_append_bytes rfl _ _ 53 rfl (w.heap.size + 1) 5 Try.underlying53 info_u8 _ l rfl (hown.alloc _) wr.heap.size 1 1 [x] rfl rfl (range_new wr 5 [x]) hcap (alloc_ge wr _ hsz) ?_; intro v' w4 hown4 hgrow4))
      have hb4 : Below (w.heap.size + 1) w2 w4 := Below.grown (hbel.alloc hsz _) hgrow4 (alloc_ge wr _ hsz) (fun k hk => (hown.lt k hk).1)
      go_roundw
      case rel => exact ⟨k + 1, by omega, by go_num, by rw [Hs.out]; exact hown4, hb4⟩
      case measure => simp [intOf]; omega
    · obtain rfl : k = 32 := by omega
      have hfull : h.take 32 = h := List.take_of_length_le (by rw [HH.out]; exact Nat.le_refl _)
      rw [hfull] at hown
      clear hfull hk
      go_wp2_with (first | (refine wpList_string_own rfl 53 9 5 _ rfl (w.heap.size + 1) _ h rfl Try.underlying53 Try.underlying5 Try.underlying9 hown ?_))
      go_ret
      exact ⟨rfl, hbelw⟩
end Go.Proofs.Ytleofmeejjikmaa
